/- Signs by carries: what next makes is the next carries; the sum of signs times bits is the value of the turned bits: no Go in sight. -/
import Derived.Test.YtejoombhcnldmaaTuOr
namespace Go.Proofs.Ytejoombhcnldmaa
open Go.RowKit
open Cb
open Tw (pm)

theorem sd0 : sd (0, 0) 0 = (0, 1) ∧ sd (0, 0) 1 = (0, 0) ∧ sd (0, 1) 0 = (0, 0) ∧ sd (0, 1) 1 = (0, 1) := by decide
theorem acm_l (sg b d : Nat) (hsg : sg < 2) (hb : b < 2) (hd : d < 2) (c t : Nat → Nat × Nat) (ht : ∀ i, lt2 (t i)) : acm sg c (sd (0, b)) t 4 d = st2 false sg b d c t := by
  have h0 := one_pm (ht 0)
  have h1 := one_pm (ht 1)
  obtain ⟨q1, q2, q3, q4⟩ := sd0
  obtain rfl | rfl : sg = 0 ∨ sg = 1 := by omega
  all_goals
    obtain rfl | rfl : b = 0 ∨ b = 1 := by omega
    all_goals
      obtain rfl | rfl : d = 0 ∨ d = 1 := by omega
      all_goals simp [acm, st2, q1, q2, q3, q4, h0, h1, zero_pm, pm_zero, zero_xa, xa_zero]
theorem acm_r (sg b d : Nat) (hsg : sg < 2) (hb : b < 2) (hd : d < 2) (c t : Nat → Nat × Nat) (ht : ∀ i, lt2 (t i)) : acm sg c t (sd (0, b)) 4 d = st2 true sg b d c t := by
  have h0 := pm_one (ht 0)
  have h1 := pm_one (ht 1)
  obtain ⟨q1, q2, q3, q4⟩ := sd0
  obtain rfl | rfl : sg = 0 ∨ sg = 1 := by omega
  all_goals
    obtain rfl | rfl : b = 0 ∨ b = 1 := by omega
    all_goals
      obtain rfl | rfl : d = 0 ∨ d = 1 := by omega
      all_goals (simp [acm, st2, q1, q2, q3, q4, h0, h1, pm_zero, zero_xa, xa_zero]; try (rw [xa_comm]))
/-- The sign at a point and a corner. -/
def sgn (k : Int) (p : List (Nat × Nat)) (s y : Nat) : Nat × Nat := if k = 3 then xa (cr false p s 0 y) (cr false p s 1 y) else cr (decide (k = 2)) p s 0 y
theorem sgn_ws (k : Int) (p : List (Nat × Nat)) (s y : Nat) (hs : s < 2 ^ p.length) (hy : y < 2 ^ p.length) : sgn k p s y = xs (2 ^ p.length) fun x => if wsB k (2 ^ p.length) s x y = true then wt p x else (0, 0) := by
  unfold sgn cr
  have hm : s % 2 ^ p.length = s := Nat.mod_eq_of_lt hs
  rw [hm]
  by_cases k3 : k = 3
  · rw [if_pos k3, ← xs_two]
    refine xs_congr _ fun x hx => ?_
    subst k3
    have h1 : (y + s) % 2 ^ p.length = if y + s < 2 ^ p.length then y + s else y + s - 2 ^ p.length := by
      split
      · exact Nat.mod_eq_of_lt (by assumption)
      · rw [Nat.mod_eq_sub_mod (by omega), Nat.mod_eq_of_lt (by omega)]
    have r0 : rel false (2 ^ p.length) s 0 x y = decide (y + s = x) := by unfold rel; rw [if_neg (by decide), decide_eq_decide]; omega
    have r1 : rel false (2 ^ p.length) s 1 x y = decide (y + s = x + 2 ^ p.length) := by unfold rel; rw [if_neg (by decide), decide_eq_decide]; omega
    have r2 : wsB 3 (2 ^ p.length) s x y = decide ((y + s) % 2 ^ p.length = x) := by unfold wsB; rw [if_neg (by decide), if_pos rfl]
    rw [r0, r1, r2, h1]
    by_cases c1 : y + s = x
    · rw [if_pos (decide_eq_true (by omega)), if_neg (by simp; omega), xa_zero, if_pos (decide_eq_true (by rw [if_pos (by omega)]; exact c1))]
    · by_cases c2 : y + s = x + 2 ^ p.length
      · rw [if_neg (by simp; omega), if_pos (decide_eq_true (by omega)), zero_xa, if_pos (decide_eq_true (by rw [if_neg (by omega)]; omega))]
      · rw [if_neg (by simp; omega), if_neg (by simp; omega), xa_zero, if_neg (by simp; split <;> omega)]
  · rw [if_neg k3]
    refine xs_congr _ fun x hx => ?_
    have : rel (decide (k = 2)) (2 ^ p.length) s 0 x y = wsB k (2 ^ p.length) s x y := by
      unfold rel wsB
      by_cases k2 : k = 2
      · rw [if_pos (decide_eq_true k2), if_pos k2, decide_eq_decide]; omega
      · rw [if_neg (by simp [k2]), if_neg k2, if_neg k3, decide_eq_decide]; omega
    rw [this]
/-- Bits as elements. -/
def bel (bs : List Bool) : List (Nat × Nat) := bs.map fun b => if b = true then (0, 1) else (0, 0)
theorem bel_len (bs : List Bool) : (bel bs).length = bs.length := by simp [bel]
theorem bel_at (bs : List Bool) (i : Nat) : el (bel bs) i = if bs.getD i false = true then (0, 1) else (0, 0) := by
  unfold el bel
  by_cases h : i < bs.length
  · simp [List.getD, h]
  · simp [List.getD, h]
/-- The value of turned bits is the sum of signs times bits. -/
theorem signs_bits (k : Int) (q n t : Nat) (hn : pw (q : Int) = n) (hf : ftB k (q : Int) (t : Int) = true) (p : List (Nat × Nat)) (hp : p.length = q) (bs : List Bool) (hb : bs.length = n) :
    xs n (fun y => pm (sgn k p t y) (el (bel bs) y)) = vl (bel (trn n (fun i : Nat => frI k (q : Int) (t : Int) (i : Int)) bs)) p := by
  have hnp : n = 2 ^ p.length := by unfold pw at hn; rw [Int.toNat_natCast, ← hp] at hn; omega
  obtain ⟨_, ⟨_, ht⟩, _⟩ := ftB_true hf
  rw [hn] at ht
  unfold vl
  rw [bel_len, trn_len, hb]
  have e1 : xs n (fun y => pm (sgn k p t y) (el (bel bs) y)) = xs n fun y => xs n fun x => if frI k (q : Int) (t : Int) (x : Int) = (y : Int) then pm (wt p x) (el (bel bs) y) else (0, 0) := by
    refine xs_congr _ fun y hy => ?_
    rw [sgn_ws k p t y (by omega) (by omega), ← hnp, xs_pm]
    refine xs_congr _ fun x hx => ?_
    rw [ws_fr hn hf hx hy]
    by_cases h : frI k (q : Int) (t : Int) (x : Int) = (y : Int)
    · rw [if_pos (decide_eq_true h), if_pos h]
    · rw [if_neg (by simp [h]), if_neg h, zero_pm]
  rw [e1, xs_swap]
  refine xs_congr _ fun x hx => ?_
  rw [xs_pick (fun y => pm (wt p x) (el (bel bs) y)), bel_at (trn n (fun i : Nat => frI k (q : Int) (t : Int) (i : Int)) bs) x, trn_one hb hx]
  by_cases h : 0 ≤ frI k (q : Int) (t : Int) (x : Int)
  · rw [if_pos ⟨h, frI_lt hn h⟩, if_pos h, bel_at, Tw.pm_comm']
  · rw [if_neg (fun hc => h hc.1), if_neg h, if_neg (by decide), zero_pm]
end Go.Proofs.Ytejoombhcnldmaa

/- Contracts of turn.isLevel, allOf and hindrance (of one point) over the seat's translation. -/
namespace Go.Proofs.Ytejoombhcnldmaa
open Go.RowKit
open Cb
open Tw (pm)

theorem tlevel (l : Int) : Ret 83 #[.int .i64 l] (.bool (decide (0 ≤ l ∧ l ≤ 7))) := by
  intro W
  by_cases h : 0 ≤ l ∧ l ≤ 7
  · rw [decide_eq_true h]
    obtain ⟨h1, h2⟩ := h
    go_enter Try.func83, Try.ntmps83
    go_wp2
    go_ret
    exact ⟨rfl, by first | exact Below.refl _ _ | go_grown⟩
  · rw [decide_eq_false h]
    rcases Int.lt_or_le l 0 with h1 | h1
    · have h2 : ¬ 0 ≤ l := by omega
      clear h
      go_enter Try.func83, Try.ntmps83
      go_wp2
      go_ret
      exact ⟨rfl, by first | exact Below.refl _ _ | go_grown⟩
    · have h2 : ¬ l ≤ 7 := by omega
      clear h
      go_enter Try.func83, Try.ntmps83
      go_wp2
      go_ret
      exact ⟨rfl, by first | exact Below.refl _ _ | go_grown⟩
set_option maxHeartbeats 2000000 in
/-- Are all elements of a level? -/
theorem tall (l : Int) (a : Option Addr) (cap : Nat) (es : List (Nat × Nat)) (hes : ltE es) (W : World) (hr : ERow W a es) (h10 : es.length ≤ 100000) :
    Calls Try.prog 84 #[.int .i64 l, .slice a es.length cap] W fun e w' => e = .returned (.bool (es.all fun e => ofB l (e.1 : Int) (e.2 : Int))) ∧ Below W.heap.size W w' := by
  have HR : Hid (ERow W a es) := hr
  have HO : Hid (∀ j : Nat, Ret 34 #[.int .i64 l, .agg #[.int .u64 ((es.getD j (0, 0)).1 : Int), .int .u64 ((es.getD j (0, 0)).2 : Int)]] (.bool (ofB l ((es.getD j (0, 0)).1 : Int) ((es.getD j (0, 0)).2 : Int)))) := fun j => of_ret l _ _ (hes.at j).2
  clear hr hes
  go_enter Try.func84, Try.ntmps84
  go_wp2_with fail
  go_loopw [9] (fun u wr => ∃ j : Nat, j ≤ es.length ∧ u = .int .i64 j ∧ Hid ((es.take j).all (fun e => ofB l (e.1 : Int) (e.2 : Int)) = true) ∧ Below W.heap.size W wr) (fun u _ => es.length - (intOf u).toNat)
  case atStart => exact ⟨0, Nat.zero_le _, rfl, (by rfl), Below.refl _ _⟩
  case round =>
    obtain ⟨j, hj, rfl, HT, hD⟩ := hrel
    by_cases hlt : j < es.length
    · obtain ⟨b, off, rfl, hb, c1, c0⟩ := HR.out.cells j hlt
      have d1 : wr.cell? ⟨b, off + j * 2, none⟩ = some (.int .u64 ((es.getD j (0, 0)).1 : Nat)) := by rw [hD.cell (p := ⟨b, off + j * 2, none⟩) hb]; exact c1
      have d0 : wr.cell? ⟨b, off + j * 2 + 1, none⟩ = some (.int .u64 ((es.getD j (0, 0)).2 : Nat)) := by rw [hD.cell (p := ⟨b, off + j * 2 + 1, none⟩) hb]; exact c0
      have H1 := HO.out j
      have HD : Hid (Below W.heap.size W wr) := hD
      have HS : Hid (es.take (j + 1) = es.take j ++ [es.getD j (0, 0)]) := take_sn es j hlt
      have HM : Hid (es.getD j (0, 0) ∈ es) := by show _ ∈ _; rw [show es.getD j (0, 0) = es[j] by simp [hlt]]; exact List.getElem_mem hlt
      clear hD c1 c0 HR HO
      generalize es.getD j (0, 0) = x at *
      rcases hB : ofB l (x.1 : Int) (x.2 : Int) with _ | _
      · rw [hB] at H1
        go_wp2_with fail
        refine (H1.go _).mono ?_
        rintro e w4 ⟨rfl, hb4⟩
        have HD4 : Hid (Below W.heap.size W w4) := (HD.out.alloc HD.out.size _).trans (hb4.mono (by have := HD.out.size; simp; omega))
        clear hb4 d1 d0 HD
        go_wp2
        go_ret
        refine ⟨?_, HD4.out⟩
        rw [show (es.all fun e => ofB l (e.1 : Int) (e.2 : Int)) = false from by
          rw [List.all_eq_false]; exact ⟨x, HM.out, by rw [hB]; decide⟩]
        rfl
      · rw [hB] at H1
        go_wp2_with fail
        refine (H1.go _).mono ?_
        rintro e w4 ⟨rfl, hb4⟩
        have HD4 : Hid (Below W.heap.size W w4) := (HD.out.alloc HD.out.size _).trans (hb4.mono (by have := HD.out.size; simp; omega))
        clear hb4 d1 d0 HD
        go_wp2
        exact ⟨⟨j + 1, hlt, by simp, (by show _ = _; rw [HS.out, List.all_append, HT.out]; simp [hB]), HD4.out⟩, by simp [intOf]; omega⟩
    · have HD : Hid (Below W.heap.size W wr) := hD
      obtain rfl : j = es.length := by omega
      clear hD
      go_wp2
      go_ret
      refine ⟨?_, HD.out⟩
      have := HT.out
      rw [List.take_of_length_le (Nat.le_refl _)] at this
      rw [this]
      rfl
/-- What hinders a turn from having signs at a point. -/
def hd1 (l : Int) (q : Nat) (p : List (Nat × Nat)) : Int := if 0 ≤ l ∧ l ≤ 7 then (if p.length = q then (if (p.all fun e => ofB l (e.1 : Int) (e.2 : Int)) = true then 0 else 5) else 6) else 1
set_option maxHeartbeats 4000000 in
set_option maxRecDepth 100000 in
theorem thind1 (l k : Int) (q t : Nat) (hf : ftB k (q : Int) (t : Int) = true) (b : Nat) (a : Option Addr) (cap : Nat) (p : List (Nat × Nat)) (hp : ltE p) (h10 : p.length ≤ 1000) (W : World) (hr : ERow W a p) (hb : W.cell? ⟨b, 0, none⟩ = some (.slice a p.length cap)) :
    Calls Try.prog 63 #[.int .i64 l, .int .i64 k, .int .i64 (q : Int), .int .i64 (t : Int), .slice (some ⟨b, 0, none⟩) 1 1] W fun e w' => e = .returned (.int .i64 (hd1 l q p)) ∧ Below W.heap.size W w' := by
  have HL := Hid.mkT (tlevel l)
  have HF := Hid.mkT (tfits k (q : Int) (t : Int))
  rw [hf] at HF
  obtain ⟨z, hz⟩ : ∃ z, z = hd1 l q p := ⟨_, rfl⟩
  rw [← hz]
  by_cases hl : 0 ≤ l ∧ l ≤ 7
  · rw [decide_eq_true hl] at HL
    unfold hd1 at hz
    rw [if_pos hl] at hz
    by_cases hq : p.length = q
    · rw [if_pos hq] at hz
      have HA : Hid (∀ w, Below W.heap.size W w → Calls Try.prog 84 #[.int .i64 l, .slice a p.length cap] w fun e w' => e = .returned (.bool (p.all fun e => ofB l (e.1 : Int) (e.2 : Int))) ∧ Below w.heap.size w w') := fun w hb => tall l a cap p hp w (hr.below hb) (by omega)
      have HB : Hid (W.cell? ⟨b, 0, none⟩ = some (.slice a p.length cap)) := hb
      have hq' : (q : Int) = (p.length : Int) := by omega
      have HZ : Hid (z = if (p.all fun e => ofB l (e.1 : Int) (e.2 : Int)) = true then 0 else 5) := hz
      generalize (p.all fun e => ofB l (e.1 : Int) (e.2 : Int)) = x at *
      clear hf hz hr hp hq hl hb
      rw [hq'] at HF ⊢
      clear hq'
      go_enter Try.func63, Try.ntmps63
      go_wp2_with (first | (go_at_call 83; refine (HL.out.go _).mono ?_; rintro e w1 ⟨rfl, hb1⟩; have D1 : Hid (Below W.heap.size W w1) := hb1; clear hb1) | (go_at_call 40; refine (HF.out.go _).mono ?_; rintro e w2 ⟨rfl, hb2⟩; have D2 : Hid (Below W.heap.size W w2) := D1.out.trans (hb2.mono D1.out.size); clear hb2 D1))
      go_loopw [27] (fun u wr => ∃ i : Nat, i ≤ 1 ∧ u = .int .i64 i ∧ Hid (Below W.heap.size W wr)) (fun u _ => 1 - (intOf u).toNat)
      case atStart => exact ⟨0, by decide, rfl, D2⟩
      case round =>
        obtain ⟨i, hi, rfl, HI⟩ := hrel
        clear D2
        by_cases hlt : i < 1
        · obtain rfl : i = 0 := by omega
          have c0 := keepc HI.out HB.out
          go_wp2
          exact ⟨⟨1, by decide, by simp, HI⟩, by simp [intOf]⟩
        · have hi1 : ¬ (i : Int) < 1 := by omega
          go_wp2_with fail
          go_loopw [38] (fun u wr => ∃ i : Nat, i ≤ 1 ∧ u = .int .i64 i ∧ Hid (i = 0 ∨ x = true) ∧ Hid (Below W.heap.size W wr)) (fun u _ => 1 - (intOf u).toNat)
          case atStart => exact ⟨0, by decide, rfl, .inl rfl, HI⟩
          case round =>
            obtain ⟨i', hi', rfl, HX, HI2⟩ := hrel
            clear HI
            by_cases hlt' : i' < 1
            · obtain rfl : i' = 0 := by omega
              have c0 := keepc HI2.out HB.out
              cases x
              · go_wp2_with (go_at_call 84; refine (HA.out _ HI2.out).mono ?_; rintro e w3 ⟨rfl, hb3⟩)
                go_ret
                refine ⟨?_, HI2.out.trans (hb3.mono HI2.out.size)⟩
                rw [HZ.out, if_neg (by decide)]; rfl
              · go_wp2_with (go_at_call 84; refine (HA.out _ HI2.out).mono ?_; rintro e w3 ⟨rfl, hb3⟩)
                exact ⟨⟨1, by decide, by simp, .inr (by trivial), HI2.out.trans (hb3.mono HI2.out.size)⟩, by simp [intOf]⟩
            · have hi2 : ¬ (i' : Int) < 1 := by omega
              have hx : x = true := HX.out.resolve_left (by omega)
              rw [if_pos hx] at HZ
              clear hx
              go_wp2
              go_ret
              exact ⟨by rw [HZ.out]; rfl, HI2.out⟩
    · rw [if_neg hq] at hz
      have HB : Hid (W.cell? ⟨b, 0, none⟩ = some (.slice a p.length cap)) := hb
      have hq' : ((p.length : Int) != (q : Int)) = true := by simp; omega
      subst hz
      clear hf hr hp hq hl hb
      go_enter Try.func63, Try.ntmps63
      go_wp2_with (first | (go_at_call 83; refine (HL.out.go _).mono ?_; rintro e w1 ⟨rfl, hb1⟩; have D1 : Hid (Below W.heap.size W w1) := hb1; clear hb1) | (go_at_call 40; refine (HF.out.go _).mono ?_; rintro e w2 ⟨rfl, hb2⟩; have D2 : Hid (Below W.heap.size W w2) := D1.out.trans (hb2.mono D1.out.size); clear hb2 D1))
      have c0 := keepc D2.out HB.out
      refine wp_loop_rounds 1 ?_
      rw [rounds_succ]
      go_wp2
      go_ret
      exact ⟨rfl, D2.out⟩
  · rw [decide_eq_false hl] at HL
    unfold hd1 at hz
    rw [if_neg hl] at hz
    subst hz
    clear hf hr hp hl hb HF
    go_enter Try.func63, Try.ntmps63
    go_wp2_with (go_at_call 83; refine (HL.out.go _).mono ?_; rintro e w1 ⟨rfl, hb1⟩)
    go_ret
    exact ⟨rfl, hb1⟩
end Go.Proofs.Ytejoombhcnldmaa
