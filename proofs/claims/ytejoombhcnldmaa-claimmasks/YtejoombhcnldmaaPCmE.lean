/- steeplelaw15.awake and the walk of CubeValues over the seat's translation. -/
import Derived.Test.YtejoombhcnldmaaPCbH
import Derived.Test.YtejoombhcnldmaaCmD
namespace Go.Proofs.Ytejoombhcnldmaa
open Go.RowKit
open Cb
open Tw (pm)

theorem px33 : Tw.px 3 3 = 2 := by decide +kernel
theorem awake_v : firsts [(0, 1), (0, 2)] [(0, 3)] = [(0, 3)] := by
  have h : pm (0, 3) (0, 3) = (0, 2) := by
    show (Tw.pmh 0 3 0 3, Tw.pml 0 3 0 3) = (0, 2)
    rw [Tw.pmh_low, Tw.pml_low, px33]
  have e : firsts [(0, 1), (0, 2)] [(0, 3)] = [xa (0, 1) (pm (0, 3) (xa (0, 1) (0, 2)))] := by
    rw [firsts_one]
    simp [fst1, half, hv, el]
  rw [e, show xa (0, 1) (0, 2) = (0, 3) by decide, h]
  decide
theorem erow_cells2 {w : World} {b : Nat} {x y : Nat × Nat} (h1 : w.cell? ⟨b, 0, none⟩ = some (.int .u64 (x.1 : Int))) (h2 : w.cell? ⟨b, 1, none⟩ = some (.int .u64 (x.2 : Int))) (h3 : w.cell? ⟨b, 2, none⟩ = some (.int .u64 (y.1 : Int))) (h4 : w.cell? ⟨b, 3, none⟩ = some (.int .u64 (y.2 : Int))) : ERow w (some ⟨b, 0, none⟩) [x, y] := ⟨fun i hi => by
  simp at hi
  have hb := cell_lt h1
  obtain rfl | rfl : i = 0 ∨ i = 1 := by omega
  · exact ⟨b, 0, rfl, hb, h1, h2⟩
  · exact ⟨b, 0, rfl, hb, h3, h4⟩⟩
theorem erow_cells1 {w : World} {b : Nat} {x : Nat × Nat} (h1 : w.cell? ⟨b, 0, none⟩ = some (.int .u64 (x.1 : Int))) (h2 : w.cell? ⟨b, 1, none⟩ = some (.int .u64 (x.2 : Int))) : ERow w (some ⟨b, 0, none⟩) [x] := ⟨fun i hi => by
  simp at hi
  have hb := cell_lt h1
  subst hi
  exact ⟨b, 0, rfl, hb, h1, h2⟩⟩
theorem El.new (w : World) (v : Nat × Nat) (T : TypeId) : El (w.alloc (Obj.cells #[.int .u64 (v.1 : Int), .int .u64 (v.2 : Int)] T)) w.heap.size v.1 v.2 := ⟨by simp [go_sem], by simp [go_sem]⟩
/-- What CubeValues holds: the value, both tables, and what lay there. -/
structure Cvs (W w : World) (q : Nat) (v : Nat × Nat) : Prop where
  v : El w q v.1 v.2
  d : Below W.heap.size W w
theorem Cvs.below {W w w' : World} {q : Nat} {v : Nat × Nat} (h : Cvs W w q v) (hb : Below w.heap.size w w') : Cvs W w' q v := ⟨h.v.below hb, h.d.trans (hb.mono h.d.size)⟩
theorem Cvs.drew {W w : World} {q : Nat} {v : Nat × Nat} (h : Cvs W w q v) : Cvs W w.drew q v := h.below (Below.refl _ _).drew
structure Cvt (W w : World) (q : Nat) (v : Nat × Nat) (ax ay : Option Addr) (t p : List (Nat × Nat)) : Prop where
  c : Cvs W w q v
  x : ERow w ax t
  y : ERow w ay p
theorem Cvt.below {W w w' : World} {q : Nat} {v : Nat × Nat} {ax ay : Option Addr} {t p : List (Nat × Nat)} (h : Cvt W w q v ax ay t p) (hb : Below w.heap.size w w') : Cvt W w' q v ax ay t p := ⟨h.c.below hb, h.x.below hb, h.y.below hb⟩
theorem Cvt.drew {W w : World} {q : Nat} {v : Nat × Nat} {ax ay : Option Addr} {t p : List (Nat × Nat)} (h : Cvt W w q v ax ay t p) : Cvt W w.drew q v ax ay t p := h.below (Below.refl _ _).drew
end Go.Proofs.Ytejoombhcnldmaa

/- Contracts of cube.Log of any number, cube.Corner and steepleref15.Two over the seat's translation. -/
namespace Go.Proofs.Ytejoombhcnldmaa
open Go.RowKit
open Cb
open Tw (pm)

theorem clog_int (n r : Int) (h1 : ∀ k : Nat, k ≤ 16 → n = ((2 ^ k : Nat) : Int) → r = (k : Int)) (h2 : (∀ k : Nat, k ≤ 16 → n ≠ ((2 ^ k : Nat) : Int)) → r = -1) : Ret 56 #[.int .i64 n] (.int .i64 r) := by
  by_cases a : n < 1
  · rw [h2 fun k _ e => by have := Nat.two_pow_pos k; omega]; exact clog_low n a
  · by_cases b : 65536 < n
    · rw [h2 fun k hk e => by have : 2 ^ k ≤ 2 ^ 16 := Nat.pow_le_pow_right (by decide) hk; omega]; exact clog_high n a b
    · obtain ⟨m, rfl⟩ := Int.eq_ofNat_of_zero_le (show 0 ≤ n by omega)
      by_cases c : m &&& (m - 1) = 0
      · obtain ⟨k, hk⟩ := (Nat.and_sub_one_eq_zero_iff_isPowerOfTwo (by omega)).1 c
        have hk16 : k ≤ 16 := by
          rcases Nat.lt_or_ge 16 k with h | h
          · have : 2 ^ 17 ≤ 2 ^ k := Nat.pow_le_pow_right (by decide) h
            omega
          · exact h
        rw [h1 k hk16 (by rw [hk])]
        exact clog_two k m hk16 hk
      · rw [h2 fun k _ e => c ((Nat.and_sub_one_eq_zero_iff_isPowerOfTwo (by omega)).2 ⟨k, by omega⟩)]
        exact clog_mid m _ (by omega) (by omega) rfl c
theorem crn_at : ∀ (n i j : Nat), j < n → el (crn n i) j = (0, i / 2 ^ j % 2)
  | 0, _, _, h => by omega
  | n + 1, i, 0, _ => by simp [crn, el]
  | n + 1, i, j + 1, h => by
    show el (crn n (i / 2)) j = _
    rw [crn_at n (i / 2) j (by omega), Nat.div_div_eq_div_mul, Nat.pow_succ, Nat.mul_comm 2]
theorem crn_lt (n i : Nat) : ltE (crn n i) := ltE_of fun j hj => by
  rw [crn_len] at hj
  rw [crn_at n i j hj]
  exact ⟨Nat.two_pow_pos 64, by omega⟩
theorem crn_of (k : Nat) (hk : k < 8) (n i : Nat) : ofT k (crn n i) := ofT_of fun j hj => by
  rw [crn_len] at hj
  rw [crn_at n i j hj]
  rcases Nat.mod_two_eq_zero_or_one (i / 2 ^ j) with h | h
  · rw [h]; exact of_zero k hk
  · rw [h]; exact of_one k hk
theorem bit_intC (i k : Nat) (hi : i < 65536) : bits .and .i64 ((i : Int) / 2 ^ k) 1 = ((i / 2 ^ k % 2 : Nat) : Int) := by
  rw [show (i : Int) / 2 ^ k = ((i / 2 ^ k : Nat) : Int) by simp, show (1 : Int) = ((1 : Nat) : Int) by rfl, cand_nat _ 1 (by have := Nat.div_le_self i (2 ^ k); omega) (by decide), Nat.and_one_is_mod]
set_option maxHeartbeats 400000 in
theorem rtwo15 (n : Nat) (hn : n ≤ 16) : Ret 26 #[.int .i64 (n : Int)] (.int .i64 ((2 ^ n : Nat) : Int)) := by
  intro W
  go_enter Try.func26, Try.ntmps26
  go_wp2_with fail
  go_loopw [3, 4] (fun v u wr => ∃ j q : Nat, j ≤ n ∧ Hid (q = 2 ^ j) ∧ v = .int .i64 (q : Int) ∧ u = .int .i64 j ∧ W = wr) (fun _ u _ => n - (intOf u).toNat)
  case atStart => exact ⟨0, 1, Nat.zero_le _, (by rfl), rfl, rfl, rfl⟩
  case round =>
    obtain ⟨j, q, hj, HQ, rfl, rfl, rfl⟩ := hrel
    by_cases hlt : j < n
    · have hq : q ≤ 65536 := by rw [HQ.out]; exact Nat.pow_le_pow_right (by decide) (show j ≤ 16 by omega)
      have hw : IntKind.i64.wrap (2 * (q : Int)) = ((2 * q : Nat) : Int) := by rw [IntKind.wrap_i64]; omega
      go_wp2
      exact ⟨⟨j + 1, 2 * q, hlt, (by show _ = _; rw [HQ.out, Nat.pow_succ]; omega), by simp, by simp, by first | rfl | trivial⟩, by simp [intOf]; omega⟩
    · obtain rfl : j = n := by omega
      go_wp2
      go_ret
      exact ⟨by rw [← HQ.out]; rfl, Below.refl _ _⟩
theorem wrap_twoC (n : Nat) (hn : n ≤ 16) : IntKind.i64.wrap (2 ^ n) = ((2 ^ n : Nat) : Int) := by
  have h1 : 2 ^ n ≤ 2 ^ 16 := Nat.pow_le_pow_right (by decide) hn
  rw [IntKind.wrap_i64, show (2 : Int) ^ n = ((2 ^ n : Nat) : Int) by simp]
  generalize 2 ^ n = p at *
  omega
set_option maxHeartbeats 1000000 in
theorem cor_n (n i : Int) (h : n < 1 ∨ 16 < n) : Ret 29 #[.int .i64 n, .int .i64 i] (.slice none 0 0) := by
  intro W
  by_cases h1 : n < 1
  · go_enter Try.func29, Try.ntmps29
    go_wp2
    go_ret
    exact ⟨rfl, by first | exact Below.refl _ _ | go_grown⟩
  · have h2 : 16 < n := by omega
    go_enter Try.func29, Try.ntmps29
    go_wp2
    go_ret
    exact ⟨rfl, by first | exact Below.refl _ _ | go_grown⟩
set_option maxHeartbeats 1000000 in
theorem cor_i (n : Nat) (i : Int) (h1 : 1 ≤ n) (h2 : n ≤ 16) (h : i < 0 ∨ ((2 ^ n : Nat) : Int) ≤ i) : Ret 29 #[.int .i64 (n : Int), .int .i64 i] (.slice none 0 0) := by
  intro W
  have g1 : ¬ (n : Int) < 1 := by omega
  have g2 : ¬ 16 < (n : Int) := by omega
  have hw := wrap_twoC n h2
  by_cases h3 : i < 0
  · clear h hw
    go_enter Try.func29, Try.ntmps29
    go_wp2
    go_ret
    exact ⟨rfl, by first | exact Below.refl _ _ | go_grown⟩
  · have h4 : (2 : Int) ^ n ≤ i := by rw [show (2 : Int) ^ n = ((2 ^ n : Nat) : Int) by simp]; omega
    clear h
    go_enter Try.func29, Try.ntmps29
    go_wp2
    go_ret
    exact ⟨rfl, by first | exact Below.refl _ _ | go_grown⟩
end Go.Proofs.Ytejoombhcnldmaa

/- The contract of cube.Corner where there is such a corner, over the seat's translation. -/
namespace Go.Proofs.Ytejoombhcnldmaa
open Go.RowKit
open Cb
open Tw (pm)

set_option maxHeartbeats 4000000 in
set_option maxRecDepth 100000 in
theorem cor_ok (n i : Nat) (h1 : 1 ≤ n) (h2 : n ≤ 16) (hi : i < 2 ^ n) (W : World) :
    Calls Try.prog 29 #[.int .i64 (n : Int), .int .i64 (i : Int)] W fun e w' => ∃ g, e = .returned (.slice (some ⟨g, 0, none⟩) n n) ∧ ERow w' (some ⟨g, 0, none⟩) (crn n i) ∧ Below W.heap.size W w' := by
  obtain ⟨i0, hi0, hz0, hz1, hz2⟩ := info_elem
  have HN : Hid (Try.prog.info? 26 = some i0 ∧ i0.zero = some (.agg #[.int .u64 0, .int .u64 0]) ∧ i0.size = 2 ∧ i0.bytes = 16) := ⟨hi0, hz0, hz1, hz2⟩
  have g1 : ¬ (n : Int) < 1 := by omega
  have g2 : ¬ 16 < (n : Int) := by omega
  have hw := wrap_twoC n h2
  have h65 : i < 65536 := by have : 2 ^ n ≤ 2 ^ 16 := Nat.pow_le_pow_right (by decide) h2; omega
  have g3 : ¬ (i : Int) < 0 := by omega
  have g4 : ¬ (2 : Int) ^ n ≤ (i : Int) := by rw [show (2 : Int) ^ n = ((2 ^ n : Nat) : Int) by simp]; omega
  clear hi0 hz0 hz1 hz2 hi
  go_enter Try.func29, Try.ntmps29
  go_wp2_with (at_make; refine wpList_make_full _ rfl _ _ 23 rfl 0 26 i0 (.agg #[.int .u64 0, .int .u64 0]) 2 Try.underlying23 HN.out.1 HN.out.2.1 HN.out.2.2.1 .i64 .i64 _ _ n rfl rfl rfl rfl (by rw [HN.out.2.2.2]; omega) (by simp only [maxLen]; omega) (Nat.zero_le _) ?_; intro w2 own2 hgr2)
  have D : Hid (Below W.heap.size W w2) := (Below.refl _ _).grown hgr2 (Nat.le_refl _) (fun k hk => by cases hk)
  obtain ⟨f0, R0⟩ := own_rowT own2 (rfl : n * 2 = n * 2)
  clear own2 hgr2 HN g1 g2 hw g3 g4
  go_loopw [27] (fun u wr => ∃ (j : Nat) (f : Nat → Value), j ≤ n ∧ u = .int .i64 j ∧ wr.rowIs W.heap.size 26 (n * 2) f ∧ Hid (∀ p, p < j * 2 → f p = tcell (fun j => (0, i / 2 ^ j % 2)) p) ∧ Below W.heap.size W wr) (fun u _ => n - (intOf u).toNat)
  case atStart => exact ⟨0, f0, Nat.zero_le _, rfl, R0, (fun p hp => by omega), D.out⟩
  case round =>
    obtain ⟨j, f, hj, rfl, hRr, HF, hD⟩ := hrel
    clear R0 D
    have HRr : Hid (wr.rowIs W.heap.size 26 (n * 2) f) := hRr
    have HD : Hid (Below W.heap.size W wr) := hD
    have hgs : W.heap.size < wr.heap.size := hRr.lt
    clear hRr hD
    by_cases hlt : j < n
    · have c1 := HRr.out.cell (i := j * 2) (by omega)
      have c0 := HRr.out.cell (i := j * 2 + 1) (by omega)
      have z1 := HRr.out.frozen (j * 2)
      have z0 := HRr.out.frozen (j * 2 + 1)
      have hb := bit_intC i j h65
      have hb2 : i / 2 ^ j % 2 < 2 := Nat.mod_lt _ (by decide)
      obtain ⟨B, hB⟩ : ∃ B, B = i / 2 ^ j % 2 := ⟨_, rfl⟩
      rw [← hB] at hb hb2
      have HBB : Hid (B = i / 2 ^ j % 2) := hB
      clear hB
      have hwr : IntKind.u64.wrap (B : Int) = (B : Int) := by rw [IntKind.wrap_u64]; omega
      go_wp2
      refine ⟨⟨j + 1, _, hlt, by simp, (HRr.out.set (j * 2) _).set (j * 2 + 1) _, fun p hp => ?_, (HD.out.setCell (Nat.le_refl _) _).setCell (Nat.le_refl _) _⟩, by simp [intOf]; omega⟩
      have hF := HF.out p
      unfold tcell at hF ⊢
      by_cases e1 : p = j * 2 + 1
      · rw [if_pos e1, if_neg (by omega), show p / 2 = j by omega, HBB.out]
      · rw [if_neg e1]
        by_cases e2 : p = j * 2
        · rw [if_pos e2, if_pos (by omega)]; rfl
        · rw [if_neg e2]; exact hF (by omega)
    · obtain rfl : n = j := by omega
      have HE : Hid (ERow wr (some ⟨W.heap.size, 0, none⟩) (crn n i)) := row_tab (crn_len n i) HRr.out fun p hp => by
        rw [HF.out p hp]
        unfold tcell
        rw [crn_at n i (p / 2) (by omega)]
      clear HF
      go_wp2
      go_ret
      exact ⟨_, rfl, HE.out, HD.out⟩
end Go.Proofs.Ytejoombhcnldmaa

/- What a claim about a column that is not turned is, at a corner: the column's element there; no Go in sight. -/
namespace Go.Proofs.Ytejoombhcnldmaa
open Go.RowKit
open Cb
open Tw (pm)

theorem sgn_plain (p : List (Nat × Nat)) (y : Nat) (hy : y < 2 ^ p.length) : sgn 0 p 0 y = wt p y := by
  rw [sgn_ws 0 p 0 y (Nat.two_pow_pos _) hy]
  have h : ∀ x, (if wsB 0 (2 ^ p.length) 0 x y = true then wt p x else (0, 0)) = if x = y then wt p y else (0, 0) := fun x => by
    have e : wsB 0 (2 ^ p.length) 0 x y = decide (x = y) := rfl
    rw [e]
    by_cases hx : x = y
    · rw [if_pos (by rw [hx]; exact decide_eq_true rfl), if_pos hx, hx]
    · rw [if_neg (by rw [decide_eq_false hx]; decide), if_neg hx]
  have one : ∀ n, y < n → (xs n fun x => if x = y then wt p y else (0, 0)) = wt p y := by
    have none : ∀ n, n ≤ y → (xs n fun x => if x = y then wt p y else (0, 0)) = (0, 0) := fun n hn => by
      induction n with
      | zero => rfl
      | succ n ih =>
        show xa (xs n fun x => if x = y then wt p y else (0, 0)) (if n = y then wt p y else (0, 0)) = _
        rw [ih (by omega), if_neg (show ¬ n = y by omega)]
        rfl
    intro n
    induction n with
    | zero => intro hn; omega
    | succ n ih =>
      intro hn
      show xa (xs n fun x => if x = y then wt p y else (0, 0)) (if n = y then wt p y else (0, 0)) = _
      by_cases hx : n = y
      · rw [none n (by omega), if_pos hx, zero_xa]
      · rw [ih (by omega), if_neg hx, xa_zero]
  rw [show (fun x => if wsB 0 (2 ^ p.length) 0 x y = true then wt p x else (0, 0)) = fun x => if x = y then wt p y else (0, 0) from funext h]
  exact one _ hy
theorem dots_xsC (es fs : List (Nat × Nat)) : ∀ j, dots es fs j = xs j fun i => pm (el es i) (el fs i)
  | 0 => rfl
  | j + 1 => by rw [dots_succ, dots_xsC es fs j]; rfl
/-- At a corner the value is the element there. -/
theorem tvv_corner {m : Nat} (hm : m < 8) {w n at' k : Nat} (hn : n = 2 ^ w) (ha : at' < n) {cs : List (Nat × Nat)} (lc : ltE cs) (oc : ofT m cs) (hk : k * n + n ≤ cs.length) (v : Nat × Nat) :
    tvv m n (crn w at') cs ⟨(k : Int), 0, 0, v⟩ = el cs (k * n + at') := by
  unfold tvv
  dsimp only
  rw [Int.toNat_natCast]
  have hl := ccol_len hk
  have oo : ofT m (ccol cs n k) := fun e he => oc e (List.mem_of_mem_drop (List.mem_of_mem_take he))
  have ol := lt_ccol lc n k
  have hz : (crn w at').length = w := crn_len w at'
  have orow : ofT m (crw n (crn w at') ⟨(k : Int), 0, 0, v⟩) := of_crw hm n (crn_of m hm w at') _
  rw [dotv_rt (by rw [hl, crw_len]) (fun j _ => ⟨orow.el hm j, oo.el hm j⟩), dots_xsC, crw_len]
  have hv : (xs n fun i => pm (el (crw n (crn w at') ⟨(k : Int), 0, 0, v⟩) i) (el (ccol cs n k) i)) = vl (ccol cs n k) (crn w at') := by
    unfold vl
    rw [hl]
    refine xs_congr n fun i hi => ?_
    rw [crw_at n _ _ hi, Tw.pm_comm']
    show pm _ (sgn 0 (crn w at') (Int.toNat 0) i) = _
    rw [show Int.toNat 0 = 0 from rfl, sgn_plain _ _ (by rw [hz, ← hn]; exact hi)]
  rw [hv]
  have h1 := firsts_vl (crn w at') (ccol cs n k) (by rw [hl, hz, hn]) ol (crn_lt w at')
  have h2 := firsts_crn w at' (ccol cs n k) (by rw [hl, hn]) (by rw [← hn]; exact ha) ol
  rw [h2] at h1
  injection h1 with h1
  rw [← h1]
  exact ccol_at ha
end Go.Proofs.Ytejoombhcnldmaa

/- The worked example of layer 22 over the seat's translation. -/
namespace Go.Proofs.Ytejoombhcnldmaa
open Go.RowKit
open Cb
open Tw (pm)

theorem wtA0 : wt [(0, 2)] 0 = (0, 3) := by
  show pm (0, 1) (fac (0, 2) 0) = _
  rw [one_pm ⟨by decide, by decide⟩]
  decide
theorem wtA1 : wt [(0, 2)] 1 = (0, 2) := by
  show pm (0, 1) (fac (0, 2) 1) = _
  rw [one_pm ⟨by decide, by decide⟩]
  decide
theorem crA (c : Nat) (hc : c < 2) : cr false [(0, 2)] 0 0 c = wt [(0, 2)] c := by
  unfold cr
  simp only [List.length_cons, List.length_nil, Nat.zero_add, Nat.pow_one, Nat.zero_mod]
  simp only [xs]
  obtain rfl | rfl : c = 0 ∨ c = 1 := by omega
  · rw [if_pos (by decide), if_neg (by decide), xa_zero, zero_xa]
  · rw [if_neg (by decide), if_pos (by decide), xa_zero, zero_xa]
theorem mkA (c : Nat) (hc : c < 2) : mkI 2 [(0, 2)] (0, 3) [zst] 1 c = wt [(0, 2)] c := by
  unfold mkI adv
  rw [if_pos (by show 0 * 2 ≤ c ∧ c < 0 * 2 + 2; omega)]
  show xa (0, 0) (pm (0, 1) (el (crw 2 [(0, 2)] zst) (c - 0 * 2))) = _
  rw [Nat.zero_mul, Nat.sub_zero, zero_xa, one_pm (ltE_el (lt_crw _ _ _) _), crw_at 2 _ _ hc]
  unfold sgn
  rw [if_neg (by decide)]
  exact crA c hc
theorem mkA2 : (List.range 2).map (mkI 2 [(0, 2)] (0, 3) [zst] [zst].length) = [(0, 3), (0, 2)] := by
  rw [show List.range 2 = [0, 1] by decide]
  simp only [List.map_cons, List.map_nil, List.length_cons, List.length_nil, Nat.zero_add]
  rw [mkA 0 (by decide), mkA 1 (by decide), wtA0, wtA1]
theorem or1C {w : World} {b : Nat} (h0 : w.cell? ⟨b, 0, none⟩ = some (.int .i64 0)) (h1 : w.cell? ⟨b, 1, none⟩ = some (.int .i64 0)) (h2 : w.cell? ⟨b, 2, none⟩ = some (.int .i64 0)) (h3 : w.cell? ⟨b, 3, none⟩ = some (.int .u64 0)) (h4 : w.cell? ⟨b, 4, none⟩ = some (.int .u64 0)) : ORow w (some ⟨b, 0, none⟩) [zst] := ⟨fun i hi => by
  simp at hi
  have hb := cell_lt h0
  subst hi
  exact ⟨b, 0, rfl, hb, h0, h1, h2, h3, h4⟩⟩
theorem er1C {w : World} {b : Nat} {x : Nat × Nat} (h1 : w.cell? ⟨b, 0, none⟩ = some (.int .u64 (x.1 : Int))) (h2 : w.cell? ⟨b, 1, none⟩ = some (.int .u64 (x.2 : Int))) : ERow w (some ⟨b, 0, none⟩) [x] := ⟨fun i hi => by
  simp at hi
  have hb := cell_lt h1
  subst hi
  exact ⟨b, 0, rfl, hb, h1, h2⟩⟩
theorem er2C {w : World} {g : Nat} {x y : Nat × Nat} (h : ERow w (some ⟨g, 0, none⟩) [x, y]) : w.cell? ⟨g, 0, none⟩ = some (.int .u64 (x.1 : Int)) ∧ w.cell? ⟨g, 1, none⟩ = some (.int .u64 (x.2 : Int)) ∧ w.cell? ⟨g, 2, none⟩ = some (.int .u64 (y.1 : Int)) ∧ w.cell? ⟨g, 3, none⟩ = some (.int .u64 (y.2 : Int)) := by
  obtain ⟨b, o, e, _, c1, c0⟩ := h.cells 0 (by simp)
  obtain ⟨b', o', e', _, c1', c0'⟩ := h.cells 1 (by simp)
  injection e with e
  injection e with e1 e2
  subst e1 e2
  injection e' with e'
  injection e' with e1 e2
  subst e1 e2
  exact ⟨c1, c0, c1', c0'⟩
theorem chA : chE ((1 : Nat) : Int) ((0 : Nat) : Int) ((1 : Nat) : Int) [zst] [(0, 2)] (0, 3) = 0 := by decide +kernel
set_option maxHeartbeats 4000000 in
set_option maxRecDepth 100000 in
theorem awake22 : Ret 10 #[] (.bool true) := by
  intro W
  have HM : Hid (∀ (w : World) (b b2 cap cap2 : Nat), ORow w (some ⟨b, 0, none⟩) [zst] → ERow w (some ⟨b2, 0, none⟩) [(0, 2)] → Calls Try.prog 17 #[.int .i64 1, .int .i64 0, .int .i64 1, .slice (some ⟨b, 0, none⟩) 1 cap, .slice (some ⟨b2, 0, none⟩) 1 cap2, .agg #[.int .u64 0, .int .u64 3]] w fun e w' => ∃ g, e = .returned (.tuple #[.slice (some ⟨g, 0, none⟩) 2 2, .int .i64 0]) ∧ ERow w' (some ⟨g, 0, none⟩) [(0, 3), (0, 2)] ∧ Below w.heap.size w w') := fun w b b2 cap cap2 h1 h2 => by
    have := cmmask 1 0 1 2 2 (some ⟨b, 0, none⟩) (some ⟨b2, 0, none⟩) cap cap2 [zst] [(0, 2)] (0, 3) rfl rfl (by intro e he; simp at he; subst he; decide) ⟨by decide, by decide⟩ chA w h1 h2
    rw [mkA2] at this
    exact this
  go_enter Try.func10, Try.ntmps10
  go_wp2_with (go_at_call 17; refine (HM.out _ _ _ _ _ (or1C (by simp [go_sem]) (by simp [go_sem]) (by simp [go_sem]) (by simp [go_sem]) (by simp [go_sem])) (er1C (x := (0, 2)) (by simp [go_sem]) (by simp [go_sem]))).mono ?_; rintro e w1 ⟨g, rfl, hr1, hb1⟩; have K1 : Hid (Below W.heap.size W w1) := (((Below.refl W.heap.size W).alloc (Nat.le_refl _) _).alloc (by simp) _).trans (hb1.mono (by simp; omega)); obtain ⟨c1, c2, c3, c4⟩ := er2C hr1; clear hr1 hb1)
  go_ret
  exact ⟨rfl, K1.out⟩
end Go.Proofs.Ytejoombhcnldmaa
