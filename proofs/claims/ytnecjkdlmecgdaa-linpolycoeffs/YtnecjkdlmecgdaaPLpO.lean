/- The contract of linpoly.Plain where there is such a space, over the seat's translation. -/
import Derived.Test.YtnecjkdlmecgdaaLpL
import Derived.Test.YtnecjkdlmecgdaaTwX
import Derived.Deep.OwnRows
namespace Go.Proofs.Ytnecjkdlmecgdaa
open Go.RowKit

/-- The elements of one bit each. -/
def bitsE (n : Nat) : List (Nat × Nat) := (List.range n).map fun i => (0, 2 ^ i)
theorem bitsE_len (n : Nat) : (bitsE n).length = n := by simp [bitsE]
theorem bitsE_at (n i : Nat) (h : i < n) : (bitsE n).getD i (0, 0) = (0, 2 ^ i) := by simp [bitsE, List.getD, h]
theorem bitsE_lt (n : Nat) (h : n ≤ 10) : ltE (bitsE n) := by
  intro e he
  obtain ⟨i, hi, rfl⟩ := List.mem_map.1 he
  have := List.mem_range.1 hi
  exact ⟨Nat.two_pow_pos 64, Nat.pow_lt_pow_right (by decide) (by omega)⟩
/-- The cells of such elements. -/
def bcell (p : Nat) : Value := if p % 2 = 0 then .int .u64 0 else .int .u64 ((2 ^ (p / 2) : Nat) : Int)
theorem row_bits {w : World} {g n : Nat} {f : Nat → Value} (h : w.rowIs g 27 (n * 2) f) (hf : ∀ p, p < n * 2 → f p = bcell p) : ERow w (some ⟨g, 0, none⟩) (bitsE n) := ⟨fun i hi => by
  rw [bitsE_len] at hi
  rw [bitsE_at n i hi]
  refine ⟨g, 0, rfl, h.lt, ?_, ?_⟩
  · rw [Nat.zero_add, h.cell (by omega), hf _ (by omega)]
    unfold bcell
    rw [if_pos (by omega)]; rfl
  · rw [Nat.zero_add, h.cell (by omega), hf _ (by omega)]
    unfold bcell
    rw [if_neg (by omega), show (i * 2 + 1) / 2 = i by omega]⟩
theorem own_rowIs {w : World} {base : Nat} {T : TypeId} {g n c : Nat} {xs : List Value} (h : w.ownsRow base T 2 (.slice (some ⟨g, 0, none⟩) n n) n xs) (hc : c = n * 2) : ∃ f, w.rowIs g T c f := by
  subst hc
  rcases h.2 with ⟨h1, _⟩ | ⟨g', cap, cur, e, _, hg, _, _, hs, _⟩
  · injection h1 with h2; cases h2
  · injection e with e1 e2 e3
    obtain rfl : g = g' := by injection e1 with e4; injection e4
    subst e3
    exact ⟨fun i => cur.getD i undef, cur, hg, hs, fun i hi => by
      show cur[i]? = some (cur.getD i undef)
      rw [Array.getD_eq_getD_getElem?, Array.getElem?_eq_getElem (by omega)]; rfl⟩
set_option maxHeartbeats 400000 in
theorem lin_level (l : Int) (h : 0 ≤ l ∧ l ≤ 7) : Ret 40 #[.int .i64 l] (.bool true) := by
  intro W
  obtain ⟨h0, h7⟩ := h
  go_enter Try.func40, Try.ntmps40
  go_wp2
  go_ret
  exact ⟨by simp, by first | exact Below.refl _ _ | go_grown⟩
theorem wrap_two (n : Nat) (hn : n < 64) : IntKind.u64.wrap (2 ^ n) = ((2 ^ n : Nat) : Int) := by
  have h1 : 2 ^ n < 2 ^ 64 := Nat.pow_lt_pow_right (by decide) hn
  rw [IntKind.wrap_u64, show (2 : Int) ^ n = ((2 ^ n : Nat) : Int) by simp]
  generalize 2 ^ n = p at *
  omega
set_option maxHeartbeats 400000 in
theorem lbit (n : Nat) (hn : n < 64) : Ret 73 #[.int .i64 (n : Int)] (.agg #[.int .u64 0, .int .u64 ((2 ^ n : Nat) : Int)]) := by
  intro W
  go_enter Try.func73, Try.ntmps73
  go_wp2
  refine bodyPost_ret (v := .agg #[.int .u64 0, .int .u64 (IntKind.u64.wrap (2 ^ n))]) (by simp [results, Try.results73, go_sem]) rfl ⟨by rw [wrap_two n hn], ?_⟩
  go_grown
set_option maxHeartbeats 400000 in
theorem inv_none (l : Int) (ah al : Nat) (HO : Ret 54 #[.int .i64 l, .agg #[.int .u64 (ah : Int), .int .u64 (al : Int)]] (.bool false)) :
    Ret 65 #[.int .i64 l, .agg #[.int .u64 (ah : Int), .int .u64 (al : Int)]] (.agg #[.int .u64 ((0 : Nat) : Int), .int .u64 ((0 : Nat) : Int)]) := by
  intro W
  go_enter Try.func65, Try.ntmps65
  go_wp2_with fail
  refine (HO.go _).mono ?_
  rintro e w1 ⟨rfl, hb1⟩
  have R : Ew w1 (W.heap.size + 1) 0 0 := Ew.below ⟨⟨by simp [go_sem], by simp [go_sem]⟩, by simp [go_sem], by simp [go_sem]⟩ hb1
  have D : Below W.heap.size W w1 := (((Below.refl _ _).alloc (Nat.le_refl _) _).alloc (by simp) _).trans (hb1.mono (by simp <;> omega))
  obtain ⟨⟨r1, r0⟩, f1, f0⟩ := R
  clear hb1
  go_wp2
  refine bodyPost_ret (v := .agg #[.int .u64 0, .int .u64 0]) (by simp [results, Try.results65, go_sem, *]) rfl ⟨rfl, ?_⟩
  exact below2 D (by omega) _ _
/-- The inverse that Inv gives. -/
def ivv (l : Int) (y : Nat × Nat) : Nat × Nat := if ofB l y.1 y.2 then (Tw.ivh y.1 y.2, Tw.ivl y.1 y.2) else (0, 0)
theorem inv_lin (l : Int) (y : Nat × Nat) (h1 : y.1 < 2 ^ 64) (h2 : y.2 < 2 ^ 64) : Ret 65 #[.int .i64 l, .agg #[.int .u64 (y.1 : Int), .int .u64 (y.2 : Int)]] (.agg #[.int .u64 ((ivv l y).1 : Int), .int .u64 ((ivv l y).2 : Int)]) := by
  have HA := of_ret l y.1 y.2 h2
  unfold ivv
  cases ha : ofB l y.1 y.2
  · rw [ha] at HA; rw [if_neg (by decide)]; exact inv_none l _ _ HA
  · rw [if_pos rfl]; exact inv_of l y.1 y.2 ha h1 h2
end Go.Proofs.Ytnecjkdlmecgdaa

/- The contract of linpoly.Plain where there is such a space, over the seat's translation. -/
namespace Go.Proofs.Ytnecjkdlmecgdaa
open Go.RowKit

/-- A space that lies at p: its level, its basis. -/
structure Lies (W w : World) (l : Int) (p g n : Nat) (es : List (Nat × Nat)) : Prop where
  hp : p < w.heap.size
  hg : g < w.heap.size
  hn : es.length = n
  c0 : w.cell? ⟨p, 0, none⟩ = some (.int .i64 l)
  c1 : w.cell? ⟨p, 1, none⟩ = some (.slice (some ⟨g, 0, none⟩) n n)
  row : ERow w (some ⟨g, 0, none⟩) es
  d : Below W.heap.size W w
theorem erow_below {w w' : World} {g : Nat} {es : List (Nat × Nat)} (h : ERow w (some ⟨g, 0, none⟩) es) (b : Below w.heap.size w w') : ERow w' (some ⟨g, 0, none⟩) es := ⟨fun i hi => by
  obtain ⟨g', o, e, h1, h2, h3⟩ := h.cells i hi
  refine ⟨g', o, e, Nat.lt_of_lt_of_le h1 b.size, ?_, ?_⟩
  · rw [b.cell (p := ⟨g', o + i * 2, none⟩) h1]; exact h2
  · rw [b.cell (p := ⟨g', o + i * 2 + 1, none⟩) h1]; exact h3⟩
set_option maxHeartbeats 4000000 in
set_option maxRecDepth 100000 in
theorem plain_ok (k n : Nat) (hk : k < 8) (hn : n ≤ 10) (h2 : n ≤ 2 ^ k) (W : World) :
    Calls Try.prog 58 #[.int .i64 (k : Int), .int .i64 (n : Int)] W fun e w' => ∃ p g : Nat, e = .returned (.tuple #[.pointer (some ⟨p, 0, none⟩), .int .i64 0]) ∧ Lies W w' k p g n (bitsE n) := by
  have HL : Hid (Ret 40 #[.int .i64 (k : Int)] (.bool true)) := lin_level (k : Int) (by omega)
  obtain ⟨i0, hi, hz0, hz1, hz2⟩ := info_elem
  have HN : Hid (Try.prog.info? 27 = some i0 ∧ i0.zero = some (.agg #[.int .u64 0, .int .u64 0]) ∧ i0.size = 2 ∧ i0.bytes = 16) := ⟨hi, hz0, hz1, hz2⟩
  clear hi hz0 hz1 hz2
  have hw : IntKind.i64.wrap (2 ^ k) = ((2 ^ k : Nat) : Int) := by
    have h1 : 2 ^ k < 2 ^ 8 := Nat.pow_lt_pow_right (by decide) hk
    rw [IntKind.wrap_i64, show (2 : Int) ^ k = ((2 ^ k : Nat) : Int) by simp]
    generalize 2 ^ k = p at *
    omega
  have h2' : ¬ (2 : Int) ^ k < (n : Int) := by
    rw [show (2 : Int) ^ k = ((2 ^ k : Nat) : Int) by simp]
    omega
  clear h2
  go_enter Try.func58, Try.ntmps58
  go_wp2_with (first | (go_at_call 40; refine (HL.out.go _).mono ?_; rintro e w1 ⟨rfl, hb1⟩) | (at_make; refine wpList_make_full _ rfl _ _ 22 rfl 0 27 i0 (.agg #[.int .u64 0, .int .u64 0]) 2 Try.underlying22 HN.out.1 HN.out.2.1 HN.out.2.2.1 .i64 .i64 _ _ n rfl rfl rfl rfl (by rw [HN.out.2.2.2]; omega) (by simp only [maxLen]; omega) (Nat.zero_le _) ?_; intro w2 own2 hgr2))
  have hg : W.heap.size ≤ w1.heap.size := hb1.size
  have D : Hid (Below W.heap.size W w2) := hb1.grown hgr2 hb1.size (fun k hk => by cases hk)
  obtain ⟨f0, R0⟩ := own_rowIs own2 (rfl : n * 2 = n * 2)
  have HM : Hid (∀ w : World, ERow w (some ⟨w1.heap.size, 0, none⟩) (bitsE n) → Calls Try.prog 43 #[.int .i64 (k : Int), .slice (some ⟨w1.heap.size, 0, none⟩) n n] w fun e w' => ∃ aT aB cT cB ts bs, e = .returned (.pointer (some ⟨w.heap.size, 0, none⟩)) ∧ Mk w w' k (.slice (some ⟨w1.heap.size, 0, none⟩) n n) (.slice aT ts.length cT) (.slice aB ts.length cB) ts.length ts.length (flat ts) (flat bs)) := fun w h => by
    have := made_any (k : Int) (some ⟨w1.heap.size, 0, none⟩) n (bitsE n) w h (by rw [bitsE_len]; exact hn) (bitsE_lt n hn) (ivv k) (fun y h1 h2 => inv_lin k y h1 h2)
    rw [bitsE_len] at this
    refine this.mono ?_
    rintro e w' ⟨aT, aB, cT, cB, ts, bs, rfl, _, _, _, _, _, h⟩
    exact ⟨aT, aB, cT, cB, ts, bs, rfl, h⟩
  clear own2 hgr2 hb1 HL HN hw
  generalize w1.heap.size = g at *
  go_loopw [28] (fun u wr => ∃ (j : Nat) (f : Nat → Value), j ≤ n ∧ u = .int .i64 j ∧ wr.rowIs g 27 (n * 2) f ∧ Hid (∀ p, p < j * 2 → f p = bcell p) ∧ Below W.heap.size W wr) (fun u _ => n - (intOf u).toNat)
  case atStart => exact ⟨0, f0, Nat.zero_le _, rfl, R0, (fun p hp => by omega), D.out⟩
  case round =>
    obtain ⟨j, f, hj, rfl, hR, HF, hD⟩ := hrel
    clear R0 D
    have HR : Hid (wr.rowIs g 27 (n * 2) f) := hR
    have HD : Hid (Below W.heap.size W wr) := hD
    have hgs : g < wr.heap.size := hR.lt
    clear hR hD
    by_cases hlt : j < n
    · have HB : Hid (Ret 73 #[.int .i64 (j : Int)] (.agg #[.int .u64 0, .int .u64 ((2 ^ j : Nat) : Int)])) := lbit j (by omega)
      go_wp2_with (go_at_call 73; refine (HB.out.go _).mono ?_; rintro e w3 ⟨rfl, hb3⟩; have R3 : Hid (w3.rowIs g 27 (n * 2) f) := (HR.out.of_block (hb3.block g hgs)); have c1 := R3.out.cell (i := j * 2) (by omega); have c0 := R3.out.cell (i := j * 2 + 1) (by omega); have z1 := R3.out.frozen (j * 2); have z0 := R3.out.frozen (j * 2 + 1))
      refine ⟨⟨j + 1, _, hlt, by simp, (R3.out.set (j * 2) _).set (j * 2 + 1) _, fun p hp => ?_, ((HD.out.trans (hb3.mono HD.out.size)).setCell hg _).setCell hg _⟩, by simp [intOf]; omega⟩
      have hF := HF.out p
      unfold bcell at hF ⊢
      by_cases e1 : p = j * 2 + 1
      · rw [if_pos e1, if_neg (by omega), show p / 2 = j by omega]; simp
      · rw [if_neg e1]
        by_cases e2 : p = j * 2
        · rw [if_pos e2, if_pos (by omega)]
        · rw [if_neg e2]; exact hF (by omega)
    · obtain rfl : j = n := by omega
      have HE : Hid (ERow wr (some ⟨g, 0, none⟩) (bitsE j)) := row_bits HR.out HF.out
      go_wp2_with (go_at_call 43; refine (HM.out _ HE.out).mono ?_; rintro e w3 ⟨aT, aB, cT, cB, ts, bs, rfl, hK⟩)
      refine bodyPost_ret (v := .tuple #[.pointer (some ⟨wr.heap.size, 0, none⟩), .int .i64 0]) (by simp [results, Try.results58, go_sem]) rfl ?_
      exact ⟨_, _, rfl, cell_lt hK.c0, Nat.lt_of_lt_of_le hgs hK.d.size, bitsE_len j, hK.c0, hK.c1, erow_below HE.out hK.d, HD.out.trans (hK.d.mono HD.out.size)⟩
end Go.Proofs.Ytnecjkdlmecgdaa

/- The contract of span.Point, over the seat's translation. -/
namespace Go.Proofs.Ytnecjkdlmecgdaa
open Go.RowKit

set_option maxHeartbeats 4000000 in
set_option maxRecDepth 100000 in
theorem point_core (j g n : Nat) (es : List (Nat × Nat)) (sv : Nat → Nat × Nat) (b : Nat → Bool) (W : World) (hr : ERow W (some ⟨g, 0, none⟩) es) (hn : es.length = n) (h10 : n ≤ 10)
    (S0 : sv 0 = (0, 0)) (BI : Hid (∀ m : Nat, m < n → bits .and .i64 ((j : Int) / 2 ^ m) 1 = if b m = true then 1 else 0))
    (AD : Hid (∀ m : Nat, m < n → b m = true → Ret 20 #[.agg #[.int .u64 ((sv m).1 : Int), .int .u64 ((sv m).2 : Int)], .agg #[.int .u64 ((es.getD m (0, 0)).1 : Int), .int .u64 ((es.getD m (0, 0)).2 : Int)]] (.agg #[.int .u64 ((sv (m + 1)).1 : Int), .int .u64 ((sv (m + 1)).2 : Int)])))
    (SK : Hid (∀ m : Nat, m < n → b m = false → sv (m + 1) = sv m)) :
    Calls Try.prog 48 #[.slice (some ⟨g, 0, none⟩) n n, .int .i64 (j : Int)] W fun e w' => e = .returned (.agg #[.int .u64 ((sv n).1 : Int), .int .u64 ((sv n).2 : Int)]) ∧ Below W.heap.size W w' := by
  have HR : Hid (ERow W (some ⟨g, 0, none⟩) es) := hr
  clear hr
  have hm : min (n : Int) 62 = (n : Int) := by omega
  go_enter Try.func48, Try.ntmps48
  go_wp2_with fail
  go_loopw [13] (fun u wr => ∃ m : Nat, m ≤ n ∧ u = .int .i64 m ∧ Ew wr (W.heap.size + 1) (sv m).1 (sv m).2 ∧ Ew wr W.heap.size 0 0 ∧ Below W.heap.size W wr) (fun u _ => n - (intOf u).toNat)
  case atStart => exact ⟨0, Nat.zero_le _, rfl, by rw [S0]; exact ⟨⟨by simp [go_sem], by simp [go_sem]⟩, by simp [go_sem], by simp [go_sem]⟩, ⟨⟨by simp [go_sem], by simp [go_sem]⟩, by simp [go_sem], by simp [go_sem]⟩, by go_grown⟩
  case round =>
    obtain ⟨m, hmn, rfl, hS, hO, hD⟩ := hrel
    have HS : Hid (Ew wr (W.heap.size + 1) (sv m).1 (sv m).2) := hS
    have HO : Hid (Ew wr W.heap.size 0 0) := hO
    have HD : Hid (Below W.heap.size W wr) := hD
    clear hS hO hD
    by_cases hlt : m < n
    · have hs : (m : Int) < 64 := by omega
      rcases hbm : b m with _ | _
      · have fb : bits .and .i64 ((j : Int) / 2 ^ m) 1 = 0 := by have := BI.out m hlt; rw [hbm] at this; exact this
        have hE := SK.out m hlt hbm
        clear BI AD SK HR
        go_wp2
        exact ⟨⟨m + 1, hlt, by simp, by rw [hE]; exact HS.out, HO.out, HD.out⟩, by simp [intOf]; omega⟩
      have fb : bits .and .i64 ((j : Int) / 2 ^ m) 1 = 1 := by have := BI.out m hlt; rw [hbm] at this; exact this
      have HA := AD.out m hlt hbm
      obtain ⟨g', off, e, hb, d1, d0⟩ := HR.out.cells m (by omega)
      injection e with e
      injection e with e1 e2
      subst e1 e2
      have b1 : wr.cell? ⟨g, 0 + m * 2, none⟩ = some (.int .u64 ((es.getD m (0, 0)).1 : Nat)) := by rw [HD.out.cell (p := ⟨g, 0 + m * 2, none⟩) hb]; exact d1
      have b0 : wr.cell? ⟨g, 0 + m * 2 + 1, none⟩ = some (.int .u64 ((es.getD m (0, 0)).2 : Nat)) := by rw [HD.out.cell (p := ⟨g, 0 + m * 2 + 1, none⟩) hb]; exact d0
      rw [Nat.zero_add] at b1 b0
      have s1 := HS.out.hi
      have s0 := HS.out.lo
      clear d1 d0 BI AD SK HR
      generalize es.getD m (0, 0) = x at *
      go_upto_region 8 with fail
      refine wp_region_noPanic ?_
      refine wp_region_peel (S := fun w => w.cell? ⟨W.heap.size + 1, 0, none⟩ = some (.int .u64 ((sv m).1 : Nat)) ∧ w.cell? ⟨W.heap.size + 1, 1, none⟩ = some (.int .u64 ((sv m).2 : Nat)) ∧ w.cell? ⟨g, m * 2, none⟩ = some (.int .u64 (x.1 : Nat)) ∧ w.cell? ⟨g, m * 2 + 1, none⟩ = some (.int .u64 (x.2 : Nat))) 6 (by kernel_rfl) rfl (by kernel_rfl) ?_ (fun hHeld => ?_)
      · exact ⟨s1, s0, b1, b0⟩
      refine wpAnyH_take (i := 0) (oi := _) (v := ?_) rfl (by kernel_rfl) (by kernel_rfl) (by kernel_rfl) (fun _ _ _ h => h) (Or.inl ⟨by rfl, ?_⟩) (by assumption) ?_
      rotate_left
      · ((intro w hSw; (try dsimp only at hSw); go_simp) <;> (try with_reducible rfl))
      try simp only [Act.put]
      refine wpAnyH_take (i := 1) (oi := _) (v := ?_) rfl (by kernel_rfl) (by kernel_rfl) (by kernel_rfl) (fun _ _ _ h => h) (Or.inl ⟨by rfl, ?_⟩) (by assumption) ?_
      rotate_left
      · ((intro w hSw; (try dsimp only at hSw); go_simp) <;> (try with_reducible rfl))
      try simp only [Act.put]
      refine wpAnyH_take (i := 2) (oi := _) (v := ?_) rfl (by kernel_rfl) (by kernel_rfl) (by kernel_rfl) (fun _ _ _ h => h) (Or.inl ⟨by rfl, ?_⟩) (by assumption) ?_
      rotate_left
      · ((intro w hSw; (try dsimp only at hSw); go_simp) <;> (try with_reducible rfl))
      try simp only [Act.put]
      refine wpAnyH_take (i := 3) (oi := _) (v := ?_) rfl (by kernel_rfl) (by kernel_rfl) (by kernel_rfl) (fun _ _ _ h => h) (Or.inl ⟨by rfl, ?_⟩) (by assumption) ?_
      rotate_left
      · ((intro w hSw; (try dsimp only at hSw); go_simp) <;> (try with_reducible rfl))
      try simp only [Act.put]
      refine wpAnyH_take (i := 4) (oi := _) (v := ?_) rfl (by kernel_rfl) (by kernel_rfl) (by kernel_rfl) (fun _ _ _ h => h) (Or.inl ⟨by rfl, ?_⟩) (by assumption) ?_
      rotate_left
      · ((intro w hSw; (try dsimp only at hSw); go_simp) <;> (try with_reducible rfl))
      try simp only [Act.put]
      refine wpAnyH_ready (rs := [5]) (by kernel_rfl) (by simp) ?_
      refine AllReadyH.cons (o := _) rfl (fun KK hKK => ?_) AllReadyH.nil
      go_simp
      (go_at_call 20; refine (HA.go _).mono ?_; rintro e w6 ⟨rfl, hb6⟩)
      have hb6' : Below wr.heap.size wr w6 := (Below.refl _ _).drew.trans hb6
      have S6 : Hid (Ew w6 (W.heap.size + 1) (sv m).1 (sv m).2) := HS.out.below hb6'
      have O6 : Hid (Ew w6 W.heap.size 0 0) := HO.out.below hb6'
      have D6 : Hid (Below W.heap.size W w6) := HD.out.trans (hb6'.mono HD.out.size)
      refine hKK.out _ _ ?_ (fun hHeld => ?_)
      · exact ⟨S6.out.hi, S6.out.lo, keepc hb6' b1, keepc hb6' b0⟩
      clear hKK KK
      try simp only [Act.put]
      refine wpAnyH_done (by kernel_rfl) ?_ _
      refine peel_last rfl (fun KK hKK => ?_)
      clear hHeld b1 b0 s1 s0 hb6 hb6' HS HO HD
      have s1 := S6.out.hi
      have s0 := S6.out.lo
      have f1 := S6.out.fhi
      have f0 := S6.out.flo
      go_simp
      refine hKK _ _ ?_
      refine NoPanic.normal ?_
      clear hKK KK
      have S7 : Hid (Ew ((w6.setCell ⟨W.heap.size + 1, 0, none⟩ (.int .u64 ((sv (m + 1)).1 : Int))).setCell ⟨W.heap.size + 1, 1, none⟩ (.int .u64 ((sv (m + 1)).2 : Int))) (W.heap.size + 1) (sv (m + 1)).1 (sv (m + 1)).2) := S6.out.set _ _
      have O7 : Hid (Ew ((w6.setCell ⟨W.heap.size + 1, 0, none⟩ (.int .u64 ((sv (m + 1)).1 : Int))).setCell ⟨W.heap.size + 1, 1, none⟩ (.int .u64 ((sv (m + 1)).2 : Int))) W.heap.size 0 0) := O6.out.other (by omega) _ _
      have D7 : Hid (Below W.heap.size W ((w6.setCell ⟨W.heap.size + 1, 0, none⟩ (.int .u64 ((sv (m + 1)).1 : Int))).setCell ⟨W.heap.size + 1, 1, none⟩ (.int .u64 ((sv (m + 1)).2 : Int)))) := (D6.out.setCell (by show W.heap.size ≤ W.heap.size + 1; omega) _).setCell (by show W.heap.size ≤ W.heap.size + 1; omega) _
      clear S6 O6 D6 s1 s0 f1 f0
      generalize (w6.setCell ⟨W.heap.size + 1, 0, none⟩ (.int .u64 ((sv (m + 1)).1 : Int))).setCell ⟨W.heap.size + 1, 1, none⟩ (.int .u64 ((sv (m + 1)).2 : Int)) = w7 at *
      go_wp2
      exact ⟨⟨m + 1, hlt, by simp, S7.out, O7.out, D7.out⟩, by simp [intOf]; omega⟩
    · obtain rfl : m = n := by omega
      have s1 := HS.out.hi
      have s0 := HS.out.lo
      have o1 := HO.out.hi
      have o0 := HO.out.lo
      have f1 := HO.out.fhi
      have f0 := HO.out.flo
      clear BI AD SK HR
      go_wp2
      refine bodyPost_ret (v := .agg #[.int .u64 ((sv m).1 : Int), .int .u64 ((sv m).2 : Int)]) (by simp [results, Try.results48, go_sem, *]) rfl ⟨rfl, ?_⟩
      exact (HD.out.setCell (Nat.le_refl _) _).setCell (Nat.le_refl _) _
theorem bit_int (n j : Nat) (hn : n < 2 ^ 10) : bits .and .i64 ((n : Int) / 2 ^ j) 1 = ((n / 2 ^ j % 2 : Nat) : Int) := by
  have h1 : n / 2 ^ j < 2 ^ 10 := Nat.lt_of_le_of_lt (Nat.div_le_self _ _) hn
  have h2 : (n : Int) / 2 ^ j = ((n / 2 ^ j : Nat) : Int) := by rw [Int.natCast_ediv, Int.natCast_pow]; rfl
  rw [h2]
  have H : ∀ m : Nat, m < 2 ^ 10 → bits .and .i64 (m : Int) 1 = ((m % 2 : Nat) : Int) := by decide +kernel
  exact H _ h1
/-- The sum of those of the first m elements for which j has the bit. -/
def ptv (es : List (Nat × Nat)) (j : Nat) : Nat → Nat × Nat
  | 0 => (0, 0)
  | m + 1 => if (j / 2 ^ m % 2 == 1) = true then ((ptv es j m).1 ^^^ (es.getD m (0, 0)).1, (ptv es j m).2 ^^^ (es.getD m (0, 0)).2) else ptv es j m
theorem ptv_lt {es : List (Nat × Nat)} (h : ltE es) (j : Nat) : ∀ m, (ptv es j m).1 < 2 ^ 64 ∧ (ptv es j m).2 < 2 ^ 64
  | 0 => ⟨Nat.two_pow_pos 64, Nat.two_pow_pos 64⟩
  | m + 1 => by
    have i := ptv_lt h j m
    unfold ptv
    split
    · exact ⟨Nat.xor_lt_two_pow i.1 (h.at m).1, Nat.xor_lt_two_pow i.2 (h.at m).2⟩
    · exact i
theorem point_any (j g n : Nat) (es : List (Nat × Nat)) (W : World) (hr : ERow W (some ⟨g, 0, none⟩) es) (hn : es.length = n) (h10 : n ≤ 10) (hj : j < 2 ^ 10) (ht : ltE es) :
    Calls Try.prog 48 #[.slice (some ⟨g, 0, none⟩) n n, .int .i64 (j : Int)] W fun e w' => e = .returned (.agg #[.int .u64 ((ptv es j n).1 : Int), .int .u64 ((ptv es j n).2 : Int)]) ∧ Below W.heap.size W w' := by
  refine point_core j g n es (ptv es j) (fun m => j / 2 ^ m % 2 == 1) W hr hn h10 rfl (fun m _ => ?_) (fun m _ hb W => ?_) (fun m _ hb => ?_)
  · rw [bit_int j m hj]
    by_cases h : j / 2 ^ m % 2 = 1
    · simp [h]
    · have h0 : j / 2 ^ m % 2 = 0 := by omega
      simp [h0]
  · rw [show ptv es j (m + 1) = ((ptv es j m).1 ^^^ (es.getD m (0, 0)).1, (ptv es j m).2 ^^^ (es.getD m (0, 0)).2) from if_pos hb]
    exact add_any _ _ _ _ (ptv_lt ht j m).1 (ptv_lt ht j m).2 (ht.at m).1 (ht.at m).2 W
  · exact if_neg (by rw [hb]; decide)
theorem two_bit (i m : Nat) : 2 ^ i / 2 ^ m % 2 = if m = i then 1 else 0 := by
  have := Nat.testBit_two_pow (n := i) (m := m)
  rw [Nat.testBit_eq_decide_div_mod_eq] at this
  by_cases h : m = i
  · subst h; rw [if_pos rfl, Nat.div_self (Nat.two_pow_pos _)]
  · rw [if_neg h]
    have h2 : ¬ 2 ^ i / 2 ^ m % 2 = 1 := fun h3 => by rw [h3] at this; simp at this; exact h this.symm
    omega
/-- At a power of 2 it is that element. -/
theorem ptv_two (n i : Nat) : ∀ m, m ≤ n → ptv (bitsE n) (2 ^ i) m = if i < m then (0, 2 ^ i) else (0, 0)
  | 0, _ => rfl
  | m + 1, h => by
    have I := ptv_two n i m (by omega)
    unfold ptv
    rw [two_bit, I, bitsE_at n m (by omega)]
    by_cases e : m = i
    · subst e; simp
    · by_cases h2 : i < m
      · simp [e, h2, show i < m + 1 by omega]
      · simp [e, h2, show ¬ i < m + 1 by omega]
end Go.Proofs.Ytnecjkdlmecgdaa
