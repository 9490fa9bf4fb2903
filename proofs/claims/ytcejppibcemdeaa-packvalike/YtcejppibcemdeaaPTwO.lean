/- Contracts of octet.isLevel and octet.Of over the seat's translation. -/
import Derived.Test.YtcejppibcemdeaaProg
import Derived.WalkKit
import Derived.WalkLawsBesides
import Derived.WalkSpells
import Derived.Deep.QuietTactic
import Derived.BigQuiet
import Derived.Handy
import Derived.Test.YtcejppibcemdeaaPTwC
import Derived.Test.YtcejppibcemdeaaTwM
import Derived.Deep.RegionWith
import Derived.Test.YtcejppibcemdeaaTwI
namespace Go.Proofs.Ytcejppibcemdeaa
open Go.RowKit

/-- Is there such a level? -/
def levelB (l : Int) : Bool := decide (0 ≤ l) && decide (l ≤ 7)
set_option maxHeartbeats 400000 in
theorem isLevel_any (l : Int) (w : World) : Calls Try.prog 54 #[.int .i64 l] w fun e w' => e = .returned (.bool (levelB l)) ∧ w' = w := by
  by_cases h0 : 0 ≤ l
  · by_cases h7 : l ≤ 7
    · rw [show levelB l = true by simp [levelB, h0, h7]]
      go_enter Try.func54, Try.ntmps54
      go_wp2
      go_ret
      exact ⟨by simp, rfl⟩
    · rw [show levelB l = false by simp [levelB, h7]]
      go_enter Try.func54, Try.ntmps54
      go_wp2
      go_ret
      exact ⟨by simp, rfl⟩
  · rw [show levelB l = false by simp [levelB, h0]]
    go_enter Try.func54, Try.ntmps54
    go_wp2
    go_ret
    exact ⟨by simp, rfl⟩
theorem level_cases (l : Int) (h : levelB l = true) : l = 0 ∨ l = 1 ∨ l = 2 ∨ l = 3 ∨ l = 4 ∨ l = 5 ∨ l = 6 ∨ l = 7 := by
  simp [levelB] at h; omega

/-- Is an element of a level? -/
def ofB (l hi lo : Int) : Bool := levelB l && (decide (l = 7) || (decide (hi = 0) && decide (lo < 2 ^ (2 ^ l.toNat))))

theorem ret_bool {a b : Bool} (h : a = b) : Ending.returned (.bool a) = .returned (.bool b) := by rw [h]

set_option maxHeartbeats 400000 in
theorem of_low (l hi lo : Int) (hl : l = 0 ∨ l = 1 ∨ l = 2 ∨ l = 3 ∨ l = 4 ∨ l = 5 ∨ l = 6) (h0 : 0 ≤ lo) (h1 : lo < 18446744073709551616) (hh : hi = 0) (w : World) : Calls Try.prog 33 #[.int .i64 l, .agg #[.int .u64 hi, .int .u64 lo]] w fun e w' => e = .returned (.bool (ofB l hi lo)) ∧ Below w.heap.size w w' := by
  subst hh
  rcases hl with rfl | rfl | rfl | rfl | rfl | rfl | rfl
  all_goals
    go_enter Try.func33, Try.ntmps33
    go_wp2
    go_quiet (fail)
    go_wp2
    go_ret
    refine ⟨ret_bool ?_, ?_⟩
    rotate_left
    · exact below_drewN ((Below.refl _ _).alloc (Nat.le_refl _) _) _
    rw [Bool.eq_iff_iff]
    simp [ofB, levelB]
    omega
set_option maxHeartbeats 400000 in
theorem of_any (l hi lo : Int) (h0 : 0 ≤ lo) (h1 : lo < 18446744073709551616) (w : World) : Calls Try.prog 33 #[.int .i64 l, .agg #[.int .u64 hi, .int .u64 lo]] w fun e w' => e = .returned (.bool (ofB l hi lo)) ∧ Below w.heap.size w w' := by
  cases h : levelB l
  · have e : ofB l hi lo = false := by simp [ofB, h]
    rw [e]
    go_enter Try.func33, Try.ntmps33
    go_wp2_with (go_at_call 54; refine (isLevel_any _ _).mono ?_; rintro e w1 ⟨rfl, rfl⟩)
    go_ret
    exact ⟨rfl, (Below.refl _ _).alloc (Nat.le_refl _) _⟩
  · by_cases h7 : l = 7
    · subst h7
      rw [show ofB 7 hi lo = true by simp [ofB, levelB]]
      clear h
      go_enter Try.func33, Try.ntmps33
      go_wp2
      go_ret
      exact ⟨rfl, (Below.refl _ _).alloc (Nat.le_refl _) _⟩
    · have hl : l = 0 ∨ l = 1 ∨ l = 2 ∨ l = 3 ∨ l = 4 ∨ l = 5 ∨ l = 6 := by have := level_cases l h; omega
      by_cases hh : hi = 0
      · exact of_low l hi lo hl h0 h1 hh w
      · have e : ofB l hi lo = false := by simp [ofB, h7, hh]
        rw [e]
        have hq : (hi == 0) = false := by simpa using hh
        have h7' : (l == 7) = false := by simpa using h7
        go_enter Try.func33, Try.ntmps33
        go_wp2_with (go_at_call 54; refine (isLevel_any _ _).mono ?_; rintro e w1 ⟨rfl, rfl⟩)
        go_quiet (fail)
        go_wp2
        go_ret
        exact ⟨rfl, below_drewN ((Below.refl _ _).alloc (Nat.le_refl _) _) _⟩

end Go.Proofs.Ytcejppibcemdeaa

/- Contracts of tower.square, Add, Square over the seat's translation. -/
namespace Go.Proofs.Ytcejppibcemdeaa
open Go.RowKit
open Tw (px)

theorem keepc {W w1 : World} (hb : Below W.heap.size W w1) {b o : Nat} {v : Value} (h : W.cell? ⟨b, o, none⟩ = some v) : w1.cell? ⟨b, o, none⟩ = some v := by
  have hl : b < W.heap.size := by
    rcases Nat.lt_or_ge b W.heap.size with h1 | h1
    · exact h1
    · simp [World.cell?, Array.getElem?_eq_none h1] at h
  rw [hb.cell (p := ⟨b, o, none⟩) hl]; exact h
theorem keepf {W w1 : World} (hb : Below W.heap.size W w1) {b o : Nat} {v : Value} (h : W.cell? ⟨b, o, none⟩ = some v) (hf : W.frozen? ⟨b, o, none⟩ = false) : w1.frozen? ⟨b, o, none⟩ = false := by
  have hl : b < W.heap.size := by
    rcases Nat.lt_or_ge b W.heap.size with h1 | h1
    · exact h1
    · simp [World.cell?, Array.getElem?_eq_none h1] at h
  rw [hb.frozen (p := ⟨b, o, none⟩) hl]; exact hf

theorem pmh_self (ah al : Nat) : Tw.pmh ah al ah al = px 4294967296 (px ah ah) := by
  unfold Tw.pmh; rw [Tw.px_comm al ah, Nat.xor_self, Nat.zero_xor]
set_option maxHeartbeats 400000 in
theorem add_core (ah al bh bl r1 r0 : Nat) (f1 : bits .xor .u64 (ah : Int) (bh : Int) = (r1 : Int)) (f0 : bits .xor .u64 (al : Int) (bl : Int) = (r0 : Int)) (W : World) :
    Calls Try.prog 56 #[.agg #[.int .u64 (ah : Int), .int .u64 (al : Int)], .agg #[.int .u64 (bh : Int), .int .u64 (bl : Int)]] W fun e w' => e = .returned (.agg #[.int .u64 (r1 : Nat), .int .u64 (r0 : Nat)]) ∧ Below W.heap.size W w' := by
  go_enter Try.func56, Try.ntmps56
  go_wp2
  refine bodyPost_ret (v := .agg #[.int .u64 (r1 : Nat), .int .u64 (r0 : Nat)]) (by simp [results, Try.results56, go_sem]) rfl ⟨rfl, ?_⟩
  go_grown
theorem add_any (ah al bh bl : Nat) (h1 : ah < 2 ^ 64) (h2 : al < 2 ^ 64) (h3 : bh < 2 ^ 64) (h4 : bl < 2 ^ 64) (W : World) :
    Calls Try.prog 56 #[.agg #[.int .u64 (ah : Int), .int .u64 (al : Int)], .agg #[.int .u64 (bh : Int), .int .u64 (bl : Int)]] W fun e w' => e = .returned (.agg #[.int .u64 (ah ^^^ bh : Nat), .int .u64 (al ^^^ bl : Nat)]) ∧ Below W.heap.size W w' :=
  add_core ah al bh bl _ _ (u64_xor_nat _ _ h1 h3) (u64_xor_nat _ _ h2 h4) W

end Go.Proofs.Ytcejppibcemdeaa

/- Contracts of tower.Mul, Square, One, X, Bit and of steeplelaw02.awake over the seat's translation. -/
namespace Go.Proofs.Ytcejppibcemdeaa
open Go.RowKit
open Tw (px)

theorem box3_three (W : World) (ah al bh bl : Nat) : Box3 W.heap.size ah al bh bl (((W.alloc (Obj.cells #[.int .u64 (ah : Int), .int .u64 (al : Int)] 24)).alloc (Obj.cells #[.int .u64 (bh : Int), .int .u64 (bl : Int)] 24)).alloc (Obj.cells #[.int .u64 0, .int .u64 0] 24)) := by
  refine ⟨?_, ?_, ?_⟩
  · show (((W.heap.push _).push _).push _)[W.heap.size]? = _
    rw [push_old _ _ _ (by simp <;> omega), push_old _ _ _ (by simp <;> omega)]
    exact push_new _ _ _ rfl
  · show (((W.heap.push _).push _).push _)[W.heap.size + 1]? = _
    rw [push_old _ _ _ (by simp <;> omega)]
    exact push_new _ _ _ (by simp)
  · show (((W.heap.push _).push _).push _)[W.heap.size + 1 + 1]? = _
    exact push_new _ _ _ (by simp)

set_option maxHeartbeats 400000 in
theorem mul_ok (l : Int) (ah al bh bl r1 r0 : Nat) (ha : ofB l ah al = true) (hb : ofB l bh bl = true) (h2 : al < 2 ^ 64) (h4 : bl < 2 ^ 64) (HP : Hid (∀ W, Calls Try.prog 61 #[.agg #[.int .u64 (ah : Int), .int .u64 (al : Int)], .agg #[.int .u64 (bh : Int), .int .u64 (bl : Int)]] W fun e w' => e = .returned (.agg #[.int .u64 (r1 : Nat), .int .u64 (r0 : Nat)]) ∧ Below W.heap.size W w')) (W : World) :
    Calls Try.prog 57 #[.int .i64 l, .agg #[.int .u64 (ah : Int), .int .u64 (al : Int)], .agg #[.int .u64 (bh : Int), .int .u64 (bl : Int)]] W fun e w' => e = .returned (.agg #[.int .u64 (r1 : Nat), .int .u64 (r0 : Nat)]) ∧ Below W.heap.size W w' := by
  have HO : Hid (∀ W, Calls Try.prog 33 #[.int .i64 l, .agg #[.int .u64 (ah : Int), .int .u64 (al : Int)]] W fun e w' => e = .returned (.bool true) ∧ Below W.heap.size W w') := fun W => by
    have := of_any l ah al (by omega) (by omega) W
    rwa [ha] at this
  have HO2 : Hid (∀ W, Calls Try.prog 33 #[.int .i64 l, .agg #[.int .u64 (bh : Int), .int .u64 (bl : Int)]] W fun e w' => e = .returned (.bool true) ∧ Below W.heap.size W w') := fun W => by
    have := of_any l bh bl (by omega) (by omega) W
    rwa [hb] at this
  clear ha hb h2 h4
  go_enter Try.func57, Try.ntmps57
  go_wp2_with fail
  refine (HO.out _).mono ?_
  rintro e w1 ⟨rfl, hb1⟩
  have B1 : Box3 W.heap.size ah al bh bl w1 := (box3_three W ah al bh bl).below hb1
  have D1 : Below W.heap.size W w1 := ((((Below.refl _ _).alloc (Nat.le_refl _) _).alloc (by simp <;> omega) _).alloc (by simp <;> omega) _).trans (hb1.mono (by simp <;> omega))
  obtain ⟨k1, k2, k3, k4, k5, k6, k7, k8, k9⟩ := B1.facts
  go_wp2_with fail
  refine (HO2.out _).mono ?_
  rintro e w2 ⟨rfl, hb2⟩
  have B2 := B1.below hb2
  have D2 := D1.trans (hb2.mono D1.size)
  clear k1 k2 k3 k4 k5 k6 k7 k8 k9 B1 D1 hb1 hb2 HO HO2
  obtain ⟨k1, k2, k3, k4, k5, k6, k7, k8, k9⟩ := B2.facts
  go_wp2_with fail
  refine (HP.out _).mono ?_
  rintro e w3 ⟨rfl, hb3⟩
  have B3 := B2.below hb3
  have D3 := D2.trans (hb3.mono D2.size)
  clear k1 k2 k3 k4 k5 k6 k7 k8 k9 B2 D2 hb3 HP
  obtain ⟨k1, k2, k3, k4, k5, k6, k7, k8, k9⟩ := B3.facts
  go_wp2
  refine bodyPost_ret (v := .agg #[.int .u64 (r1 : Nat), .int .u64 (r0 : Nat)]) (by simp [results, Try.results57, go_sem, *]) rfl ⟨rfl, ?_⟩
  exact (D3.setCell (by simp <;> omega) _).setCell (by simp <;> omega) _
/-- The product of two elements of a level. -/
theorem mul_of (l : Int) (ah al bh bl : Nat) (ha : ofB l ah al = true) (hb : ofB l bh bl = true) (h1 : ah < 2 ^ 64) (h2 : al < 2 ^ 64) (h3 : bh < 2 ^ 64) (h4 : bl < 2 ^ 64) (W : World) :
    Calls Try.prog 57 #[.int .i64 l, .agg #[.int .u64 (ah : Int), .int .u64 (al : Int)], .agg #[.int .u64 (bh : Int), .int .u64 (bl : Int)]] W fun e w' => e = .returned (.agg #[.int .u64 (Tw.pmh ah al bh bl : Nat), .int .u64 (Tw.pml ah al bh bl : Nat)]) ∧ Below W.heap.size W w' :=
  mul_ok l ah al bh bl _ _ ha hb h2 h4 (fun W => product_any ah al bh bl h1 h2 h3 h4 W) W
theorem mul122 (W : World) : Calls Try.prog 57 #[.int .i64 1, .agg #[.int .u64 0, .int .u64 2], .agg #[.int .u64 0, .int .u64 2]] W fun e w' => e = .returned (.agg #[.int .u64 0, .int .u64 3]) ∧ Below W.heap.size W w' := by
  have h := mul_of 1 0 2 0 2 (by decide) (by decide) (by decide) (by decide) (by decide) (by decide) W
  rw [show Tw.pmh 0 2 0 2 = 0 by decide +kernel, show Tw.pml 0 2 0 2 = 3 by decide +kernel] at h
  exact h
theorem mul244 (W : World) : Calls Try.prog 57 #[.int .i64 2, .agg #[.int .u64 0, .int .u64 4], .agg #[.int .u64 0, .int .u64 4]] W fun e w' => e = .returned (.agg #[.int .u64 0, .int .u64 9]) ∧ Below W.heap.size W w' := by
  have h := mul_of 2 0 4 0 4 (by decide) (by decide) (by decide) (by decide) (by decide) (by decide) W
  rw [show Tw.pmh 0 4 0 4 = 0 by decide +kernel, show Tw.pml 0 4 0 4 = 9 by decide +kernel] at h
  exact h
end Go.Proofs.Ytcejppibcemdeaa

/- Contract of steeplelaw02.of over the seat's translation: elements cut down to a level. -/
namespace Go.Proofs.Ytcejppibcemdeaa
open Go.RowKit

/-- The cells of elements, one behind the other. -/
def flat (es : List (Nat × Nat)) : List Value := es.flatMap fun e => [.int .u64 (e.1 : Int), .int .u64 (e.2 : Int)]
theorem flat_len (es : List (Nat × Nat)) : (flat es).length = es.length * 2 := by
  induction es with
  | nil => rfl
  | cons e l ih => simp [flat] at ih ⊢; omega
theorem flat_snoc (es : List (Nat × Nat)) (e : Nat × Nat) : flat (es ++ [e]) = flat es ++ [.int .u64 (e.1 : Int), .int .u64 (e.2 : Int)] := by simp [flat]
theorem take_sn (es : List (Nat × Nat)) (k : Nat) (h : k < es.length) : es.take (k + 1) = es.take k ++ [es.getD k (0, 0)] := by
  rw [List.take_succ_eq_append_getElem h]; simp [h]

theorem info_elem : ∃ i, Try.prog.info? 24 = some i ∧ i.zero = some (.agg #[.int .u64 0, .int .u64 0]) ∧ i.size = 2 ∧ i.bytes = 16 := by
  have h : (Try.prog.info? 24).map (fun i => (i.zero, i.size, i.bytes)) = some (some (.agg #[.int .u64 0, .int .u64 0]), 2, 16) := by kernel_rfl
  obtain ⟨i, hi, he⟩ := Option.map_eq_some_iff.1 h
  simp only [Prod.mk.injEq] at he
  exact ⟨i, hi, he.1, he.2.1, he.2.2⟩

theorem own_below {w w' : World} {base : Nat} {e : TypeId} {size : Nat} {v : Value} {n : Nat} {xs : List Value} (h : w.ownsRow base e size v n xs) (hb : Below w.heap.size w w') : w'.ownsRow base e size v n xs :=
  h.kept (row := none) ⟨hb.os, hb.tape, hb.output, hb.size, fun k hk _ => hb.block k hk⟩ (by cases v.ownBlock <;> simp)

/-- An element cut down to a level. -/
def cutE (k : Nat) (e : Nat × Nat) : Nat × Nat := (if k < 7 then 0 else e.1, if k < 6 then e.2 % 2 ^ 2 ^ k else e.2)
theorem mask_nat (k x M : Nat) (hM : M + 1 = 2 ^ 2 ^ k) (hM2 : M < 2 ^ 64) (hx : x < 2 ^ 64) : bits .and .u64 (x : Int) (M : Int) = ((x % 2 ^ 2 ^ k : Nat) : Int) := by
  rw [u64_and_nat _ _ hx hM2, show M = 2 ^ 2 ^ k - 1 by omega, Nat.and_two_pow_sub_one_eq_mod]
theorem getD_map {es : List (Nat × Nat)} (f : Nat × Nat → Nat × Nat) {i : Nat} (h : i < es.length) : (es.map f).getD i (0, 0) = f (es.getD i (0, 0)) := by
  simp [h]
theorem getD_lt {es : List (Nat × Nat)} (hes : ∀ e ∈ es, e.2 < 2 ^ 64) (i : Nat) : (es.getD i (0, 0)).2 < 2 ^ 64 := by
  by_cases h : i < es.length
  · rw [show es.getD i (0, 0) = es[i] by simp [h]]; exact hes _ (List.getElem_mem h)
  · rw [show es.getD i (0, 0) = (0, 0) by simp [List.getD, List.getElem?_eq_none (Nat.not_lt.1 h)]]; decide
end Go.Proofs.Ytcejppibcemdeaa
