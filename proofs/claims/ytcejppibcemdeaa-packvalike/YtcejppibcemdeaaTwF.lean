/- The products of the upper levels: tower's mul, words and lanes, over the seat's translation. -/
import Derived.Test.YtcejppibcemdeaaPShelfB
import Derived.Deep.RegionWith
import Derived.Deep.DeepCutAuto
import Derived.Deep.RegionHeld3
namespace Go.Proofs.Ytcejppibcemdeaa
open Go.RowKit
open Tw (px)

/-- The least level of which an element is. -/
def lvl (hi lo : Nat) : Int := if hi ≠ 0 then 7 else if lo < 2 then 0 else if lo < 4 then 1 else if lo < 16 then 2 else if lo < 256 then 3 else if lo < 65536 then 4 else if lo < 4294967296 then 5 else 6
theorem bitLen_of (x j : Nat) (h1 : 2 ^ j ≤ x) (h2 : x < 2 ^ (j + 1)) (h : x < 2 ^ 64) : Lib.bitLen x = j + 1 := by
  have e : x / 2 ^ j = 1 := by
    apply Nat.le_antisymm
    · have : x / 2 ^ j < 2 := by rw [Nat.div_lt_iff_lt_mul (Nat.two_pow_pos j)]; rw [Nat.pow_succ] at h2; omega
      omega
    · exact (Nat.one_le_div_iff (Nat.two_pow_pos j)).2 h1
  rw [Lib.bitLen_shift j x h1 h, e]
  rfl
theorem bitLen_range (x : Nat) (h : x ≠ 0) (hx : x < 2 ^ 64) : 1 ≤ Lib.bitLen x ∧ 2 ^ (Lib.bitLen x - 1) ≤ x ∧ x < 2 ^ Lib.bitLen x := by
  have e : Lib.bitLen x = x.log2 + 1 := bitLen_of x x.log2 (Nat.log2_self_le h) Nat.lt_log2_self hx
  rw [e]
  refine ⟨by omega, ?_, ?_⟩
  · simpa using Nat.log2_self_le h
  · exact Nat.lt_log2_self
theorem bitLen_le_iff (x k : Nat) (h : x ≠ 0) (hx : x < 2 ^ 64) : Lib.bitLen x ≤ k ↔ x < 2 ^ k := by
  obtain ⟨h1, h2, h3⟩ := bitLen_range x h hx
  constructor
  · intro hk; exact Nat.lt_of_lt_of_le h3 (Nat.pow_le_pow_right (by decide) hk)
  · intro hk
    have : 2 ^ (Lib.bitLen x - 1) < 2 ^ k := Nat.lt_of_le_of_lt h2 hk
    have := (Nat.pow_lt_pow_iff_right (by decide : 1 < 2)).1 this
    omega
theorem or_one (lo : Nat) : lo ||| 1 = 2 * (lo / 2) + 1 := by
  apply Nat.eq_of_testBit_eq
  intro i
  rw [Nat.testBit_or]
  cases i with
  | zero => simp [Nat.testBit]
  | succ i =>
    rw [Nat.testBit_succ, Nat.testBit_succ, Nat.testBit_succ]
    rw [show (2 * (lo / 2) + 1) / 2 = lo / 2 by omega]
    simp
theorem lvl_eq (lo : Nat) (h : lo < 2 ^ 64) : ((Lib.bitLen (Lib.bitLen (lo ||| 1) - 1) : Nat) : Int) = lvl 0 lo := by
  have hn := or_one lo
  have hz : lo ||| 1 ≠ 0 := by omega
  have hx : lo ||| 1 < 2 ^ 64 := Nat.or_lt_two_pow h (by decide)
  have I := fun k => bitLen_le_iff (lo ||| 1) k hz hx
  have hr := (bitLen_range _ hz hx).1
  have i1 := I 1; have i2 := I 2; have i4 := I 4; have i8 := I 8; have i16 := I 16; have i32 := I 32; have i64 := I 64
  simp only [hn, Nat.reducePow] at i1 i2 i4 i8 i16 i32 i64
  rw [hn] at hr ⊢
  generalize hB : Lib.bitLen (2 * (lo / 2) + 1) = B at *
  unfold lvl
  simp only [ne_eq, not_true_eq_false, if_false]
  have z : Lib.bitLen 0 = 0 := rfl
  by_cases h1 : lo < 2
  · rw [if_pos h1, show B - 1 = 0 by omega, z]; rfl
  rw [if_neg h1]
  by_cases h2 : lo < 4
  · rw [if_pos h2, bitLen_of (B - 1) 0 (by omega) (by omega) (by omega)]; rfl
  rw [if_neg h2]
  by_cases h3 : lo < 16
  · rw [if_pos h3, bitLen_of (B - 1) 1 (by omega) (by omega) (by omega)]; rfl
  rw [if_neg h3]
  by_cases h4 : lo < 256
  · rw [if_pos h4, bitLen_of (B - 1) 2 (by omega) (by omega) (by omega)]; rfl
  rw [if_neg h4]
  by_cases h5 : lo < 65536
  · rw [if_pos h5, bitLen_of (B - 1) 3 (by omega) (by omega) (by omega)]; rfl
  rw [if_neg h5]
  by_cases h6 : lo < 4294967296
  · rw [if_pos h6, bitLen_of (B - 1) 4 (by omega) (by omega) (by omega)]; rfl
  rw [if_neg h6, bitLen_of (B - 1) 5 (by omega) (by omega) (by omega)]; rfl

set_option maxHeartbeats 400000 in
theorem level_core (lo B r : Nat) (x : Int) (hB : 1 ≤ B ∧ B ≤ 64) (f1 : bits .or .u64 (lo : Int) 1 = x) (H1 : Hid (∀ W, Calls Try.prog 74 #[.int .u64 x] W fun e w' => e = .returned (.int .i64 (B : Nat)) ∧ w' = W)) (H2 : Hid (∀ W, Calls Try.prog 76 #[.int .u64 ((B : Int) - 1)] W fun e w' => e = .returned (.int .i64 (r : Nat)) ∧ w' = W)) (W : World) :
    Calls Try.prog 71 #[.agg #[.int .u64 0, .int .u64 (lo : Int)]] W fun e w' => e = .returned (.int .i64 (r : Nat)) ∧ w' = W.alloc (Obj.cells #[.int .u64 0, .int .u64 (lo : Int)] 24) := by
  go_enter Try.func71, Try.ntmps71
  go_wp2_with fail
  refine (H1.out _).mono ?_
  rintro e w1 ⟨rfl, rfl⟩
  go_wp2_with fail
  refine (H2.out _).mono ?_
  rintro e w1 ⟨rfl, rfl⟩
  go_wp2
  go_ret
  exact ⟨rfl, rfl⟩
set_option maxHeartbeats 400000 in
theorem level_high (hi lo : Nat) (h : hi ≠ 0) (W : World) :
    Calls Try.prog 71 #[.agg #[.int .u64 (hi : Int), .int .u64 (lo : Int)]] W fun e w' => e = .returned (.int .i64 7) ∧ w' = W.alloc (Obj.cells #[.int .u64 (hi : Int), .int .u64 (lo : Int)] 24) := by
  have q : ((hi : Int) != 0) = true := by simp; omega
  go_enter Try.func71, Try.ntmps71
  go_wp2
  go_ret
  exact ⟨rfl, rfl⟩
theorem level_any (hi lo : Nat) (hl : lo < 2 ^ 64) (W : World) :
    Calls Try.prog 71 #[.agg #[.int .u64 (hi : Int), .int .u64 (lo : Int)]] W fun e w' => e = .returned (.int .i64 (lvl hi lo)) ∧ w' = W.alloc (Obj.cells #[.int .u64 (hi : Int), .int .u64 (lo : Int)] 24) := by
  by_cases h : hi = 0
  · subst h
    rw [← lvl_eq lo hl]
    have hz : lo ||| 1 ≠ 0 := by rw [or_one]; omega
    have h1 : lo ||| 1 < 2 ^ 64 := Nat.or_lt_two_pow hl (by decide)
    have hb : Lib.bitLen (lo ||| 1) ≤ 64 := (bitLen_le_iff _ 64 hz h1).2 h1
    have hb1 := (bitLen_range _ hz h1).1
    have f1 : bits .or .u64 (lo : Int) 1 = ((lo ||| 1 : Nat) : Int) := u64_or_nat lo 1 hl (by decide)
    refine level_core lo (Lib.bitLen (lo ||| 1)) _ _ ⟨hb1, hb⟩ f1 (fun W => ?_) (fun W => ?_) W
    · have := len64_any ((lo ||| 1 : Nat) : Int) W (by omega) (by omega)
      rwa [Int.toNat_natCast] at this
    · have := len_any ((Lib.bitLen (lo ||| 1) : Int) - 1) W (by omega) (by omega)
      rwa [show ((Lib.bitLen (lo ||| 1) : Int) - 1).toNat = Lib.bitLen (lo ||| 1) - 1 by omega] at this
  · rw [show lvl hi lo = 7 by unfold lvl; rw [if_pos h]]
    exact level_high hi lo h W

open Tw (px)

/-- Two elements and a place for a third lie in three blocks. -/
def Box3 (X : Nat) (ah al bh bl : Nat) (w : World) : Prop := w.heap[X]? = some (.cells #[.int .u64 (ah : Int), .int .u64 (al : Int)] 24) ∧ w.heap[X + 1]? = some (.cells #[.int .u64 (bh : Int), .int .u64 (bl : Int)] 24) ∧ w.heap[X + 1 + 1]? = some (.cells #[.int .u64 0, .int .u64 0] 24)
theorem heap_keep {w w1 : World} {g : Nat} {o : Obj} (h : w.heap[g]? = some o) (k : Below w.heap.size w w1) : w1.heap[g]? = some o := by
  have hl : g < w.heap.size := by
    rcases Nat.lt_or_ge g w.heap.size with h1 | h1
    · exact h1
    · rw [Array.getElem?_eq_none h1] at h; cases h
  rw [k.block g hl]; exact h
theorem Box3.below {X ah al bh bl : Nat} {w w1 : World} (h : Box3 X ah al bh bl w) (k : Below w.heap.size w w1) : Box3 X ah al bh bl w1 :=
  ⟨heap_keep h.1 k, heap_keep h.2.1 k, heap_keep h.2.2 k⟩
theorem Box3.facts {X ah al bh bl : Nat} {w : World} (h : Box3 X ah al bh bl w) :
    w.cell? ⟨X, 0, none⟩ = some (.int .u64 (ah : Int)) ∧ w.cell? ⟨X, 1, none⟩ = some (.int .u64 (al : Int)) ∧ w.cell? ⟨X + 1, 0, none⟩ = some (.int .u64 (bh : Int)) ∧ w.cell? ⟨X + 1, 1, none⟩ = some (.int .u64 (bl : Int)) ∧ w.cell? ⟨X + 1 + 1, 0, none⟩ = some (.int .u64 0) ∧ w.cell? ⟨X + 1 + 1, 1, none⟩ = some (.int .u64 0) ∧ (∀ o, w.frozen? ⟨X, o, none⟩ = false) ∧ (∀ o, w.frozen? ⟨X + 1, o, none⟩ = false) ∧ (∀ o, w.frozen? ⟨X + 1 + 1, o, none⟩ = false) := by
  obtain ⟨h1, h2, h3⟩ := h
  simp [World.cell?, World.frozen?, h1, h2, h3]
theorem Box3.drew {X ah al bh bl : Nat} {w : World} (h : Box3 X ah al bh bl w) : Box3 X ah al bh bl w.drew := h
theorem Box3.lt {X ah al bh bl : Nat} {w : World} (h : Box3 X ah al bh bl w) : X + 1 + 1 < w.heap.size := by
  rcases Nat.lt_or_ge (X + 1 + 1) w.heap.size with h1 | h1
  · exact h1
  · have := h.2.2; rw [Array.getElem?_eq_none h1] at this; cases this
theorem push_old (A : Array Obj) (o : Obj) (i : Nat) (h : i < A.size) : (A.push o)[i]? = A[i]? := by rw [Array.getElem?_push, if_neg (by omega)]
theorem push_new (A : Array Obj) (o : Obj) (i : Nat) (h : i = A.size) : (A.push o)[i]? = some o := by rw [Array.getElem?_push, if_pos h]
theorem box3_new (W : World) (ah al bh bl : Nat) (o4 o5 : Obj) (n : Nat) : Box3 W.heap.size ah al bh bl ((((((W.alloc (Obj.cells #[.int .u64 (ah : Int), .int .u64 (al : Int)] 24)).alloc (Obj.cells #[.int .u64 (bh : Int), .int .u64 (bl : Int)] 24)).alloc (Obj.cells #[.int .u64 0, .int .u64 0] 24)).alloc o4).alloc o5).drewN n) := by
  refine ⟨?_, ?_, ?_⟩
  · show (((((W.heap.push _).push _).push _).push o4).push o5)[W.heap.size]? = _
    rw [push_old _ _ _ (by simp <;> omega), push_old _ _ _ (by simp <;> omega), push_old _ _ _ (by simp <;> omega), push_old _ _ _ (by simp <;> omega)]
    exact push_new _ _ _ rfl
  · show (((((W.heap.push _).push _).push _).push o4).push o5)[W.heap.size + 1]? = _
    rw [push_old _ _ _ (by simp <;> omega), push_old _ _ _ (by simp <;> omega), push_old _ _ _ (by simp <;> omega)]
    exact push_new _ _ _ (by simp)
  · show (((((W.heap.push _).push _).push _).push o4).push o5)[W.heap.size + 1 + 1]? = _
    rw [push_old _ _ _ (by simp <;> omega), push_old _ _ _ (by simp <;> omega)]
    exact push_new _ _ _ (by simp)
theorem below_new (W : World) (o1 o2 o3 o4 o5 : Obj) (n : Nat) : Below W.heap.size W (((((((W.alloc o1).alloc o2).alloc o3).alloc o4).alloc o5)).drewN n) :=
  below_drewN ((((((Below.refl _ _).alloc (Nat.le_refl _) _).alloc (by simp <;> omega) _).alloc (by simp <;> omega) _).alloc (by simp <;> omega) _).alloc (by simp <;> omega) _) n

set_option maxHeartbeats 2000000 in
set_option maxRecDepth 100000 in
theorem prod_low (ah al bh bl r1 r0 : Nat) (la lb : Int) (hle : ¬ lb < la) (h7 : la < 7)
    (HA : Hid (∀ W, Calls Try.prog 71 #[.agg #[.int .u64 (ah : Int), .int .u64 (al : Int)]] W fun e w' => e = .returned (.int .i64 la) ∧ w' = W.alloc (Obj.cells #[.int .u64 (ah : Int), .int .u64 (al : Int)] 24)))
    (HB : Hid (∀ W, Calls Try.prog 71 #[.agg #[.int .u64 (bh : Int), .int .u64 (bl : Int)]] W fun e w' => e = .returned (.int .i64 lb) ∧ w' = W.alloc (Obj.cells #[.int .u64 (bh : Int), .int .u64 (bl : Int)] 24)))
    (H1 : Hid (∀ W, Calls Try.prog 72 #[.int .i64 la, .int .u64 (bh : Int), .int .u64 (al : Int)] W fun e w' => e = .returned (.int .u64 (r1 : Nat)) ∧ Below W.heap.size W w'))
    (H0 : Hid (∀ W, Calls Try.prog 72 #[.int .i64 la, .int .u64 (bl : Int), .int .u64 (al : Int)] W fun e w' => e = .returned (.int .u64 (r0 : Nat)) ∧ Below W.heap.size W w')) (W : World) :
    Calls Try.prog 61 #[.agg #[.int .u64 (ah : Int), .int .u64 (al : Int)], .agg #[.int .u64 (bh : Int), .int .u64 (bl : Int)]] W fun e w' => e = .returned (.agg #[.int .u64 (r1 : Nat), .int .u64 (r0 : Nat)]) ∧ Below W.heap.size W w' := by
  go_enter Try.func61, Try.ntmps61
  go_upto_region 1 with fail
  go_cut [5, 6] (fun s5 s6 w => s5 = .int .i64 la ∧ s6 = .int .i64 lb ∧ Box3 W.heap.size ah al bh bl w ∧ Below W.heap.size W w)
  case first =>
    go_region_with (first | (go_at_call_of 71 (Value.int .u64 (ah : Int)); refine (HA.out _).mono ?_; rintro e w' ⟨rfl, rfl⟩) | (go_at_call_of 71 (Value.int .u64 (bh : Int)); refine (HB.out _).mono ?_; rintro e w' ⟨rfl, rfl⟩))
    all_goals
      go_wp2_with fail
      go_meet
      exact ⟨rfl, rfl, box3_new W ah al bh bl _ _ 1, below_new W _ _ _ _ _ 1⟩
  case rest =>
    obtain ⟨rfl, rfl, B, hbw⟩ := hcut
    obtain ⟨_, _, _, _, _, _, _, _, _⟩ := B.facts
    go_wp2_with fail
    clear hle h7 HA HB
    have hne1 : ¬ W.heap.size = W.heap.size + 1 + 1 := by omega
    have hne2 : ¬ W.heap.size + 1 + 1 = W.heap.size := by omega
    go_region_held3 (fun w' => w'.cell? ⟨W.heap.size, 1, none⟩ = some (.int .u64 (al : Int)) ∧ w'.cell? ⟨W.heap.size + 1, 0, none⟩ = some (.int .u64 (bh : Int)) ∧ w'.cell? ⟨W.heap.size + 1, 1, none⟩ = some (.int .u64 (bl : Int))) (go_keep) (first | (go_at_call_of 72 (Value.int .u64 (bh : Int)); refine (H1.out _).mono ?_; rintro e w1 ⟨rfl, hb1⟩; have B_w1 : Box3 W.heap.size ah al bh bl w1 := (by first | exact B.drew.below hb1 | exact B_w1.below hb1 | exact B_w2.below hb1); have D_w1 : Below W.heap.size W w1 := (by first | exact hbw.drew.trans (hb1.mono hbw.size) | exact D_w1.trans (hb1.mono D_w1.size) | exact D_w2.trans (hb1.mono D_w2.size)); obtain ⟨_, _, _, _, _, _, _, _, _⟩ := B_w1.facts) | (go_at_call_of 72 (Value.int .u64 (bl : Int)); refine (H0.out _).mono ?_; rintro e w2 ⟨rfl, hb2⟩; have B_w2 : Box3 W.heap.size ah al bh bl w2 := (by first | exact B.drew.below hb2 | exact B_w1.below hb2 | exact B_w2.below hb2); have D_w2 : Below W.heap.size W w2 := (by first | exact hbw.drew.trans (hb2.mono hbw.size) | exact D_w1.trans (hb2.mono D_w1.size) | exact D_w2.trans (hb2.mono D_w2.size)); obtain ⟨_, _, _, _, _, _, _, _, _⟩ := B_w2.facts))
    all_goals
      go_wp2
      refine bodyPost_ret (v := .agg #[.int .u64 (r1 : Nat), .int .u64 (r0 : Nat)]) (by simp [results, Try.results61, go_sem, *]) rfl ⟨rfl, ?_⟩
      first | exact (D_w2.setCell (by simp <;> omega) _).setCell (by simp <;> omega) _ | exact (D_w1.setCell (by simp <;> omega) _).setCell (by simp <;> omega) _

open Tw (px)

theorem heap_set {w : World} {b o : Nat} {v : Value} {c : Array Value} {T : TypeId} (h : w.heap[b]? = some (.cells c T)) : (w.setCell ⟨b, o, none⟩ v).heap[b]? = some (.cells (c.setIfInBounds o v) T) := by
  simp [World.setCell, Array.getElem?_modify, h]
theorem heap_set_other {w : World} {b k o : Nat} {v : Value} {x : Obj} (h : w.heap[k]? = some x) (hn : k ≠ b) : (w.setCell ⟨b, o, none⟩ v).heap[k]? = some x := by
  rw [Below.heap_setCell w ⟨b, o, none⟩ v k hn]; exact h
theorem box3_swap {X ah al bh bl : Nat} {wc : World} (h : Box3 X ah al bh bl wc) : Box3 X bh bl ah al ((((wc.setCell ⟨X, 0, none⟩ (.int .u64 (bh : Int))).setCell ⟨X, 1, none⟩ (.int .u64 (bl : Int))).setCell ⟨X + 1, 0, none⟩ (.int .u64 (ah : Int))).setCell ⟨X + 1, 1, none⟩ (.int .u64 (al : Int))) := by
  obtain ⟨h1, h2, h3⟩ := h
  refine ⟨?_, ?_, ?_⟩
  · exact heap_set_other (heap_set_other (heap_set (heap_set h1)) (by omega)) (by omega)
  · exact heap_set (heap_set (heap_set_other (heap_set_other h2 (by omega)) (by omega)))
  · exact heap_set_other (heap_set_other (heap_set_other (heap_set_other h3 (by omega)) (by omega)) (by omega)) (by omega)

set_option maxHeartbeats 2000000 in
set_option maxRecDepth 100000 in
theorem prod_swap (ah al bh bl r1 r0 : Nat) (la lb : Int) (hle : lb < la) (h7 : lb < 7)
    (HA : Hid (∀ W, Calls Try.prog 71 #[.agg #[.int .u64 (ah : Int), .int .u64 (al : Int)]] W fun e w' => e = .returned (.int .i64 la) ∧ w' = W.alloc (Obj.cells #[.int .u64 (ah : Int), .int .u64 (al : Int)] 24)))
    (HB : Hid (∀ W, Calls Try.prog 71 #[.agg #[.int .u64 (bh : Int), .int .u64 (bl : Int)]] W fun e w' => e = .returned (.int .i64 lb) ∧ w' = W.alloc (Obj.cells #[.int .u64 (bh : Int), .int .u64 (bl : Int)] 24)))
    (H1 : Hid (∀ W, Calls Try.prog 72 #[.int .i64 lb, .int .u64 (ah : Int), .int .u64 (bl : Int)] W fun e w' => e = .returned (.int .u64 (r1 : Nat)) ∧ Below W.heap.size W w'))
    (H0 : Hid (∀ W, Calls Try.prog 72 #[.int .i64 lb, .int .u64 (al : Int), .int .u64 (bl : Int)] W fun e w' => e = .returned (.int .u64 (r0 : Nat)) ∧ Below W.heap.size W w')) (W : World) :
    Calls Try.prog 61 #[.agg #[.int .u64 (ah : Int), .int .u64 (al : Int)], .agg #[.int .u64 (bh : Int), .int .u64 (bl : Int)]] W fun e w' => e = .returned (.agg #[.int .u64 (r1 : Nat), .int .u64 (r0 : Nat)]) ∧ Below W.heap.size W w' := by
  go_enter Try.func61, Try.ntmps61
  go_upto_region 1 with fail
  go_cut [5, 6] (fun s5 s6 w => s5 = .int .i64 la ∧ s6 = .int .i64 lb ∧ Box3 W.heap.size ah al bh bl w ∧ Below W.heap.size W w)
  case first =>
    go_region_with (first | (go_at_call_of 71 (Value.int .u64 (ah : Int)); refine (HA.out _).mono ?_; rintro e w' ⟨rfl, rfl⟩) | (go_at_call_of 71 (Value.int .u64 (bh : Int)); refine (HB.out _).mono ?_; rintro e w' ⟨rfl, rfl⟩))
    all_goals
      go_wp2_with fail
      go_meet
      exact ⟨rfl, rfl, box3_new W ah al bh bl _ _ 1, below_new W _ _ _ _ _ 1⟩
  case rest =>
    obtain ⟨rfl, rfl, B, hbw⟩ := hcut
    obtain ⟨k1, k2, k3, k4, k5, k6, k7, k8, k9⟩ := B.facts
    go_wp2_with fail
    clear hle h7 HA HB k1 k2 k3 k4 k5 k6 k7 k8 k9
    have B5 := box3_swap B
    have D5 : Below W.heap.size W ((((wc.setCell ⟨W.heap.size, 0, none⟩ (.int .u64 (bh : Int))).setCell ⟨W.heap.size, 1, none⟩ (.int .u64 (bl : Int))).setCell ⟨W.heap.size + 1, 0, none⟩ (.int .u64 (ah : Int))).setCell ⟨W.heap.size + 1, 1, none⟩ (.int .u64 (al : Int))) := (((hbw.setCell (Nat.le_refl _) _).setCell (Nat.le_refl _) _).setCell (by simp) _).setCell (by simp) _
    generalize (((wc.setCell ⟨W.heap.size, 0, none⟩ (.int .u64 (bh : Int))).setCell ⟨W.heap.size, 1, none⟩ (.int .u64 (bl : Int))).setCell ⟨W.heap.size + 1, 0, none⟩ (.int .u64 (ah : Int))).setCell ⟨W.heap.size + 1, 1, none⟩ (.int .u64 (al : Int)) = w5 at *
    obtain ⟨_, _, _, _, _, _, _, _, _⟩ := B5.facts
    clear B hbw
    have hne1 : ¬ W.heap.size = W.heap.size + 1 + 1 := by omega
    have hne2 : ¬ W.heap.size + 1 + 1 = W.heap.size := by omega
    go_region_held3 (fun w' => w'.cell? ⟨W.heap.size, 1, none⟩ = some (.int .u64 (bl : Int)) ∧ w'.cell? ⟨W.heap.size + 1, 0, none⟩ = some (.int .u64 (ah : Int)) ∧ w'.cell? ⟨W.heap.size + 1, 1, none⟩ = some (.int .u64 (al : Int))) (go_keep) (first | (go_at_call_of 72 (Value.int .u64 (ah : Int)); refine (H1.out _).mono ?_; rintro e w1 ⟨rfl, hb1⟩; have B_w1 : Box3 W.heap.size bh bl ah al w1 := (by first | exact B5.drew.below hb1 | exact B_w1.below hb1 | exact B_w2.below hb1); have D_w1 : Below W.heap.size W w1 := (by first | exact D5.drew.trans (hb1.mono D5.size) | exact D_w1.trans (hb1.mono D_w1.size) | exact D_w2.trans (hb1.mono D_w2.size)); obtain ⟨_, _, _, _, _, _, _, _, _⟩ := B_w1.facts) | (go_at_call_of 72 (Value.int .u64 (al : Int)); refine (H0.out _).mono ?_; rintro e w2 ⟨rfl, hb2⟩; have B_w2 : Box3 W.heap.size bh bl ah al w2 := (by first | exact B5.drew.below hb2 | exact B_w1.below hb2 | exact B_w2.below hb2); have D_w2 : Below W.heap.size W w2 := (by first | exact D5.drew.trans (hb2.mono D5.size) | exact D_w1.trans (hb2.mono D_w1.size) | exact D_w2.trans (hb2.mono D_w2.size)); obtain ⟨_, _, _, _, _, _, _, _, _⟩ := B_w2.facts))
    all_goals
      go_wp2
      refine bodyPost_ret (v := .agg #[.int .u64 (r1 : Nat), .int .u64 (r0 : Nat)]) (by simp [results, Try.results61, go_sem, *]) rfl ⟨rfl, ?_⟩
      first | exact (D_w2.setCell (by simp <;> omega) _).setCell (by simp <;> omega) _ | exact (D_w1.setCell (by simp <;> omega) _).setCell (by simp <;> omega) _
end Go.Proofs.Ytcejppibcemdeaa
