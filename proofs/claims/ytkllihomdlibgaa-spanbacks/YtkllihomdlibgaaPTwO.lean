/- The products of the upper levels: tower's mul, words and lanes, over the seat's translation. -/
import Derived.Test.YtkllihomdlibgaaPShelfB
import Derived.Deep.RegionWith
import Derived.Deep.DeepCutAuto
import Derived.Deep.RegionHeld3
import Derived.Test.YtkllihomdlibgaaTwM
import Derived.Test.YtkllihomdlibgaaProg
import Derived.WalkKit
import Derived.WalkLawsBesides
import Derived.WalkSpells
import Derived.Deep.QuietTactic
import Derived.BigQuiet
import Derived.Handy
namespace Go.Proofs.Ytkllihomdlibgaa
open Go.RowKit
open Tw (px)

/-- The least level of which an element is. -/
def lvl (hi lo : Nat) : Int := if hi ≠ 0 then 7 else if lo < 2 then 0 else if lo < 4 then 1 else if lo < 16 then 2 else if lo < 256 then 3 else if lo < 65536 then 4 else if lo < 4294967296 then 5 else 6
theorem bitLen_of (x j : Nat) (h1 : 2 ^ j ≤ x) (h2 : x < 2 ^ (j + 1)) (h : x < 2 ^ 64) : Lib.bitLen x = j + 1 := by
  have e : x / 2 ^ j = 1 := by
    apply Nat.le_antisymm
    · have : x / 2 ^ j < 2 := by rw [Nat.div_lt_iff_lt_mul (Nat.two_pow_pos j)]; rw [Nat.pow_succ] at h2; omega
      omega
    · exact (Nat.one_le_div_iff (Nat.two_pow_pos j)).2 h1
  rw [Lib.bitLen_shift j x h1 h, e]
  rfl
theorem bitLen_range (x : Nat) (h : x ≠ 0) (hx : x < 2 ^ 64) : 1 ≤ Lib.bitLen x ∧ 2 ^ (Lib.bitLen x - 1) ≤ x ∧ x < 2 ^ Lib.bitLen x := by
  have e : Lib.bitLen x = x.log2 + 1 := bitLen_of x x.log2 (Nat.log2_self_le h) Nat.lt_log2_self hx
  rw [e]
  refine ⟨by omega, ?_, ?_⟩
  · simpa using Nat.log2_self_le h
  · exact Nat.lt_log2_self
theorem bitLen_le_iff (x k : Nat) (h : x ≠ 0) (hx : x < 2 ^ 64) : Lib.bitLen x ≤ k ↔ x < 2 ^ k := by
  obtain ⟨h1, h2, h3⟩ := bitLen_range x h hx
  constructor
  · intro hk; exact Nat.lt_of_lt_of_le h3 (Nat.pow_le_pow_right (by decide) hk)
  · intro hk
    have : 2 ^ (Lib.bitLen x - 1) < 2 ^ k := Nat.lt_of_le_of_lt h2 hk
    have := (Nat.pow_lt_pow_iff_right (by decide : 1 < 2)).1 this
    omega
theorem or_one (lo : Nat) : lo ||| 1 = 2 * (lo / 2) + 1 := by
  apply Nat.eq_of_testBit_eq
  intro i
  rw [Nat.testBit_or]
  cases i with
  | zero => simp [Nat.testBit]
  | succ i =>
    rw [Nat.testBit_succ, Nat.testBit_succ, Nat.testBit_succ]
    rw [show (2 * (lo / 2) + 1) / 2 = lo / 2 by omega]
    simp
theorem lvl_eq (lo : Nat) (h : lo < 2 ^ 64) : ((Lib.bitLen (Lib.bitLen (lo ||| 1) - 1) : Nat) : Int) = lvl 0 lo := by
  have hn := or_one lo
  have hz : lo ||| 1 ≠ 0 := by omega
  have hx : lo ||| 1 < 2 ^ 64 := Nat.or_lt_two_pow h (by decide)
  have I := fun k => bitLen_le_iff (lo ||| 1) k hz hx
  have hr := (bitLen_range _ hz hx).1
  have i1 := I 1; have i2 := I 2; have i4 := I 4; have i8 := I 8; have i16 := I 16; have i32 := I 32; have i64 := I 64
  simp only [hn, Nat.reducePow] at i1 i2 i4 i8 i16 i32 i64
  rw [hn] at hr ⊢
  generalize hB : Lib.bitLen (2 * (lo / 2) + 1) = B at *
  unfold lvl
  simp only [ne_eq, not_true_eq_false, if_false]
  have z : Lib.bitLen 0 = 0 := rfl
  by_cases h1 : lo < 2
  · rw [if_pos h1, show B - 1 = 0 by omega, z]; rfl
  rw [if_neg h1]
  by_cases h2 : lo < 4
  · rw [if_pos h2, bitLen_of (B - 1) 0 (by omega) (by omega) (by omega)]; rfl
  rw [if_neg h2]
  by_cases h3 : lo < 16
  · rw [if_pos h3, bitLen_of (B - 1) 1 (by omega) (by omega) (by omega)]; rfl
  rw [if_neg h3]
  by_cases h4 : lo < 256
  · rw [if_pos h4, bitLen_of (B - 1) 2 (by omega) (by omega) (by omega)]; rfl
  rw [if_neg h4]
  by_cases h5 : lo < 65536
  · rw [if_pos h5, bitLen_of (B - 1) 3 (by omega) (by omega) (by omega)]; rfl
  rw [if_neg h5]
  by_cases h6 : lo < 4294967296
  · rw [if_pos h6, bitLen_of (B - 1) 4 (by omega) (by omega) (by omega)]; rfl
  rw [if_neg h6, bitLen_of (B - 1) 5 (by omega) (by omega) (by omega)]; rfl

open Tw (px)

/-- Two elements and a place for a third lie in three blocks. -/
def Box3 (X : Nat) (ah al bh bl : Nat) (w : World) : Prop := w.heap[X]? = some (.cells #[.int .u64 (ah : Int), .int .u64 (al : Int)] 25) ∧ w.heap[X + 1]? = some (.cells #[.int .u64 (bh : Int), .int .u64 (bl : Int)] 25) ∧ w.heap[X + 1 + 1]? = some (.cells #[.int .u64 0, .int .u64 0] 25)
theorem heap_keep {w w1 : World} {g : Nat} {o : Obj} (h : w.heap[g]? = some o) (k : Below w.heap.size w w1) : w1.heap[g]? = some o := by
  have hl : g < w.heap.size := by
    rcases Nat.lt_or_ge g w.heap.size with h1 | h1
    · exact h1
    · rw [Array.getElem?_eq_none h1] at h; cases h
  rw [k.block g hl]; exact h
theorem Box3.below {X ah al bh bl : Nat} {w w1 : World} (h : Box3 X ah al bh bl w) (k : Below w.heap.size w w1) : Box3 X ah al bh bl w1 :=
  ⟨heap_keep h.1 k, heap_keep h.2.1 k, heap_keep h.2.2 k⟩
theorem Box3.facts {X ah al bh bl : Nat} {w : World} (h : Box3 X ah al bh bl w) :
    w.cell? ⟨X, 0, none⟩ = some (.int .u64 (ah : Int)) ∧ w.cell? ⟨X, 1, none⟩ = some (.int .u64 (al : Int)) ∧ w.cell? ⟨X + 1, 0, none⟩ = some (.int .u64 (bh : Int)) ∧ w.cell? ⟨X + 1, 1, none⟩ = some (.int .u64 (bl : Int)) ∧ w.cell? ⟨X + 1 + 1, 0, none⟩ = some (.int .u64 0) ∧ w.cell? ⟨X + 1 + 1, 1, none⟩ = some (.int .u64 0) ∧ (∀ o, w.frozen? ⟨X, o, none⟩ = false) ∧ (∀ o, w.frozen? ⟨X + 1, o, none⟩ = false) ∧ (∀ o, w.frozen? ⟨X + 1 + 1, o, none⟩ = false) := by
  obtain ⟨h1, h2, h3⟩ := h
  simp [World.cell?, World.frozen?, h1, h2, h3]
theorem Box3.drew {X ah al bh bl : Nat} {w : World} (h : Box3 X ah al bh bl w) : Box3 X ah al bh bl w.drew := h
theorem Box3.lt {X ah al bh bl : Nat} {w : World} (h : Box3 X ah al bh bl w) : X + 1 + 1 < w.heap.size := by
  rcases Nat.lt_or_ge (X + 1 + 1) w.heap.size with h1 | h1
  · exact h1
  · have := h.2.2; rw [Array.getElem?_eq_none h1] at this; cases this
theorem push_old (A : Array Obj) (o : Obj) (i : Nat) (h : i < A.size) : (A.push o)[i]? = A[i]? := by rw [Array.getElem?_push, if_neg (by omega)]
theorem push_new (A : Array Obj) (o : Obj) (i : Nat) (h : i = A.size) : (A.push o)[i]? = some o := by rw [Array.getElem?_push, if_pos h]
theorem box3_new (W : World) (ah al bh bl : Nat) (o4 o5 : Obj) (n : Nat) : Box3 W.heap.size ah al bh bl ((((((W.alloc (Obj.cells #[.int .u64 (ah : Int), .int .u64 (al : Int)] 25)).alloc (Obj.cells #[.int .u64 (bh : Int), .int .u64 (bl : Int)] 25)).alloc (Obj.cells #[.int .u64 0, .int .u64 0] 25)).alloc o4).alloc o5).drewN n) := by
  refine ⟨?_, ?_, ?_⟩
  · show (((((W.heap.push _).push _).push _).push o4).push o5)[W.heap.size]? = _
    rw [push_old _ _ _ (by simp <;> omega), push_old _ _ _ (by simp <;> omega), push_old _ _ _ (by simp <;> omega), push_old _ _ _ (by simp <;> omega)]
    exact push_new _ _ _ rfl
  · show (((((W.heap.push _).push _).push _).push o4).push o5)[W.heap.size + 1]? = _
    rw [push_old _ _ _ (by simp <;> omega), push_old _ _ _ (by simp <;> omega), push_old _ _ _ (by simp <;> omega)]
    exact push_new _ _ _ (by simp)
  · show (((((W.heap.push _).push _).push _).push o4).push o5)[W.heap.size + 1 + 1]? = _
    rw [push_old _ _ _ (by simp <;> omega), push_old _ _ _ (by simp <;> omega)]
    exact push_new _ _ _ (by simp)
theorem below_new (W : World) (o1 o2 o3 o4 o5 : Obj) (n : Nat) : Below W.heap.size W (((((((W.alloc o1).alloc o2).alloc o3).alloc o4).alloc o5)).drewN n) :=
  below_drewN ((((((Below.refl _ _).alloc (Nat.le_refl _) _).alloc (by simp <;> omega) _).alloc (by simp <;> omega) _).alloc (by simp <;> omega) _).alloc (by simp <;> omega) _) n

open Tw (px)

theorem heap_set {w : World} {b o : Nat} {v : Value} {c : Array Value} {T : TypeId} (h : w.heap[b]? = some (.cells c T)) : (w.setCell ⟨b, o, none⟩ v).heap[b]? = some (.cells (c.setIfInBounds o v) T) := by
  simp [World.setCell, Array.getElem?_modify, h]
theorem heap_set_other {w : World} {b k o : Nat} {v : Value} {x : Obj} (h : w.heap[k]? = some x) (hn : k ≠ b) : (w.setCell ⟨b, o, none⟩ v).heap[k]? = some x := by
  rw [Below.heap_setCell w ⟨b, o, none⟩ v k hn]; exact h
theorem box3_swap {X ah al bh bl : Nat} {wc : World} (h : Box3 X ah al bh bl wc) : Box3 X bh bl ah al ((((wc.setCell ⟨X, 0, none⟩ (.int .u64 (bh : Int))).setCell ⟨X, 1, none⟩ (.int .u64 (bl : Int))).setCell ⟨X + 1, 0, none⟩ (.int .u64 (ah : Int))).setCell ⟨X + 1, 1, none⟩ (.int .u64 (al : Int))) := by
  obtain ⟨h1, h2, h3⟩ := h
  refine ⟨?_, ?_, ?_⟩
  · exact heap_set_other (heap_set_other (heap_set (heap_set h1)) (by omega)) (by omega)
  · exact heap_set (heap_set (heap_set_other (heap_set_other h2 (by omega)) (by omega)))
  · exact heap_set_other (heap_set_other (heap_set_other (heap_set_other h3 (by omega)) (by omega)) (by omega)) (by omega)

end Go.Proofs.Ytkllihomdlibgaa

/- Contract of tower.product, whole. -/
namespace Go.Proofs.Ytkllihomdlibgaa
open Go.RowKit
open Tw (px)

theorem lvl_cases (hi lo : Nat) : (hi ≠ 0 ∧ lvl hi lo = 7) ∨ (hi = 0 ∧ (lvl hi lo = 0 ∨ lvl hi lo = 1 ∨ lvl hi lo = 2 ∨ lvl hi lo = 3 ∨ lvl hi lo = 4 ∨ lvl hi lo = 5 ∨ lvl hi lo = 6)) := by
  unfold lvl
  by_cases h : hi = 0
  · right
    refine ⟨h, ?_⟩
    rw [if_neg (by simpa using h)]
    repeat' split
    all_goals omega
  · left
    exact ⟨h, if_pos h⟩
theorem lvl_lim (lo : Nat) (h : lo < 2 ^ 64) : lo < lim (lvl 0 lo) := by
  unfold lvl
  simp only [ne_eq, not_true_eq_false, if_false]
  repeat' split
  all_goals (simp [lim]; omega)
theorem mixed (ah al bh bl : Nat) : (px (bh ^^^ bl) (ah ^^^ al) ^^^ px bh ah) ^^^ px bl al = px ah bl ^^^ px al bh := by
  rw [Tw.px_lin, Tw.px_comm _ ah, Tw.px_lin, Tw.px_comm _ al, Tw.px_lin, Tw.px_comm bh ah, Tw.px_comm bl al]
  apply Nat.eq_of_testBit_eq
  intro i
  simp only [Nat.testBit_xor]
  cases (px ah bh).testBit i <;> cases (px ah bl).testBit i <;> cases (px al bh).testBit i <;> cases (px al bl).testBit i <;> rfl
end Go.Proofs.Ytkllihomdlibgaa

/- Contracts of octet.isLevel and octet.Of over the seat's translation. -/
namespace Go.Proofs.Ytkllihomdlibgaa
open Go.RowKit

/-- Is there such a level? -/
def levelB (l : Int) : Bool := decide (0 ≤ l) && decide (l ≤ 7)
theorem level_cases (l : Int) (h : levelB l = true) : l = 0 ∨ l = 1 ∨ l = 2 ∨ l = 3 ∨ l = 4 ∨ l = 5 ∨ l = 6 ∨ l = 7 := by
  simp [levelB] at h; omega

/-- Is an element of a level? -/
def ofB (l hi lo : Int) : Bool := levelB l && (decide (l = 7) || (decide (hi = 0) && decide (lo < 2 ^ (2 ^ l.toNat))))

theorem ret_bool {a b : Bool} (h : a = b) : Ending.returned (.bool a) = .returned (.bool b) := by rw [h]

end Go.Proofs.Ytkllihomdlibgaa

/- Contracts of tower.square, Add, Square over the seat's translation. -/
namespace Go.Proofs.Ytkllihomdlibgaa
open Go.RowKit
open Tw (px)

theorem keepc {W w1 : World} (hb : Below W.heap.size W w1) {b o : Nat} {v : Value} (h : W.cell? ⟨b, o, none⟩ = some v) : w1.cell? ⟨b, o, none⟩ = some v := by
  have hl : b < W.heap.size := by
    rcases Nat.lt_or_ge b W.heap.size with h1 | h1
    · exact h1
    · simp [World.cell?, Array.getElem?_eq_none h1] at h
  rw [hb.cell (p := ⟨b, o, none⟩) hl]; exact h
theorem keepf {W w1 : World} (hb : Below W.heap.size W w1) {b o : Nat} {v : Value} (h : W.cell? ⟨b, o, none⟩ = some v) (hf : W.frozen? ⟨b, o, none⟩ = false) : w1.frozen? ⟨b, o, none⟩ = false := by
  have hl : b < W.heap.size := by
    rcases Nat.lt_or_ge b W.heap.size with h1 | h1
    · exact h1
    · simp [World.cell?, Array.getElem?_eq_none h1] at h
  rw [hb.frozen (p := ⟨b, o, none⟩) hl]; exact hf

theorem pmh_self (ah al : Nat) : Tw.pmh ah al ah al = px 4294967296 (px ah ah) := by
  unfold Tw.pmh; rw [Tw.px_comm al ah, Nat.xor_self, Nat.zero_xor]
set_option maxHeartbeats 400000 in
theorem add_core (ah al bh bl r1 r0 : Nat) (f1 : bits .xor .u64 (ah : Int) (bh : Int) = (r1 : Int)) (f0 : bits .xor .u64 (al : Int) (bl : Int) = (r0 : Int)) (W : World) :
    Calls Try.prog 24 #[.agg #[.int .u64 (ah : Int), .int .u64 (al : Int)], .agg #[.int .u64 (bh : Int), .int .u64 (bl : Int)]] W fun e w' => e = .returned (.agg #[.int .u64 (r1 : Nat), .int .u64 (r0 : Nat)]) ∧ Below W.heap.size W w' := by
  go_enter Try.func24, Try.ntmps24
  go_wp2
  refine bodyPost_ret (v := .agg #[.int .u64 (r1 : Nat), .int .u64 (r0 : Nat)]) (by simp [results, Try.results24, go_sem]) rfl ⟨rfl, ?_⟩
  go_grown
theorem add_any (ah al bh bl : Nat) (h1 : ah < 2 ^ 64) (h2 : al < 2 ^ 64) (h3 : bh < 2 ^ 64) (h4 : bl < 2 ^ 64) (W : World) :
    Calls Try.prog 24 #[.agg #[.int .u64 (ah : Int), .int .u64 (al : Int)], .agg #[.int .u64 (bh : Int), .int .u64 (bl : Int)]] W fun e w' => e = .returned (.agg #[.int .u64 (ah ^^^ bh : Nat), .int .u64 (al ^^^ bl : Nat)]) ∧ Below W.heap.size W w' :=
  add_core ah al bh bl _ _ (u64_xor_nat _ _ h1 h3) (u64_xor_nat _ _ h2 h4) W

end Go.Proofs.Ytkllihomdlibgaa

/- Contracts of tower.Mul, Square, One, X, Bit and of steeplelaw02.awake over the seat's translation. -/
namespace Go.Proofs.Ytkllihomdlibgaa
open Go.RowKit
open Tw (px)

theorem box3_three (W : World) (ah al bh bl : Nat) : Box3 W.heap.size ah al bh bl (((W.alloc (Obj.cells #[.int .u64 (ah : Int), .int .u64 (al : Int)] 25)).alloc (Obj.cells #[.int .u64 (bh : Int), .int .u64 (bl : Int)] 25)).alloc (Obj.cells #[.int .u64 0, .int .u64 0] 25)) := by
  refine ⟨?_, ?_, ?_⟩
  · show (((W.heap.push _).push _).push _)[W.heap.size]? = _
    rw [push_old _ _ _ (by simp <;> omega), push_old _ _ _ (by simp <;> omega)]
    exact push_new _ _ _ rfl
  · show (((W.heap.push _).push _).push _)[W.heap.size + 1]? = _
    rw [push_old _ _ _ (by simp <;> omega)]
    exact push_new _ _ _ (by simp)
  · show (((W.heap.push _).push _).push _)[W.heap.size + 1 + 1]? = _
    exact push_new _ _ _ (by simp)

end Go.Proofs.Ytkllihomdlibgaa

/- Contract of steeplelaw02.of over the seat's translation: elements cut down to a level. -/
namespace Go.Proofs.Ytkllihomdlibgaa
open Go.RowKit

/-- The cells of elements, one behind the other. -/
def flat (es : List (Nat × Nat)) : List Value := es.flatMap fun e => [.int .u64 (e.1 : Int), .int .u64 (e.2 : Int)]
theorem flat_len (es : List (Nat × Nat)) : (flat es).length = es.length * 2 := by
  induction es with
  | nil => rfl
  | cons e l ih => simp [flat] at ih ⊢; omega
theorem flat_snoc (es : List (Nat × Nat)) (e : Nat × Nat) : flat (es ++ [e]) = flat es ++ [.int .u64 (e.1 : Int), .int .u64 (e.2 : Int)] := by simp [flat]
theorem take_sn (es : List (Nat × Nat)) (k : Nat) (h : k < es.length) : es.take (k + 1) = es.take k ++ [es.getD k (0, 0)] := by
  rw [List.take_succ_eq_append_getElem h]; simp [h]

theorem info_elem : ∃ i, Try.prog.info? 25 = some i ∧ i.zero = some (.agg #[.int .u64 0, .int .u64 0]) ∧ i.size = 2 ∧ i.bytes = 16 := by
  have h : (Try.prog.info? 25).map (fun i => (i.zero, i.size, i.bytes)) = some (some (.agg #[.int .u64 0, .int .u64 0]), 2, 16) := by kernel_rfl
  obtain ⟨i, hi, he⟩ := Option.map_eq_some_iff.1 h
  simp only [Prod.mk.injEq] at he
  exact ⟨i, hi, he.1, he.2.1, he.2.2⟩

theorem own_below {w w' : World} {base : Nat} {e : TypeId} {size : Nat} {v : Value} {n : Nat} {xs : List Value} (h : w.ownsRow base e size v n xs) (hb : Below w.heap.size w w') : w'.ownsRow base e size v n xs :=
  h.kept (row := none) ⟨hb.os, hb.tape, hb.output, hb.size, fun k hk _ => hb.block k hk⟩ (by cases v.ownBlock <;> simp)

/-- An element cut down to a level. -/
def cutE (k : Nat) (e : Nat × Nat) : Nat × Nat := (if k < 7 then 0 else e.1, if k < 6 then e.2 % 2 ^ 2 ^ k else e.2)
theorem mask_nat (k x M : Nat) (hM : M + 1 = 2 ^ 2 ^ k) (hM2 : M < 2 ^ 64) (hx : x < 2 ^ 64) : bits .and .u64 (x : Int) (M : Int) = ((x % 2 ^ 2 ^ k : Nat) : Int) := by
  rw [u64_and_nat _ _ hx hM2, show M = 2 ^ 2 ^ k - 1 by omega, Nat.and_two_pow_sub_one_eq_mod]
theorem getD_map {es : List (Nat × Nat)} (f : Nat × Nat → Nat × Nat) {i : Nat} (h : i < es.length) : (es.map f).getD i (0, 0) = f (es.getD i (0, 0)) := by
  simp [h]
theorem getD_lt {es : List (Nat × Nat)} (hes : ∀ e ∈ es, e.2 < 2 ^ 64) (i : Nat) : (es.getD i (0, 0)).2 < 2 ^ 64 := by
  by_cases h : i < es.length
  · rw [show es.getD i (0, 0) = es[i] by simp [h]]; exact hes _ (List.getElem_mem h)
  · rw [show es.getD i (0, 0) = (0, 0) by simp [List.getD, List.getElem?_eq_none (Nat.not_lt.1 h)]]; decide
end Go.Proofs.Ytkllihomdlibgaa
