/- Contract of octet.Elem over the seat's translation. -/
import Derived.Test.YtccpbpajappckaaPOctC
namespace Go.Proofs.Ytccpbpajappckaa
open Go.RowKit

/-- An element's bytes: none, if it is not of the level. -/
def elemS (l hi lo : Int) : ByteArray := strOfNums (if ofB l hi lo = true then (lowL hi lo).take (wideI l).toNat else [])

theorem cell_list (w : World) (b : Nat) (xs : List Int) (T : TypeId) (hb : b = w.heap.size) (i : Nat) (h : i < xs.length) :
    (w.alloc (Obj.cells (xs.map (Value.int .u8)).toArray T)).cell? ⟨b, i, none⟩ = some (.int .u8 (xs.getD i 0)) := by
  subst hb
  simp [go_sem, h]

theorem low_cell (hi lo : Int) (w : World) (T : TypeId) (n i : Nat) (h : i < n) (hn : n ≤ 16) :
    (w.alloc (Obj.cells #[.int .u8 (lo % 256), .int .u8 (lo / 256 % 256), .int .u8 (lo / 65536 % 256), .int .u8 (lo / 16777216 % 256), .int .u8 (lo / 4294967296 % 256), .int .u8 (lo / 1099511627776 % 256), .int .u8 (lo / 281474976710656 % 256), .int .u8 (lo / 72057594037927936), .int .u8 (hi % 256), .int .u8 (hi / 256 % 256), .int .u8 (hi / 65536 % 256), .int .u8 (hi / 16777216 % 256), .int .u8 (hi / 4294967296 % 256), .int .u8 (hi / 1099511627776 % 256), .int .u8 (hi / 281474976710656 % 256), .int .u8 (hi / 72057594037927936)] T)).cell? ⟨w.heap.size, 0 + i, none⟩ = some (.int .u8 (((lowL hi lo).take n).getD i 0)) := by
  have e := cell_list w w.heap.size (lowL hi lo) T rfl i (by simp [lowL]; omega)
  rw [Nat.zero_add, List.getD_eq_getElem?_getD, List.getElem?_take_of_lt h, ← List.getD_eq_getElem?_getD]
  exact e

theorem bcell {W w1 : World} (hb : Below W.heap.size W w1) : (∀ b o, b < W.heap.size → w1.cell? ⟨b, o, none⟩ = W.cell? ⟨b, o, none⟩) ∧ (∀ b o, b < W.heap.size → w1.frozen? ⟨b, o, none⟩ = W.frozen? ⟨b, o, none⟩) :=
  ⟨fun b o h => hb.cell (p := ⟨b, o, none⟩) h, fun b o h => hb.frozen (p := ⟨b, o, none⟩) h⟩

set_option maxHeartbeats 400000 in
set_option maxRecDepth 100000 in
theorem elem_ok (l hi lo : Int) (h0 : 0 ≤ lo) (h1 : lo < 18446744073709551616) (h2 : 0 ≤ hi) (h3 : hi < 18446744073709551616) (h : ofB l hi lo = true) (w : World) : Calls Try.prog 24 #[.int .i64 l, .agg #[.int .u64 hi, .int .u64 lo]] w fun e w' => e = .returned (.string (elemS l hi lo)) ∧ Below w.heap.size w w' := by
  have hl := level_cases l (by simp [ofB] at h; exact h.1)
  have e : elemS l hi lo = strOfNums ((lowL hi lo).take (wideI l).toNat) := by unfold elemS; rw [if_pos h]
  rw [e]
  clear e
  have hw0 : 0 ≤ wideI l := by rcases hl with rfl | rfl | rfl | rfl | rfl | rfl | rfl | rfl <;> decide
  have hw1 : wideI l ≤ 16 := by rcases hl with rfl | rfl | rfl | rfl | rfl | rfl | rfl | rfl <;> decide
  clear hl
  go_enter Try.func24, Try.ntmps24
  go_wp2_with (first | (go_at_call 36; refine (of_any _ _ _ (by omega) (by omega) _).mono ?_; rintro e w1 ⟨rfl, hb1⟩; obtain ⟨hc1, hf1⟩ := bcell hb1) | (go_at_call 37; refine (low_any _ _ (by omega) (by omega) (by omega) (by omega) _).mono ?_; rintro e w2 ⟨rfl, hb2⟩; obtain ⟨hc2, hf2⟩ := bcell hb2) | (go_at_call 33; refine (wide_any _ _).mono ?_; rintro e w3 ⟨rfl, rfl⟩))
  refine (together_any _ _ _ _ ((lowL hi lo).take (wideI l).toNat) (by simp [lowL]; omega) _ (fun i hi' => low_cell hi lo _ _ _ i hi' (by omega))).mono ?_
  rintro e w4 ⟨rfl, rfl⟩
  go_wp2
  go_ret
  refine ⟨rfl, ?_⟩
  have b1 : Below w.heap.size w w1 := ((Below.refl _ _).alloc (Nat.le_refl _) _).trans (hb1.mono (by simp))
  have b2 : Below w.heap.size w w2 := b1.trans (hb2.mono b1.size)
  exact b2.alloc b2.size _

set_option maxHeartbeats 400000 in
theorem elem_bad (l hi lo : Int) (h0 : 0 ≤ lo) (h1 : lo < 18446744073709551616) (h : ofB l hi lo = false) (w : World) : Calls Try.prog 24 #[.int .i64 l, .agg #[.int .u64 hi, .int .u64 lo]] w fun e w' => e = .returned (.string ⟨#[]⟩) ∧ Below w.heap.size w w' := by
  go_enter Try.func24, Try.ntmps24
  go_wp2_with (go_at_call 36; refine (of_any _ _ _ (by omega) (by omega) _).mono ?_; rintro e w1 ⟨rfl, hb1⟩)
  go_ret
  exact ⟨rfl, ((Below.refl _ _).alloc (Nat.le_refl _) _).trans (hb1.mono (by simp))⟩
theorem elem_any (l hi lo : Int) (h0 : 0 ≤ lo) (h1 : lo < 18446744073709551616) (h2 : 0 ≤ hi) (h3 : hi < 18446744073709551616) (w : World) : Calls Try.prog 24 #[.int .i64 l, .agg #[.int .u64 hi, .int .u64 lo]] w fun e w' => e = .returned (.string (elemS l hi lo)) ∧ Below w.heap.size w w' := by
  cases h : ofB l hi lo
  · rw [show elemS l hi lo = ⟨#[]⟩ by unfold elemS; rw [h]; rfl]
    exact elem_bad l hi lo h0 h1 h w
  · exact elem_ok l hi lo h0 h1 h2 h3 h w
end Go.Proofs.Ytccpbpajappckaa
