/- Contracts of octet's writing leaves over the seat's translation: isLevel, Wide. -/
import Derived.Test.YtghapohempogkaaPOctOf
namespace Go.Proofs.Ytghapohempogkaa
open Go.RowKit

/-- How many bytes an element of a level has. -/
def wideI (l : Int) : Int := if l = 0 ∨ l = 1 ∨ l = 2 ∨ l = 3 then 1 else if l = 4 then 2 else if l = 5 then 4 else if l = 6 then 8 else if l = 7 then 16 else 0
set_option maxHeartbeats 400000 in
theorem wide_any (l : Int) (w : World) : Calls Try.prog 39 #[.int .i64 l] w fun e w' => e = .returned (.int .i64 (wideI l)) ∧ w' = w := by
  cases h : levelB l
  · have e : wideI l = 0 := by simp [levelB] at h; unfold wideI; repeat (rw [if_neg (by omega)])
    rw [e]
    go_enter Try.func39, Try.ntmps39
    go_wp2_with (go_at_call 49; refine (isLevel_any _ _).mono ?_; rintro e w1 ⟨rfl, rfl⟩)
    go_ret
    exact ⟨rfl, rfl⟩
  · rcases level_cases l h with rfl | rfl | rfl | rfl | rfl | rfl | rfl | rfl
    all_goals
      clear h
      go_enter Try.func39, Try.ntmps39
      go_wp2
      go_ret
      exact ⟨rfl, rfl⟩
end Go.Proofs.Ytghapohempogkaa

/- Of, for layer 1's texts: it lies in OctOf. -/

/- Contract of octet.lowFirst over the seat's translation: the sixteen bytes of an element. -/
namespace Go.Proofs.Ytghapohempogkaa
open Go.RowKit
/-- All bytes of an element, the lowest first, as numbers. -/
def lowL (hi lo : Int) : List Int := [lo % 256, lo / 256 % 256, lo / 65536 % 256, lo / 16777216 % 256, lo / 4294967296 % 256, lo / 1099511627776 % 256, lo / 281474976710656 % 256, lo / 72057594037927936, hi % 256, hi / 256 % 256, hi / 65536 % 256, hi / 16777216 % 256, hi / 4294967296 % 256, hi / 1099511627776 % 256, hi / 281474976710656 % 256, hi / 72057594037927936]
set_option maxHeartbeats 2000000 in
theorem low_any (hi lo : Int) (h0 : 0 ≤ lo) (h1 : lo < 18446744073709551616) (h2 : 0 ≤ hi) (h3 : hi < 18446744073709551616) (w : World) : Calls Try.prog 42 #[.agg #[.int .u64 hi, .int .u64 lo]] w fun e w' => e = .returned (.agg #[.int .u8 (lo % 256), .int .u8 (lo / 256 % 256), .int .u8 (lo / 65536 % 256), .int .u8 (lo / 16777216 % 256), .int .u8 (lo / 4294967296 % 256), .int .u8 (lo / 1099511627776 % 256), .int .u8 (lo / 281474976710656 % 256), .int .u8 (lo / 72057594037927936), .int .u8 (hi % 256), .int .u8 (hi / 256 % 256), .int .u8 (hi / 65536 % 256), .int .u8 (hi / 16777216 % 256), .int .u8 (hi / 4294967296 % 256), .int .u8 (hi / 1099511627776 % 256), .int .u8 (hi / 281474976710656 % 256), .int .u8 (hi / 72057594037927936)]) ∧ Below w.heap.size w w' := by
  go_enter Try.func42, Try.ntmps42
  go_wp2
  go_rounds 9
  refine bodyPost_ret (v := .agg #[.int .u8 (lo % 256), .int .u8 (lo / 256 % 256), .int .u8 (lo / 65536 % 256), .int .u8 (lo / 16777216 % 256), .int .u8 (lo / 4294967296 % 256), .int .u8 (lo / 1099511627776 % 256), .int .u8 (lo / 281474976710656 % 256), .int .u8 (lo / 72057594037927936), .int .u8 (hi % 256), .int .u8 (hi / 256 % 256), .int .u8 (hi / 65536 % 256), .int .u8 (hi / 16777216 % 256), .int .u8 (hi / 4294967296 % 256), .int .u8 (hi / 1099511627776 % 256), .int .u8 (hi / 281474976710656 % 256), .int .u8 (hi / 72057594037927936)]) (by simp [results, Try.results42, go_sem]) rfl ⟨rfl, ?_⟩
  go_grown
end Go.Proofs.Ytghapohempogkaa

/- Contract of octet.Elem over the seat's translation. -/
namespace Go.Proofs.Ytghapohempogkaa
open Go.RowKit

/-- An element's bytes: none, if it is not of the level. -/
def elemS (l hi lo : Int) : ByteArray := strOfNums (if ofB l hi lo = true then (lowL hi lo).take (wideI l).toNat else [])

theorem cell_list (w : World) (b : Nat) (xs : List Int) (T : TypeId) (hb : b = w.heap.size) (i : Nat) (h : i < xs.length) :
    (w.alloc (Obj.cells (xs.map (Value.int .u8)).toArray T)).cell? ⟨b, i, none⟩ = some (.int .u8 (xs.getD i 0)) := by
  subst hb
  simp [go_sem, h]

theorem low_cell (hi lo : Int) (w : World) (T : TypeId) (n i : Nat) (h : i < n) (hn : n ≤ 16) :
    (w.alloc (Obj.cells #[.int .u8 (lo % 256), .int .u8 (lo / 256 % 256), .int .u8 (lo / 65536 % 256), .int .u8 (lo / 16777216 % 256), .int .u8 (lo / 4294967296 % 256), .int .u8 (lo / 1099511627776 % 256), .int .u8 (lo / 281474976710656 % 256), .int .u8 (lo / 72057594037927936), .int .u8 (hi % 256), .int .u8 (hi / 256 % 256), .int .u8 (hi / 65536 % 256), .int .u8 (hi / 16777216 % 256), .int .u8 (hi / 4294967296 % 256), .int .u8 (hi / 1099511627776 % 256), .int .u8 (hi / 281474976710656 % 256), .int .u8 (hi / 72057594037927936)] T)).cell? ⟨w.heap.size, 0 + i, none⟩ = some (.int .u8 (((lowL hi lo).take n).getD i 0)) := by
  have e := cell_list w w.heap.size (lowL hi lo) T rfl i (by simp [lowL]; omega)
  rw [Nat.zero_add, List.getD_eq_getElem?_getD, List.getElem?_take_of_lt h, ← List.getD_eq_getElem?_getD]
  exact e

theorem bcell {W w1 : World} (hb : Below W.heap.size W w1) : (∀ b o, b < W.heap.size → w1.cell? ⟨b, o, none⟩ = W.cell? ⟨b, o, none⟩) ∧ (∀ b o, b < W.heap.size → w1.frozen? ⟨b, o, none⟩ = W.frozen? ⟨b, o, none⟩) :=
  ⟨fun b o h => hb.cell (p := ⟨b, o, none⟩) h, fun b o h => hb.frozen (p := ⟨b, o, none⟩) h⟩

end Go.Proofs.Ytghapohempogkaa
