/- Contract of octet.Elem over the seat's translation. -/
import Derived.Test.YtjllijoiakccpaaPOctC
namespace Go.Proofs.Ytjllijoiakccpaa
open Go.RowKit

/-- An element's bytes: none, if it is not of the level. -/
def elemS (l hi lo : Int) : ByteArray := strOfNums (if ofB l hi lo = true then (lowL hi lo).take (wideI l).toNat else [])

theorem cell_list (w : World) (b : Nat) (xs : List Int) (T : TypeId) (hb : b = w.heap.size) (i : Nat) (h : i < xs.length) :
    (w.alloc (Obj.cells (xs.map (Value.int .u8)).toArray T)).cell? ⟨b, i, none⟩ = some (.int .u8 (xs.getD i 0)) := by
  subst hb
  simp [go_sem, h]

theorem low_cell (hi lo : Int) (w : World) (T : TypeId) (n i : Nat) (h : i < n) (hn : n ≤ 16) :
    (w.alloc (Obj.cells #[.int .u8 (lo % 256), .int .u8 (lo / 256 % 256), .int .u8 (lo / 65536 % 256), .int .u8 (lo / 16777216 % 256), .int .u8 (lo / 4294967296 % 256), .int .u8 (lo / 1099511627776 % 256), .int .u8 (lo / 281474976710656 % 256), .int .u8 (lo / 72057594037927936), .int .u8 (hi % 256), .int .u8 (hi / 256 % 256), .int .u8 (hi / 65536 % 256), .int .u8 (hi / 16777216 % 256), .int .u8 (hi / 4294967296 % 256), .int .u8 (hi / 1099511627776 % 256), .int .u8 (hi / 281474976710656 % 256), .int .u8 (hi / 72057594037927936)] T)).cell? ⟨w.heap.size, 0 + i, none⟩ = some (.int .u8 (((lowL hi lo).take n).getD i 0)) := by
  have e := cell_list w w.heap.size (lowL hi lo) T rfl i (by simp [lowL]; omega)
  rw [Nat.zero_add, List.getD_eq_getElem?_getD, List.getElem?_take_of_lt h, ← List.getD_eq_getElem?_getD]
  exact e

theorem bcell {W w1 : World} (hb : Below W.heap.size W w1) : (∀ b o, b < W.heap.size → w1.cell? ⟨b, o, none⟩ = W.cell? ⟨b, o, none⟩) ∧ (∀ b o, b < W.heap.size → w1.frozen? ⟨b, o, none⟩ = W.frozen? ⟨b, o, none⟩) :=
  ⟨fun b o h => hb.cell (p := ⟨b, o, none⟩) h, fun b o h => hb.frozen (p := ⟨b, o, none⟩) h⟩

end Go.Proofs.Ytjllijoiakccpaa
