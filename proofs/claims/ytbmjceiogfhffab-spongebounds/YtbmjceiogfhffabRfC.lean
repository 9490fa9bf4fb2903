/- Contract of steepleref02.Product over the seat's translation: the walk. -/
import Derived.Test.YtbmjceiogfhffabRfB
namespace Go.Proofs.Ytbmjceiogfhffab
open Go.RowKit

theorem Below.set2 {B p : Nat} {W w : World} (h : Below B W w) (hp : B ≤ p) (u v : Value) : Below B W ((w.setCell ⟨p, 0, none⟩ u).setCell ⟨p, 1, none⟩ v) := (h.setCell hp _).setCell hp _
/-- What lies in memory while the product is reckoned. -/
structure Pst (W w : World) (ah al bh bl oh ol : Nat) : Prop where
  a : Ew w W.heap.size ah al
  b : Ew w (W.heap.size + 1) bh bl
  r : Ew w (W.heap.size + 1 + 1) 0 0
  o : Ew w (W.heap.size + 1 + 1 + 1) oh ol
  d : Below W.heap.size W w
theorem Pst.below {W w w' : World} {ah al bh bl oh ol : Nat} (h : Pst W w ah al bh bl oh ol) (hb : Below w.heap.size w w') : Pst W w' ah al bh bl oh ol :=
  ⟨h.a.below hb, h.b.below hb, h.r.below hb, h.o.below hb, h.d.trans (hb.mono h.d.size)⟩
theorem Pst.alloc {W w : World} {ah al bh bl oh ol : Nat} (h : Pst W w ah al bh bl oh ol) (o : Obj) : Pst W (w.alloc o) ah al bh bl oh ol := h.below ((Below.refl _ _).alloc (Nat.le_refl _) o)
theorem Pst.other {W w : World} {ah al bh bl oh ol p : Nat} (h : Pst W w ah al bh bl oh ol) (hp : W.heap.size + 1 + 1 + 1 < p) (u v : Value) : Pst W ((w.setCell ⟨p, 0, none⟩ u).setCell ⟨p, 1, none⟩ v) ah al bh bl oh ol :=
  ⟨h.a.other (by omega) _ _, h.b.other (by omega) _ _, h.r.other (by omega) _ _, h.o.other (by omega) _ _, Below.set2 h.d (by omega) _ _⟩
theorem Pst.put {W w : World} {ah al bh bl oh ol : Nat} (h : Pst W w ah al bh bl oh ol) (u v : Nat) : Pst W ((w.setCell ⟨W.heap.size + 1 + 1 + 1, 0, none⟩ (.int .u64 (u : Int))).setCell ⟨W.heap.size + 1 + 1 + 1, 1, none⟩ (.int .u64 (v : Int))) ah al bh bl u v :=
  ⟨h.a.other (by omega) _ _, h.b.other (by omega) _ _, h.r.other (by omega) _ _, h.o.set _ _, Below.set2 h.d (by omega) _ _⟩
theorem bit_i64 (n j : Nat) (hn : n < 128) : bits .and .i64 ((n : Int) / 2 ^ j) 1 = ((n / 2 ^ j % 2 : Nat) : Int) := by
  have h1 : n / 2 ^ j < 128 := Nat.lt_of_le_of_lt (Nat.div_le_self _ _) hn
  have h2 : (n : Int) / 2 ^ j = ((n / 2 ^ j : Nat) : Int) := by rw [Int.natCast_ediv, Int.natCast_pow]; rfl
  rw [h2]
  have H : ∀ m : Nat, m < 128 → bits .and .i64 (m : Int) 1 = ((m % 2 : Nat) : Int) := by decide +kernel
  exact H _ h1

end Go.Proofs.Ytbmjceiogfhffab
