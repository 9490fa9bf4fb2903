/- Contracts of steepleref02.Pow and Inv over the seat's translation: the walks. -/
import Derived.Test.YtfepgoddoohpbaaRfF
namespace Go.Proofs.Ytfepgoddoohpbaa
open Go.RowKit

/-- An element, a room, and one that changes. -/
structure Qst (W w : World) (p ah al oh ol : Nat) : Prop where
  a : Ew w W.heap.size ah al
  r : Ew w (W.heap.size + 1) 0 0
  o : Ew w p oh ol
  d : Below W.heap.size W w
theorem Qst.below {W w w' : World} {p ah al oh ol : Nat} (h : Qst W w p ah al oh ol) (hb : Below w.heap.size w w') : Qst W w' p ah al oh ol :=
  ⟨h.a.below hb, h.r.below hb, h.o.below hb, h.d.trans (hb.mono h.d.size)⟩
theorem Qst.put {W w : World} {p ah al oh ol : Nat} (h : Qst W w p ah al oh ol) (hp : W.heap.size + 1 < p) (u v : Nat) : Qst W ((w.setCell ⟨p, 0, none⟩ (.int .u64 (u : Int))).setCell ⟨p, 1, none⟩ (.int .u64 (v : Int))) p ah al u v :=
  ⟨h.a.other (by omega) _ _, h.r.other (by omega) _ _, h.o.set _ _, below2 h.d (by omega) _ _⟩
/-- What lies in memory while the inverse is reckoned. -/
structure Ist (W w : World) (q k : Nat) (K : Int) (oh ol sh sl : Nat) : Prop where
  r : Ew w (W.heap.size + 1) 0 0
  c : w.cell? ⟨q, k, none⟩ = some (.int .i64 K)
  o : Ew w (q + 1) oh ol
  s : Ew w (q + 1 + 1) sh sl
  d : Below W.heap.size W w
theorem Ist.below {W w w' : World} {q k oh ol sh sl : Nat} {K : Int} (h : Ist W w q k K oh ol sh sl) (hb : Below w.heap.size w w') : Ist W w' q k K oh ol sh sl :=
  ⟨h.r.below hb, keepc hb h.c, h.o.below hb, h.s.below hb, h.d.trans (hb.mono h.d.size)⟩
theorem cell_set2 {w : World} {q k p : Nat} {v x y : Value} (h : w.cell? ⟨q, k, none⟩ = some v) (hn : p ≠ q) : ((w.setCell ⟨p, 0, none⟩ x).setCell ⟨p, 1, none⟩ y).cell? ⟨q, k, none⟩ = some v := by
  simp [go_sem, h]
theorem Ist.putS {W w : World} {q k oh ol sh sl : Nat} {K : Int} (h : Ist W w q k K oh ol sh sl) (hq : W.heap.size + 1 < q) (u v : Nat) : Ist W ((w.setCell ⟨q + 1 + 1, 0, none⟩ (.int .u64 (u : Int))).setCell ⟨q + 1 + 1, 1, none⟩ (.int .u64 (v : Int))) q k K oh ol u v :=
  ⟨h.r.other (by omega) _ _, cell_set2 h.c (by omega), h.o.other (by omega) _ _, h.s.set _ _, below2 h.d (by omega) _ _⟩
theorem Ist.putO {W w : World} {q k oh ol sh sl : Nat} {K : Int} (h : Ist W w q k K oh ol sh sl) (hq : W.heap.size + 1 < q) (u v : Nat) : Ist W ((w.setCell ⟨q + 1, 0, none⟩ (.int .u64 (u : Int))).setCell ⟨q + 1, 1, none⟩ (.int .u64 (v : Int))) q k K u v sh sl :=
  ⟨h.r.other (by omega) _ _, cell_set2 h.c (by omega), h.o.set _ _, h.s.other (by omega) _ _, below2 h.d (by omega) _ _⟩
end Go.Proofs.Ytfepgoddoohpbaa
