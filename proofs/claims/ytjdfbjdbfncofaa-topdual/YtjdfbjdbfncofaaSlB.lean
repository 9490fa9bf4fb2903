/- Contracts of tower.Dot and steepleref02.Dot over the seat's translation: the walks. -/
import Derived.Test.YtjdfbjdbfncofaaPSlA
import Derived.Test.YtjdfbjdbfncofaaTwBl
namespace Go.Proofs.Ytjdfbjdbfncofaa
open Go.RowKit

/-- A room and a sum, as Dot lays them. -/
structure Dst (W w : World) (sh sl : Nat) : Prop where
  r : Ew w W.heap.size 0 0
  s : Ew w (W.heap.size + 1) sh sl
  d : Below W.heap.size W w
theorem Dst.below {W w w' : World} {sh sl : Nat} (h : Dst W w sh sl) (hb : Below w.heap.size w w') : Dst W w' sh sl := ⟨h.r.below hb, h.s.below hb, h.d.trans (hb.mono h.d.size)⟩
theorem Dst.drew {W w : World} {sh sl : Nat} (h : Dst W w sh sl) : Dst W w.drew sh sl := ⟨h.r.drew, h.s.drew, h.d.drew⟩
theorem Dst.put {W w : World} {sh sl : Nat} (h : Dst W w sh sl) (u v : Nat) : Dst W ((w.setCell ⟨W.heap.size + 1, 0, none⟩ (.int .u64 (u : Int))).setCell ⟨W.heap.size + 1, 1, none⟩ (.int .u64 (v : Int))) u v :=
  ⟨h.r.other (by omega) _ _, h.s.set _ _, below2 (p := W.heap.size + 1) h.d (by omega) _ _⟩
theorem Dst.facts {W w : World} {sh sl b o b2 o2 x1 x0 y1 y0 : Nat} (h : Dst W w sh sl)
    (A : b < W.heap.size ∧ W.cell? ⟨b, o, none⟩ = some (.int .u64 (x1 : Int)) ∧ W.cell? ⟨b, o + 1, none⟩ = some (.int .u64 (x0 : Int)))
    (C : b2 < W.heap.size ∧ W.cell? ⟨b2, o2, none⟩ = some (.int .u64 (y1 : Int)) ∧ W.cell? ⟨b2, o2 + 1, none⟩ = some (.int .u64 (y0 : Int))) :
    w.cell? ⟨b, o, none⟩ = some (.int .u64 (x1 : Int)) ∧ w.cell? ⟨b, o + 1, none⟩ = some (.int .u64 (x0 : Int)) ∧ w.cell? ⟨b2, o2, none⟩ = some (.int .u64 (y1 : Int)) ∧ w.cell? ⟨b2, o2 + 1, none⟩ = some (.int .u64 (y0 : Int)) ∧ w.cell? ⟨W.heap.size + 1, 0, none⟩ = some (.int .u64 (sh : Int)) ∧ w.cell? ⟨W.heap.size + 1, 1, none⟩ = some (.int .u64 (sl : Int)) ∧ w.frozen? ⟨W.heap.size + 1, 0, none⟩ = false ∧ w.frozen? ⟨W.heap.size + 1, 1, none⟩ = false :=
  ⟨by rw [h.d.cell (p := ⟨b, o, none⟩) A.1]; exact A.2.1, by rw [h.d.cell (p := ⟨b, o + 1, none⟩) A.1]; exact A.2.2, by rw [h.d.cell (p := ⟨b2, o2, none⟩) C.1]; exact C.2.1, by rw [h.d.cell (p := ⟨b2, o2 + 1, none⟩) C.1]; exact C.2.2, h.s.hi, h.s.lo, h.s.fhi, h.s.flo⟩
end Go.Proofs.Ytjdfbjdbfncofaa
