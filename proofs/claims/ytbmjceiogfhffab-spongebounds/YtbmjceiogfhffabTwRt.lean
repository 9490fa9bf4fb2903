/- What a call gives back; elements that lie in memory. -/
import Derived.Test.YtbmjceiogfhffabTwQ
import Derived.Deep.RegionHeld3
import Derived.Deep.DeepCutAuto
namespace Go.Proofs.Ytbmjceiogfhffab
open Go.RowKit

/-- The call gives r back, and leaves what lay there as it was. -/
def Ret (f : Nat) (args : Array Value) (r : Value) : Prop := ∀ W, Calls Try.prog f args W fun e w' => e = .returned r ∧ Below W.heap.size W w'
theorem Ret.go {f : Nat} {args : Array Value} {r : Value} (h : Ret f args r) (W : World) : Calls Try.prog f args W fun e w' => e = .returned r ∧ Below W.heap.size W w' := h W

/-- Four elements in memory. -/
structure B4 (W w : World) (p7 p8 p9 p10 xh xl yh yl zh zl ph pl : Nat) : Prop where
  x : El w p7 xh xl
  y : El w p8 yh yl
  z : El w p9 zh zl
  p : El w p10 ph pl
  b : Below W.heap.size W w
theorem B4.below {W w w' : World} {p7 p8 p9 p10 xh xl yh yl zh zl ph pl : Nat} (h : B4 W w p7 p8 p9 p10 xh xl yh yl zh zl ph pl) (hb : Below w.heap.size w w') : B4 W w' p7 p8 p9 p10 xh xl yh yl zh zl ph pl :=
  ⟨h.x.below hb, h.y.below hb, h.z.below hb, h.p.below hb, h.b.trans (hb.mono h.b.size)⟩
theorem B4.drew {W w : World} {p7 p8 p9 p10 xh xl yh yl zh zl ph pl : Nat} (h : B4 W w p7 p8 p9 p10 xh xl yh yl zh zl ph pl) : B4 W w.drew p7 p8 p9 p10 xh xl yh yl zh zl ph pl :=
  ⟨h.x.drew, h.y.drew, h.z.drew, h.p.drew, h.b.drew⟩
theorem B4.facts {W w : World} {p7 p8 p9 p10 xh xl yh yl zh zl ph pl : Nat} (h : B4 W w p7 p8 p9 p10 xh xl yh yl zh zl ph pl) :
    w.cell? ⟨p7, 0, none⟩ = some (.int .u64 (xh : Int)) ∧ w.cell? ⟨p7, 1, none⟩ = some (.int .u64 (xl : Int)) ∧ w.cell? ⟨p8, 0, none⟩ = some (.int .u64 (yh : Int)) ∧ w.cell? ⟨p8, 1, none⟩ = some (.int .u64 (yl : Int)) ∧ w.cell? ⟨p9, 0, none⟩ = some (.int .u64 (zh : Int)) ∧ w.cell? ⟨p9, 1, none⟩ = some (.int .u64 (zl : Int)) ∧ w.cell? ⟨p10, 0, none⟩ = some (.int .u64 (ph : Int)) ∧ w.cell? ⟨p10, 1, none⟩ = some (.int .u64 (pl : Int)) :=
  ⟨h.x.hi, h.x.lo, h.y.hi, h.y.lo, h.z.hi, h.z.lo, h.p.hi, h.p.lo⟩

/-- Two elements in memory. -/
structure B2 (W w : World) (p7 p8 xh xl yh yl : Nat) : Prop where
  x : El w p7 xh xl
  y : El w p8 yh yl
  b : Below W.heap.size W w
theorem B2.below {W w w' : World} {p7 p8 xh xl yh yl : Nat} (h : B2 W w p7 p8 xh xl yh yl) (hb : Below w.heap.size w w') : B2 W w' p7 p8 xh xl yh yl :=
  ⟨h.x.below hb, h.y.below hb, h.b.trans (hb.mono h.b.size)⟩
theorem B2.drew {W w : World} {p7 p8 xh xl yh yl : Nat} (h : B2 W w p7 p8 xh xl yh yl) : B2 W w.drew p7 p8 xh xl yh yl := ⟨h.x.drew, h.y.drew, h.b.drew⟩
theorem B2.alloc {W w : World} {p7 p8 xh xl yh yl : Nat} (h : B2 W w p7 p8 xh xl yh yl) (o : Obj) : B2 W (w.alloc o) p7 p8 xh xl yh yl := ⟨h.x.alloc o, h.y.alloc o, h.b.alloc h.b.size o⟩
theorem B2.facts {W w : World} {p7 p8 xh xl yh yl : Nat} (h : B2 W w p7 p8 xh xl yh yl) :
    w.cell? ⟨p7, 0, none⟩ = some (.int .u64 (xh : Int)) ∧ w.cell? ⟨p7, 1, none⟩ = some (.int .u64 (xl : Int)) ∧ w.cell? ⟨p8, 0, none⟩ = some (.int .u64 (yh : Int)) ∧ w.cell? ⟨p8, 1, none⟩ = some (.int .u64 (yl : Int)) :=
  ⟨h.x.hi, h.x.lo, h.y.hi, h.y.lo⟩

end Go.Proofs.Ytbmjceiogfhffab
