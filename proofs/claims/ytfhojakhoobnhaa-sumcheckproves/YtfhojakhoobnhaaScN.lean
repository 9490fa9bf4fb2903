/- SumcheckCounts' loops over the seat's translation: one list of elements. -/
import Derived.Test.YtfhojakhoobnhaaScM
namespace Go.Proofs.Ytfhojakhoobnhaa
open Go.RowKit
open Cb Ln Sc
open Tw (pm)

theorem erp2 {w : World} {b : Nat} {i j : Nat} (h1 : w.cell? ⟨b, 0, none⟩ = some (.int .u64 0)) (h2 : w.cell? ⟨b, 1, none⟩ = some (.int .u64 (i : Int))) (h3 : w.cell? ⟨b, 2, none⟩ = some (.int .u64 0)) (h4 : w.cell? ⟨b, 3, none⟩ = some (.int .u64 (j : Int))) : ERow w (some ⟨b, 0, none⟩) [pl i, pl j] := ⟨fun n hn => by
  simp at hn
  have hb := cell_lt h1
  obtain rfl | rfl : n = 0 ∨ n = 1 := by omega
  · exact ⟨b, 0, rfl, hb, h1, h2⟩
  · exact ⟨b, 0, rfl, hb, h3, h4⟩⟩
theorem trc2 {w : World} {b : Nat} {fa ga : Option Addr} {f h : List (Nat × Nat)} {fc gc : Nat} (h1 : w.cell? ⟨b, 0, none⟩ = some (.slice fa f.length fc)) (h2 : w.cell? ⟨b, 1, none⟩ = some (.slice ga h.length gc)) (hc : f.length ≤ fc) (hd : h.length ≤ gc) (hE : ERow w fa f) (hG : ERow w ga h) : TRowC w (some ⟨b, 0, none⟩) [f, h] := ⟨fun n hn => by
  simp at hn
  have hb := cell_lt h1
  obtain rfl | rfl : n = 0 ∨ n = 1 := by omega
  · exact ⟨b, 0, fa, fc, rfl, hb, h1, hc, hE⟩
  · exact ⟨b, 0, ga, gc, rfl, hb, h2, hd, hG⟩⟩
/-- What a list of elements has been asked with. -/
structure Cz (W w : World) (sa a fa ga : Option Addr) (ln scap tn cap fn fcap gn gcap : Nat) (c : Nat × Nat) (q b : Nat) (y : Nat × Nat) (es : List (Nat × Nat)) : Prop where
  x : Cx W w sa a fa ga ln scap tn cap fn fcap gn gcap c
  y : El w q y.1 y.2
  r : ERow w (some ⟨b, 0, none⟩) es
theorem Cz.below {W w w' : World} {sa a fa ga : Option Addr} {ln scap tn cap fn fcap gn gcap : Nat} {c : Nat × Nat} {q b : Nat} {y : Nat × Nat} {es : List (Nat × Nat)} (h : Cz W w sa a fa ga ln scap tn cap fn fcap gn gcap c q b y es) (hb : Below w.heap.size w w') : Cz W w' sa a fa ga ln scap tn cap fn fcap gn gcap c q b y es := ⟨h.x.below hb, h.y.below hb, h.r.below hb⟩
/-- What stands behind a round of Verify. -/
structure Cw (W w : World) (sa a fa ga : Option Addr) (ln scap tn cap fn fcap gn gcap : Nat) (c : Nat × Nat) (b : Nat) (es f h : List (Nat × Nat)) (ha : Option Addr) : Prop where
  x : Cx W w sa a fa ga ln scap tn cap fn fcap gn gcap c
  r : ERow w (some ⟨b, 0, none⟩) es
  f : ERow w fa f
  h : ERow w ha h
theorem Cw.below {W w w' : World} {sa a fa ga : Option Addr} {ln scap tn cap fn fcap gn gcap : Nat} {c : Nat × Nat} {b : Nat} {es f h : List (Nat × Nat)} {ha : Option Addr} (k : Cw W w sa a fa ga ln scap tn cap fn fcap gn gcap c b es f h ha) (hb : Below w.heap.size w w') : Cw W w' sa a fa ga ln scap tn cap fn fcap gn gcap c b es f h ha := ⟨k.x.below hb, k.r.below hb, k.f.below hb, k.h.below hb⟩
theorem Elw.put {w : World} {q h l : Nat} (e : Ew w q h l) (y : Nat × Nat) : El ((w.setCell ⟨q, 0, none⟩ (.int .u64 (y.1 : Int))).setCell ⟨q, 1, none⟩ (.int .u64 (y.2 : Int))) q y.1 y.2 := (e.set y.1 y.2).toEl
end Go.Proofs.Ytfhojakhoobnhaa
