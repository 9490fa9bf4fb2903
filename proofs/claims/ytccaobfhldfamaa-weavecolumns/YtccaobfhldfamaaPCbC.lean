/- Contracts of cube.isLevel, allOf, Log, hindrance and halved over the seat's translation. -/
import Derived.Test.YtccaobfhldfamaaCbA
import Derived.Test.YtccaobfhldfamaaPShelfB
import Derived.Deep.RegionHeld3
import Derived.Deep.OwnRows
namespace Go.Proofs.Ytccaobfhldfamaa
open Go.RowKit
open Cb

theorem cand_nat (a b : Nat) (ha : a < 9223372036854775808) (hb : b < 9223372036854775808) : bits .and .i64 (a : Int) (b : Int) = ((a &&& b : Nat) : Int) := by
  have hx : a &&& b < 2 ^ 63 := Nat.and_lt_two_pow _ (by omega)
  have h1 : (BitVec.ofInt 64 (a : Int)).toNat = a := by
    rw [BitVec.ofInt_natCast, BitVec.toNat_ofNat]; exact Nat.mod_eq_of_lt (by omega)
  have h2 : (BitVec.ofInt 64 (b : Int)).toNat = b := by
    rw [BitVec.ofInt_natCast, BitVec.toNat_ofNat]; exact Nat.mod_eq_of_lt (by omega)
  show IntKind.i64.wrap ((BitVec.ofInt 64 (a : Int) &&& BitVec.ofInt 64 (b : Int)).toNat : Int) = _
  rw [BitVec.toNat_and, h1, h2, IntKind.wrap_i64]
  omega
/-- k of 2^k, or -1. -/
def lgz (n : Nat) : Int := if n ≠ 0 ∧ n.log2 ≤ 16 ∧ 2 ^ n.log2 = n then (n.log2 : Int) else -1
theorem lgz_two (k : Nat) (h : k ≤ 16) : lgz (2 ^ k) = (k : Int) := by
  unfold lgz
  rw [Nat.log2_two_pow, if_pos ⟨by have := Nat.two_pow_pos k; omega, h, rfl⟩]
theorem lgz_or (n : Nat) : lgz n = -1 ∨ ∃ k : Nat, k ≤ 16 ∧ n = 2 ^ k ∧ lgz n = (k : Int) := by
  unfold lgz
  split
  · rename_i h; exact .inr ⟨n.log2, h.2.1, h.2.2.symm, rfl⟩
  · exact .inl rfl
theorem lgz_no {n : Nat} (h : lgz n = -1) (k : Nat) (hk : k ≤ 16) : n ≠ 2 ^ k := by
  rintro rfl
  rw [lgz_two k hk] at h
  omega
theorem bitLen_two : ∀ k, k < 17 → Lib.bitLen (2 ^ k) = k + 1 := by decide
/-- What hinders. -/
def hnd (l : Int) (f : Bool) (t p : List (Nat × Nat)) : Int :=
  if 0 ≤ l ∧ l ≤ 7 then (if f = true then (if (t.all fun e => ofB l (e.1 : Int) (e.2 : Int)) = true ∧ (p.all fun e => ofB l (e.1 : Int) (e.2 : Int)) = true then 0 else 5) else 6) else 1
end Go.Proofs.Ytccaobfhldfamaa

/- The contract of cube.halved over the seat's translation. -/
namespace Go.Proofs.Ytccaobfhldfamaa
open Go.RowKit
open Cb
open Tw (pm)

/-- The cell number p of a table. -/
def tcell (f : Nat → Nat × Nat) (p : Nat) : Value := if p % 2 = 0 then .int .u64 ((f (p / 2)).1 : Int) else .int .u64 ((f (p / 2)).2 : Int)
theorem row_tab {w : World} {g : Nat} {T : TypeId} {m : Nat} {f : Nat → Value} {es : List (Nat × Nat)} (hm : es.length = m) (R : w.rowIs g T (m * 2) f) (F : ∀ p, p < m * 2 → f p = tcell (el es) p) : ERow w (some ⟨g, 0, none⟩) es := ⟨fun i hi => by
  have c1 := R.cell (i := i * 2) (by omega)
  have c0 := R.cell (i := i * 2 + 1) (by omega)
  rw [F _ (by omega)] at c1 c0
  unfold tcell at c1 c0
  rw [if_pos (by omega), show i * 2 / 2 = i by omega] at c1
  rw [if_neg (by omega), show (i * 2 + 1) / 2 = i by omega] at c0
  exact ⟨g, 0, rfl, R.lt, by rw [Nat.zero_add]; exact c1, by rw [Nat.zero_add]; exact c0⟩⟩
theorem own_rowT {w : World} {base : Nat} {T : TypeId} {g n c : Nat} {xs : List Value} (h : w.ownsRow base T 2 (.slice (some ⟨g, 0, none⟩) n n) n xs) (hc : c = n * 2) : ∃ f, w.rowIs g T c f := by
  subst hc
  rcases h.2 with ⟨h1, _⟩ | ⟨g', cap, cur, e, _, hg, _, _, hs, _⟩
  · injection h1 with h2; cases h2
  · injection e with e1 e2 e3
    obtain rfl : g = g' := by injection e1 with e4; injection e4
    subst e3
    exact ⟨fun i => cur.getD i undef, cur, hg, hs, fun i hi => by
      show cur[i]? = some (cur.getD i undef)
      rw [Array.getD_eq_getD_getElem?, Array.getElem?_eq_getElem (by omega)]; rfl⟩
theorem half_el (st gp : Nat) (t : List (Nat × Nat)) (r : Nat × Nat) {i m : Nat} (hm : t.length / 2 = m) (h : i < m) : el (half st gp t r) i = hv st gp t r i := half_at st gp t r (by omega)
theorem Ew.off {w : World} {b c h l : Nat} (e : Ew w c h l) (hn : b ≠ c) (o o' : Nat) (u v : Value) : Ew ((w.setCell ⟨b, o, none⟩ u).setCell ⟨b, o', none⟩ v) c h l := by
  obtain ⟨⟨h1, h2⟩, h3, h4⟩ := e
  have hn' : c ≠ b := fun h => hn h.symm
  exact ⟨⟨by simp [go_sem, *], by simp [go_sem, *]⟩, by simp [go_sem, *], by simp [go_sem, *]⟩
/-- Three elements in boxes, and the row that is filled. -/
structure Hst (W w : World) (m : Nat) (f : Nat → Value) (P1 P2 : Nat) (r x y : Nat × Nat) : Prop where
  r : Ew w W.heap.size r.1 r.2
  x : El w P1 x.1 x.2
  y : El w P2 y.1 y.2
  row : w.rowIs (W.heap.size + 1) 44 (m * 2) f
  d : Below W.heap.size W w
theorem Hst.below {W w w' : World} {m : Nat} {f : Nat → Value} {P1 P2 : Nat} {r x y : Nat × Nat} (h : Hst W w m f P1 P2 r x y) (hb : Below w.heap.size w w') : Hst W w' m f P1 P2 r x y :=
  ⟨h.r.below hb, h.x.below hb, h.y.below hb, h.row.of_block (hb.block _ h.row.lt), h.d.trans (hb.mono h.d.size)⟩
theorem Hst.drew {W w : World} {m : Nat} {f : Nat → Value} {P1 P2 : Nat} {r x y : Nat × Nat} (h : Hst W w m f P1 P2 r x y) : Hst W w.drew m f P1 P2 r x y := h.below (Below.refl _ _).drew
theorem Hst.facts {W w : World} {m : Nat} {f : Nat → Value} {P1 P2 : Nat} {r x y : Nat × Nat} (h : Hst W w m f P1 P2 r x y) :
    w.cell? ⟨W.heap.size, 0, none⟩ = some (.int .u64 (r.1 : Int)) ∧ w.cell? ⟨W.heap.size, 1, none⟩ = some (.int .u64 (r.2 : Int)) ∧ w.cell? ⟨P1, 0, none⟩ = some (.int .u64 (x.1 : Int)) ∧ w.cell? ⟨P1, 1, none⟩ = some (.int .u64 (x.2 : Int)) ∧ w.cell? ⟨P2, 0, none⟩ = some (.int .u64 (y.1 : Int)) ∧ w.cell? ⟨P2, 1, none⟩ = some (.int .u64 (y.2 : Int)) :=
  ⟨h.r.hi, h.r.lo, h.x.hi, h.x.lo, h.y.hi, h.y.lo⟩
end Go.Proofs.Ytccaobfhldfamaa
