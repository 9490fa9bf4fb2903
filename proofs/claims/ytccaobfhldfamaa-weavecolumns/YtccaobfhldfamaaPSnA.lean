/- The document's side of layer 15 over the seat's translation: Log, one, Weight, Value. -/
import Derived.Test.YtccaobfhldfamaaPCbF
import Derived.Test.YtccaobfhldfamaaRfE
import Derived.Deep.AppendLies
import Derived.Test.YtccaobfhldfamaaTwPx
import Derived.Test.YtccaobfhldfamaaPShelfB
namespace Go.Proofs.Ytccaobfhldfamaa
open Go.RowKit
open Cb
open Tw (pm)

theorem wtf_snoc : ∀ (p : List (Nat × Nat)) (o x : Nat × Nat) (n : Nat), wtf o (p ++ [x]) n = pm (wtf o p n) (fac x (n / 2 ^ p.length))
  | [], o, x, n => by simp [wtf]
  | y :: p, o, x, n => by
    show wtf (pm o (fac y n)) (p ++ [x]) (n / 2) = pm (wtf (pm o (fac y n)) p (n / 2)) (fac x (n / 2 ^ (p.length + 1)))
    rw [wtf_snoc p, Nat.div_div_eq_div_mul, Nat.pow_succ, Nat.mul_comm 2]
/-- A room, and an element that is worked on. -/
structure Wst (W w : World) (q : Nat) (o : Nat × Nat) : Prop where
  r : Ew w W.heap.size 0 0
  o : Ew w q o.1 o.2
  d : Below W.heap.size W w
theorem Wst.below {W w w' : World} {q : Nat} {o : Nat × Nat} (h : Wst W w q o) (hb : Below w.heap.size w w') : Wst W w' q o := ⟨h.r.below hb, h.o.below hb, h.d.trans (hb.mono h.d.size)⟩
theorem Wst.drew {W w : World} {q : Nat} {o : Nat × Nat} (h : Wst W w q o) : Wst W w.drew q o := ⟨h.r.drew, h.o.drew, h.d.drew⟩
theorem Wst.put {W w : World} {q : Nat} {o : Nat × Nat} (h : Wst W w q o) (hq : W.heap.size < q) (v : Nat × Nat) : Wst W ((w.setCell ⟨q, 0, none⟩ (.int .u64 (v.1 : Int))).setCell ⟨q, 1, none⟩ (.int .u64 (v.2 : Int))) q v :=
  ⟨h.r.other (by omega) _ _, h.o.set _ _, below2 (p := q) h.d (by omega) _ _⟩
theorem Wst.facts {W w : World} {q b i : Nat} {o x : Nat × Nat} (h : Wst W w q o) (A : b < W.heap.size ∧ W.cell? ⟨b, i, none⟩ = some (.int .u64 (x.1 : Int)) ∧ W.cell? ⟨b, i + 1, none⟩ = some (.int .u64 (x.2 : Int))) :
    w.cell? ⟨b, i, none⟩ = some (.int .u64 (x.1 : Int)) ∧ w.cell? ⟨b, i + 1, none⟩ = some (.int .u64 (x.2 : Int)) ∧ w.cell? ⟨q, 0, none⟩ = some (.int .u64 (o.1 : Int)) ∧ w.cell? ⟨q, 1, none⟩ = some (.int .u64 (o.2 : Int)) ∧ w.frozen? ⟨q, 0, none⟩ = false ∧ w.frozen? ⟨q, 1, none⟩ = false :=
  ⟨by rw [h.d.cell (p := ⟨b, i, none⟩) A.1]; exact A.2.1, by rw [h.d.cell (p := ⟨b, i + 1, none⟩) A.1]; exact A.2.2, h.o.hi, h.o.lo, h.o.fhi, h.o.flo⟩
theorem rprod (a b : Nat × Nat) (ha : lt2 a) (hb : lt2 b) : Ret 31 #[.agg #[.int .u64 (a.1 : Int), .int .u64 (a.2 : Int)], .agg #[.int .u64 (b.1 : Int), .int .u64 (b.2 : Int)]] (.agg #[.int .u64 ((pm a b).1 : Int), .int .u64 ((pm a b).2 : Int)]) := rproduct_any _ _ _ _ ha.1 ha.2 hb.1 hb.2
theorem rsum (a b : Nat × Nat) (ha : lt2 a) (hb : lt2 b) : Ret 30 #[.agg #[.int .u64 (a.1 : Int), .int .u64 (a.2 : Int)], .agg #[.int .u64 (b.1 : Int), .int .u64 (b.2 : Int)]] (.agg #[.int .u64 ((xa a b).1 : Int), .int .u64 ((xa a b).2 : Int)]) := radd _ _ _ _ ha.1 ha.2 hb.1 hb.2
end Go.Proofs.Ytccaobfhldfamaa

/- The document's First and Last of layer 15, over the seat's translation. -/
namespace Go.Proofs.Ytccaobfhldfamaa
open Go.RowKit
open Cb
open Tw (pm)

/-- A slice that lies in no block that was there. -/
def Fresh (W : World) (a : Option Addr) : Prop := ∀ g off, a = some ⟨g, off, none⟩ → W.heap.size ≤ g
theorem own_fresh {w W : World} {base : Nat} {T : TypeId} {a : Option Addr} {n cap : Nat} {xs : List Value} (h : w.ownsRow base T 2 (.slice a n cap) n xs) (hb : W.heap.size ≤ base) : Fresh W a := by
  rintro g off rfl
  rcases h.2 with ⟨h1, _⟩ | ⟨g', cap', cur, e, hbb, _⟩
  · injection h1 with h2; cases h2
  · injection e with e1 e2 e3
    injection e1 with e4
    injection e4 with e5
    omega
/-- An element in a box, and a bound below which it lies. -/
structure Fs (W w : World) (r : Nat × Nat) : Prop where
  r : El w W.heap.size r.1 r.2
  d : Below W.heap.size W w
  hB : W.heap.size + 1 ≤ w.heap.size
theorem upcN {w w' : World} {B b o : Nat} {v : Value} (hb : Below B w w') (h : w.cell? ⟨b, o, none⟩ = some v) (hl : b < B) : w'.cell? ⟨b, o, none⟩ = some v := by
  rw [hb.cell (p := ⟨b, o, none⟩) hl]; exact h
theorem Fs.upto {W w w' : World} {r : Nat × Nat} (h : Fs W w r) (hb : Below (W.heap.size + 1) w w') : Fs W w' r :=
  ⟨⟨upcN hb h.r.hi (by omega), upcN hb h.r.lo (by omega)⟩, h.d.trans (hb.mono (by omega)), by have := h.hB; have := hb.size; omega⟩
theorem Fs.below {W w w' : World} {r : Nat × Nat} (h : Fs W w r) (hb : Below w.heap.size w w') : Fs W w' r := h.upto (hb.mono h.hB)
theorem Fs.drew {W w : World} {r : Nat × Nat} (h : Fs W w r) : Fs W w.drew r := h.below (Below.refl _ _).drew
/-- An element that lies below W. -/
def AtN (W : World) (b o : Nat) (x : Nat × Nat) : Prop := b < W.heap.size ∧ W.cell? ⟨b, o, none⟩ = some (.int .u64 (x.1 : Int)) ∧ W.cell? ⟨b, o + 1, none⟩ = some (.int .u64 (x.2 : Int))
theorem AtN.up {W w : World} {b o : Nat} {x : Nat × Nat} (h : AtN W b o x) (d : Below W.heap.size W w) : w.cell? ⟨b, o, none⟩ = some (.int .u64 (x.1 : Int)) ∧ w.cell? ⟨b, o + 1, none⟩ = some (.int .u64 (x.2 : Int)) := ⟨upcN d h.2.1 h.1, upcN d h.2.2 h.1⟩
theorem Fs.facts {W w : World} {r x y : Nat × Nat} {b ox oy : Nat} (h : Fs W w r) (X : AtN W b ox x) (Y : AtN W b oy y) :
    w.cell? ⟨W.heap.size, 0, none⟩ = some (.int .u64 (r.1 : Int)) ∧ w.cell? ⟨W.heap.size, 1, none⟩ = some (.int .u64 (r.2 : Int)) ∧ w.cell? ⟨b, ox, none⟩ = some (.int .u64 (x.1 : Int)) ∧ w.cell? ⟨b, ox + 1, none⟩ = some (.int .u64 (x.2 : Int)) ∧ w.cell? ⟨b, oy, none⟩ = some (.int .u64 (y.1 : Int)) ∧ w.cell? ⟨b, oy + 1, none⟩ = some (.int .u64 (y.2 : Int)) :=
  ⟨h.r.hi, h.r.lo, (X.up h.d).1, (X.up h.d).2, (Y.up h.d).1, (Y.up h.d).2⟩
theorem half_take (st gp : Nat) (t : List (Nat × Nat)) (r : Nat × Nat) (j : Nat) (h : j < t.length / 2) : (half st gp t r).take (j + 1) = (half st gp t r).take j ++ [hv st gp t r j] := by
  rw [take_sn _ j (by rw [half_len]; exact h)]
  congr 2
  exact half_at st gp t r h
theorem bind_ref (x y r : Nat × Nat) (hx : lt2 x) : xa (pm (xa (0, 1) r) x) (pm r y) = xa x (pm r (xa x y)) := by
  rw [Tw.pm_comm' (xa (0, 1) r) x, Tw.pm_comm' r y, bind_eq x y r hx]
end Go.Proofs.Ytccaobfhldfamaa

/- Contracts of span's long and has over the seat's translation. -/
namespace Go.Proofs.Ytccaobfhldfamaa
open Go.RowKit

/-- An element's bits. -/
def hasE (x : Nat × Nat) (n : Nat) : Bool := if n < 64 then x.2.testBit n else x.1.testBit (n - 64)
/-- How many bits it has up to its leading one. -/
def lngE (x : Nat × Nat) : Nat := if x.1 = 0 then Lib.bitLen x.2 else 64 + Lib.bitLen x.1
theorem bitLen_zero : Lib.bitLen 0 = 0 := by decide
theorem bitLen_pow : ∀ k x : Nat, k ≤ 64 → x < 2 ^ k → Lib.bitLen x ≤ k
  | 0, x, _, h => by obtain rfl : x = 0 := by omega
                     rw [bitLen_zero]; exact Nat.le_refl _
  | k + 1, x, hk, h => by
    by_cases h0 : x = 0
    · subst h0; rw [bitLen_zero]; exact Nat.zero_le _
    · have h64 : 2 ^ (k + 1) ≤ 2 ^ 64 := Nat.pow_le_pow_right (by decide) hk
      rw [Lib.bitLen_half x h0 (by omega)]
      have := bitLen_pow k (x / 2) (by omega) (by rw [Nat.pow_succ] at h; omega)
      omega
theorem bitLen_le (n : Nat) (h : n < 2 ^ 64) : Lib.bitLen n ≤ 64 := bitLen_pow 64 n (Nat.le_refl _) h
/-- What is below 2^k has no bit at k or above; what is not 0 has its leading one. -/
theorem bitLen_lt : ∀ k x : Nat, k ≤ 64 → x < 2 ^ k → x < 2 ^ Lib.bitLen x
  | 0, x, _, h => by obtain rfl : x = 0 := by omega
                     rw [bitLen_zero]; decide
  | k + 1, x, hk, h => by
    by_cases h0 : x = 0
    · subst h0; rw [bitLen_zero]; decide
    · have h64 : 2 ^ (k + 1) ≤ 2 ^ 64 := Nat.pow_le_pow_right (by decide) hk
      rw [Lib.bitLen_half x h0 (by omega), Nat.add_comm, Nat.pow_succ]
      have := bitLen_lt k (x / 2) (by omega) (by rw [Nat.pow_succ] at h; omega)
      omega
theorem bitLen_lead : ∀ k x : Nat, k ≤ 64 → x < 2 ^ k → x ≠ 0 → 1 ≤ Lib.bitLen x ∧ x.testBit (Lib.bitLen x - 1) = true
  | 0, x, _, h, h0 => by omega
  | k + 1, x, hk, h, h0 => by
    have h64 : 2 ^ (k + 1) ≤ 2 ^ 64 := Nat.pow_le_pow_right (by decide) hk
    rw [Lib.bitLen_half x h0 (by omega)]
    by_cases h1 : x / 2 = 0
    · obtain rfl : x = 1 := by omega
      decide
    · have := bitLen_lead k (x / 2) (by omega) (by rw [Nat.pow_succ] at h; omega) h1
      refine ⟨by omega, ?_⟩
      rw [show 1 + Lib.bitLen (x / 2) - 1 = (Lib.bitLen (x / 2) - 1) + 1 by omega, Nat.testBit_succ]
      exact this.2
/-- The leading bit. -/
theorem lngE_lead (x : Nat × Nat) (h1 : x.1 < 2 ^ 64) (h2 : x.2 < 2 ^ 64) (h0 : x ≠ (0, 0)) : 1 ≤ lngE x ∧ lngE x ≤ 128 ∧ hasE x (lngE x - 1) = true := by
  obtain ⟨h, l⟩ := x
  unfold lngE hasE
  simp only at h1 h2 ⊢
  by_cases e : h = 0
  · subst e
    have hl : l ≠ 0 := fun e => h0 (by rw [e])
    have a := bitLen_lead 64 l (Nat.le_refl _) h2 hl
    have b := bitLen_le l h2
    rw [if_pos rfl, if_pos (by omega)]
    exact ⟨a.1, by omega, a.2⟩
  · have a := bitLen_lead 64 h (Nat.le_refl _) h1 e
    have b := bitLen_le h h1
    rw [if_neg e, if_neg (by omega), show 64 + Lib.bitLen h - 1 - 64 = Lib.bitLen h - 1 by omega]
    exact ⟨by omega, by omega, a.2⟩
end Go.Proofs.Ytccaobfhldfamaa
