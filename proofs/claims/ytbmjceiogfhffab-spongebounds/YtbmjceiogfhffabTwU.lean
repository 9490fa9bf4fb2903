/- The inverse as numbers: one step down a level. No Go in sight. -/
import Derived.Test.YtbmjceiogfhffabTwP
namespace Go.Proofs.Ytbmjceiogfhffab
namespace Tw

/-- The inverse of a number in a level. -/
def ik (k n : Nat) : Nat := enc k (inv k (dec k n))
theorem ik_lt (k n : Nat) : ik k n < 2 ^ (2 ^ k) := enc_lt k _
theorem ik_succ (k n : Nat) (h : n < 2 ^ (2 ^ k)) : ik (k + 1) n = ik k n := by
  unfold ik; rw [dec_low k n h, inv_low, enc_low]
theorem ik_up (k j n : Nat) (h : n < 2 ^ (2 ^ k)) : ik (k + j) n = ik k n := by
  induction j with
  | zero => rfl
  | succ j ih => rw [← Nat.add_assoc, ik_succ (k + j) n (Nat.lt_of_lt_of_le h (pow_le_up k j)), ih]
theorem pk_px (k a b : Nat) (hk : k ≤ 6) (ha : a < 2 ^ (2 ^ k)) (hb : b < 2 ^ (2 ^ k)) : enc k (mul k (dec k a) (dec k b)) = px a b := by
  have h := pk_up k (6 - k) a b ha hb
  rw [show k + (6 - k) = 6 by omega] at h
  rw [show px a b = pk 6 a b from rfl, h]
  rfl
/-- The generator of a level as a number. -/
def gn (k : Nat) : Nat := enc k (gen k)
theorem gn_lt (k : Nat) : gn k < 2 ^ (2 ^ k) := enc_lt k _
/-- One step: of a number's halves. -/
theorem ik_step (k hi lo : Nat) (hk : k ≤ 6) (h1 : hi < 2 ^ (2 ^ k)) (h2 : lo < 2 ^ (2 ^ k)) :
    ik (k + 1) (2 ^ (2 ^ k) * hi + lo) = 2 ^ (2 ^ k) * px hi (ik k (px hi hi ^^^ px lo (lo ^^^ px (gn k) hi))) + px (lo ^^^ px (gn k) hi) (ik k (px hi hi ^^^ px lo (lo ^^^ px (gn k) hi))) := by
  have hd : dec (k + 1) (2 ^ (2 ^ k) * hi + lo) = (dec k hi, dec k lo) := by
    have := dec_enc (k + 1) ((dec k hi, dec k lo) : T (k + 1))
    rw [show enc (k + 1) ((dec k hi, dec k lo) : T (k + 1)) = 2 ^ (2 ^ k) * enc k (dec k hi) + enc k (dec k lo) from rfl, enc_dec_lt h1, enc_dec_lt h2] at this
    exact this
  have hg : px (gn k) hi < 2 ^ (2 ^ k) := px_closed k _ _ hk (gn_lt k) h1
  have ho : lo ^^^ px (gn k) hi < 2 ^ (2 ^ k) := Nat.xor_lt_two_pow h2 hg
  have hn : px hi hi ^^^ px lo (lo ^^^ px (gn k) hi) < 2 ^ (2 ^ k) := Nat.xor_lt_two_pow (px_closed k _ _ hk h1 h1) (px_closed k _ _ hk h2 ho)
  have eg : mul k (gen k) (dec k hi) = dec k (px (gn k) hi) := by
    rw [← pk_px k _ _ hk (gn_lt k) h1, dec_enc]; unfold gn; rw [dec_enc]
  have eo : add k (dec k lo) (mul k (gen k) (dec k hi)) = dec k (lo ^^^ px (gn k) hi) := by rw [eg, dec_xor]
  have en : norm k ((dec k hi, dec k lo) : T (k + 1)) = dec k (px hi hi ^^^ px lo (lo ^^^ px (gn k) hi)) := by
    unfold norm
    simp only
    have e1 : mul k (dec k hi) (dec k hi) = dec k (px hi hi) := by rw [← pk_px k _ _ hk h1 h1, dec_enc]
    have e2 : mul k (dec k lo) (dec k (lo ^^^ px (gn k) hi)) = dec k (px lo (lo ^^^ px (gn k) hi)) := by rw [← pk_px k _ _ hk h2 ho, dec_enc]
    rw [eo, e1, e2, dec_xor]
  have hi' : inv k (dec k (px hi hi ^^^ px lo (lo ^^^ px (gn k) hi))) = dec k (ik k (px hi hi ^^^ px lo (lo ^^^ px (gn k) hi))) := by unfold ik; rw [dec_enc]
  rw [show ik (k + 1) (2 ^ (2 ^ k) * hi + lo) = enc (k + 1) (inv (k + 1) (dec (k + 1) (2 ^ (2 ^ k) * hi + lo))) from rfl, hd]
  show 2 ^ (2 ^ k) * enc k (mul k (dec k hi) (inv k (norm k ((dec k hi, dec k lo) : T (k + 1))))) + enc k (mul k (add k (dec k lo) (mul k (gen k) (dec k hi))) (inv k (norm k ((dec k hi, dec k lo) : T (k + 1))))) = _
  rw [en, eo, hi', pk_px k _ _ hk h1 (ik_lt k _), pk_px k _ _ hk ho (ik_lt k _)]
/-- The inverse of a pair of words. -/
def ivh (ah al : Nat) : Nat := enc 6 (inv 7 (d7 ah al)).1
def ivl (ah al : Nat) : Nat := enc 6 (inv 7 (d7 ah al)).2
theorem ivh_lt (ah al : Nat) : ivh ah al < 2 ^ 64 := enc_lt 6 _
theorem ivl_lt (ah al : Nat) : ivl ah al < 2 ^ 64 := enc_lt 6 _
theorem d7_iv (ah al : Nat) : d7 (ivh ah al) (ivl ah al) = inv 7 (d7 ah al) := by
  show (dec 6 (ivh ah al), dec 6 (ivl ah al)) = _
  unfold ivh ivl; rw [dec_enc, dec_enc]
  rfl
theorem enc7 (x : T 7) : enc 7 x = 2 ^ (2 ^ 6) * enc 6 x.1 + enc 6 x.2 := rfl
theorem dec7 (ah al : Nat) (h : al < 2 ^ 64) : dec 7 (2 ^ (2 ^ 6) * ah + al) = d7 ah al := by
  show (dec 6 ((2 ^ (2 ^ 6) * ah + al) >>> (2 ^ 6)), dec 6 (2 ^ (2 ^ 6) * ah + al)) = _
  have e1 : (2 ^ (2 ^ 6) * ah + al) >>> (2 ^ 6) = ah := by rw [Nat.shiftRight_eq_div_pow]; omega
  have e2 : dec 6 (2 ^ (2 ^ 6) * ah + al) = dec 6 al := by
    have h3 := enc_dec 6 (2 ^ (2 ^ 6) * ah + al)
    have h4 := enc_dec 6 al
    apply enc_inj
    rw [h3, h4]; omega
  rw [e1, e2]; rfl
/-- The inverse of a pair, by the numbers of level 7. -/
theorem iv_ik (ah al : Nat) (h : al < 2 ^ 64) : 2 ^ (2 ^ 6) * ivh ah al + ivl ah al = ik 7 (2 ^ (2 ^ 6) * ah + al) := by
  unfold ik; rw [dec7 ah al h, enc7]; rfl
/-- Of low ones. -/
theorem iv_low (k al : Nat) (hk : k ≤ 6) (h : al < 2 ^ (2 ^ k)) : ivh 0 al = 0 ∧ ivl 0 al = ik k al := by
  have h6 : al < 2 ^ 64 := Nat.lt_of_lt_of_le h (by have := pow_le_up k (6 - k); rwa [show k + (6 - k) = 6 by omega] at this)
  have e := iv_ik 0 al h6
  rw [Nat.mul_zero, Nat.zero_add] at e
  have e2 := ik_up k (7 - k) al h
  rw [show k + (7 - k) = 7 by omega] at e2
  rw [e2] at e
  have h3 : ik k al < 2 ^ 64 := Nat.lt_of_lt_of_le (ik_lt k al) (by have := pow_le_up k (6 - k); rwa [show k + (6 - k) = 6 by omega] at this)
  have h4 := ivl_lt 0 al
  have h5 := ivh_lt 0 al
  generalize ivh 0 al = x at *
  generalize ivl 0 al = y at *
  generalize ik k al = z at *
  omega
end Tw
end Go.Proofs.Ytbmjceiogfhffab
