/- Traces and norms, no Go in sight: they are of the level below, and go through any level between. -/
import Derived.Test.YtakaconhoodigaaFrD
namespace Go.Proofs.Ytakaconhoodigaa
open Cb
open Tw (pm)
namespace Fr

/-- What is added or multiplied: an operation on elements, and what changes nothing. -/
structure Mon (op : Nat × Nat → Nat × Nat → Nat × Nat) (e : Nat × Nat) : Prop where
  comm : ∀ a b, op a b = op b a
  assoc : ∀ a b c, op (op a b) c = op a (op b c)
  one : ∀ a, lt2 a → op e a = a
  lt : ∀ a b, lt2 a → lt2 b → lt2 (op a b)
  le : lt2 e
/-- The first so many, one behind the other. -/
def fo (op : Nat × Nat → Nat × Nat → Nat × Nat) (e : Nat × Nat) : Nat → (Nat → Nat × Nat) → Nat × Nat
  | 0, _ => e
  | n + 1, f => op (fo op e n f) (f n)
variable {op : Nat × Nat → Nat × Nat → Nat × Nat} {e : Nat × Nat}
theorem lt_fo (h : Mon op e) {f : Nat → Nat × Nat} (hf : ∀ i, lt2 (f i)) : ∀ n, lt2 (fo op e n f)
  | 0 => h.le
  | n + 1 => h.lt _ _ (lt_fo h hf n) (hf n)
theorem fo_congr {f g : Nat → Nat × Nat} : ∀ n, (∀ i, i < n → f i = g i) → fo op e n f = fo op e n g
  | 0, _ => rfl
  | n + 1, h => by rw [fo, fo, fo_congr n fun i hi => h i (by omega), h n (by omega)]
theorem left_comm (h : Mon op e) (a b c : Nat × Nat) : op a (op b c) = op b (op a c) := by rw [← h.assoc, h.comm a b, h.assoc]
theorem fo_op (h : Mon op e) (f g : Nat → Nat × Nat) : ∀ n, fo op e n (fun i => op (f i) (g i)) = op (fo op e n f) (fo op e n g)
  | 0 => (h.one e h.le).symm
  | n + 1 => by rw [fo, fo, fo, fo_op h f g n, h.assoc, h.assoc, left_comm h (fo op e n g)]
theorem fo_e (h : Mon op e) : ∀ n, fo op e n (fun _ => e) = e
  | 0 => rfl
  | n + 1 => by rw [fo, fo_e h n, h.one e h.le]
theorem fo_add (h : Mon op e) {f : Nat → Nat × Nat} (hf : ∀ i, lt2 (f i)) (m : Nat) : ∀ n, fo op e (m + n) f = op (fo op e m f) (fo op e n fun i => f (m + i))
  | 0 => by rw [Nat.add_zero, fo, h.comm, h.one _ (lt_fo h hf m)]
  | n + 1 => by rw [← Nat.add_assoc, fo, fo, fo_add h hf m n, h.assoc]
/-- A rows of B, one column behind the other. -/
theorem fo_grid (h : Mon op e) {f : Nat → Nat × Nat} (hf : ∀ i, lt2 (f i)) (A : Nat) : ∀ B, fo op e (A * B) f = fo op e A fun i => fo op e B fun j => f (A * j + i)
  | 0 => by rw [Nat.mul_zero]; exact (fo_e h A).symm
  | B + 1 => by
    rw [Nat.mul_succ, fo_add h hf, fo_grid h hf A B, ← fo_op h]
    rfl
theorem fo_first (h : Mon op e) (f : Nat → Nat × Nat) (n : Nat) : op (f 0) (fo op e n fun i => f (i + 1)) = op (fo op e n f) (f n) := by
  induction n with
  | zero => show op (f 0) e = op e (f 0); rw [h.comm]
  | succ n ih => rw [fo, ← h.assoc, ih, fo]
theorem mon_add : Mon xa (0, 0) := ⟨xa_comm, xa_assoc, fun a _ => zero_xa a, fun _ _ ha hb => lt_xa ha hb, lt_zero⟩
theorem mon_mul : Mon pm (0, 1) := ⟨Tw.pm_comm', Tw.pm_assoc', fun _ h => one_pm h, fun _ _ _ _ => lt_pm _ _, lt_one⟩
/-- Squares go over both. -/
def Goes (op : Nat × Nat → Nat × Nat → Nat × Nat) (e : Nat × Nat) : Prop := (∀ n, sqv e n = e) ∧ ∀ a b n, lt2 a → lt2 b → sqv (op a b) n = op (sqv a n) (sqv b n)
theorem d7_one'' : Tw.d7 0 1 = Tw.one 7 := Tw.d7_one'
theorem goes_add : Goes xa (0, 0) := by
  have h2 : ∀ a b n, lt2 a → lt2 b → sqv (xa a b) n = xa (sqv a n) (sqv b n) := fun a b n ha hb =>
    d7_ext (lt_sqv (lt_xa ha hb) n) (lt_xa (lt_sqv ha n) (lt_sqv hb n)) (by
      rw [d7_sqv]
      show Tw.sqn 7 n (Tw.d7 (a.1 ^^^ b.1) (a.2 ^^^ b.2)) = Tw.d7 ((sqv a n).1 ^^^ (sqv b n).1) ((sqv a n).2 ^^^ (sqv b n).2)
      rw [Tw.d7_add, Tw.d7_add, Tw.sqn_add, d7_sqv, d7_sqv])
  refine ⟨fun n => ?_, h2⟩
  have h := h2 (0, 0) (0, 0) n lt_zero lt_zero
  rw [xa_self, xa_self] at h
  exact h
theorem goes_mul : Goes pm (0, 1) := by
  refine ⟨fun n => d7_ext (lt_sqv lt_one n) lt_one (by rw [d7_sqv, d7_one'', Tw.sqn_one]), fun a b n ha hb => d7_ext (lt_sqv (lt_pm _ _) n) (lt_pm _ _) ?_⟩
  rw [d7_sqv]
  show Tw.sqn 7 n (Tw.d7 (Tw.pmh a.1 a.2 b.1 b.2) (Tw.pml a.1 a.2 b.1 b.2)) = Tw.d7 (Tw.pmh (sqv a n).1 (sqv a n).2 (sqv b n).1 (sqv b n).2) (Tw.pml (sqv a n).1 (sqv a n).2 (sqv b n).1 (sqv b n).2)
  rw [Tw.d7_mul, Tw.d7_mul, Tw.sqn_mul, d7_sqv, d7_sqv]
theorem sqv_fo (h : Mon op e) (g : Goes op e) {f : Nat → Nat × Nat} (hf : ∀ i, lt2 (f i)) (m : Nat) : ∀ n, sqv (fo op e n f) m = fo op e n fun i => sqv (f i) m
  | 0 => g.1 m
  | n + 1 => by rw [fo, fo, g.2 _ _ m (lt_fo h hf n) (hf n), sqv_fo h g hf m n]
/-- The trace or the norm. -/
def tn (op : Nat × Nat → Nat × Nat → Nat × Nat) (e : Nat × Nat) (k j : Nat) (a : Nat × Nat) : Nat × Nat := fo op e (2 ^ (k - j)) fun i => sqv a (2 ^ j * i)
theorem lt_tn (h : Mon op e) {a : Nat × Nat} (la : lt2 a) (k j : Nat) : lt2 (tn op e k j a) := lt_fo h (fun _ => lt_sqv la _) _
/-- It is fixed. -/
theorem tn_fixed (h : Mon op e) (g : Goes op e) {k j : Nat} (hk : k < 8) (hj : j ≤ k) {a : Nat × Nat} (la : lt2 a) (oa : ofE k a) : sqv (tn op e k j a) (2 ^ j) = tn op e k j a := by
  have hf : ∀ i, lt2 (sqv a (2 ^ j * i)) := fun _ => lt_sqv la _
  obtain ⟨n, hn⟩ : ∃ n, 2 ^ (k - j) = n + 1 := ⟨2 ^ (k - j) - 1, (Nat.succ_pred_eq_of_pos (Nat.two_pow_pos _)).symm⟩
  have he : 2 ^ j * (n + 1) = 2 ^ k := by rw [← hn, ← Nat.pow_add]; congr 1; omega
  unfold tn
  rw [sqv_fo h g hf, hn]
  have h1 := fo_first h (fun i => sqv a (2 ^ j * i)) n
  have e1 : ∀ i, sqv (sqv a (2 ^ j * i)) (2 ^ j) = sqv a (2 ^ j * (i + 1)) := fun i => by rw [sqv_sqv la, Nat.mul_succ]
  rw [fo_congr (n + 1) fun i _ => e1 i]
  show op (fo op e n fun i => sqv a (2 ^ j * (i + 1))) (sqv a (2 ^ j * (n + 1))) = op (fo op e n fun i => sqv a (2 ^ j * i)) (sqv a (2 ^ j * n))
  rw [← h1, he, sqv_back hk la oa, h.comm]
  rfl
/-- It is of the level below. -/
theorem of_tn (h : Mon op e) (g : Goes op e) {k j : Nat} (hk : k < 8) (hj : j ≤ k) {a : Nat × Nat} (la : lt2 a) (oa : ofE k a) : ofE j (tn op e k j a) := by
  have l := lt_tn h la k j
  have hx : Tw.d7 (sqv (tn op e k j a) (2 ^ j)).1 (sqv (tn op e k j a) (2 ^ j)).2 = Tw.d7 (tn op e k j a).1 (tn op e k j a).2 := by rw [tn_fixed h g hk hj la oa]
  rw [d7_sqv] at hx
  generalize tn op e k j a = t at *
  have hj8 : j < 8 := by omega
  refine (ofB_iff j t.1 t.2 hj8).2 ?_
  by_cases h7 : j = 7
  · exact .inl h7
  · right
    have hlev := Tw.fixed_levels j (7 - j)
    rw [show j + (7 - j) = 7 by omega] at hlev
    have hb := hlev _ hx
    have e7 : Tw.enc 7 (Tw.d7 t.1 t.2) = 2 ^ 64 * t.1 + t.2 := by
      rw [← Tw.dec7 t.1 t.2 l.2, Tw.enc_dec_lt]
      · have := l.1; have := l.2
        show 2 ^ 64 * t.1 + t.2 < 2 ^ 128
        omega
    rw [e7] at hb
    have hp : 2 ^ 2 ^ j ≤ 2 ^ 64 := Nat.pow_le_pow_right (by decide) (Nat.pow_le_pow_right (n := 2) (by decide) (show j ≤ 6 by omega))
    have h0 : t.1 = 0 := by
      rcases Nat.eq_zero_or_pos t.1 with h0 | h0
      · exact h0
      · exfalso
        have : 2 ^ 64 * 1 ≤ 2 ^ 64 * t.1 := Nat.mul_le_mul_left _ h0
        omega
    rw [h0] at hb
    exact ⟨h0, by omega⟩
/-- It goes through any level between. -/
theorem tn_through (h : Mon op e) (g : Goes op e) {k m j : Nat} (hk : k < 8) (hm : m ≤ k) (hj : j ≤ m) {a : Nat × Nat} (la : lt2 a) : tn op e k j a = tn op e m j (tn op e k m a) := by
  have hf : ∀ i, lt2 (sqv a (2 ^ j * i)) := fun _ => lt_sqv la _
  unfold tn
  rw [show 2 ^ (k - j) = 2 ^ (m - j) * 2 ^ (k - m) by rw [← Nat.pow_add]; congr 1; omega, fo_grid h hf]
  refine fo_congr _ fun i _ => ?_
  rw [sqv_fo h g (fun _ => lt_sqv la _)]
  refine fo_congr _ fun l _ => ?_
  rw [sqv_sqv la]
  congr 1
  rw [Nat.mul_add, ← Nat.mul_assoc, ← Nat.pow_add, show j + (m - j) = m by omega]
end Fr
open Fr
theorem trl_tn {k : Nat} (hk : k < 8) (j : Nat) (a : Ek k) (n : Nat) : trl (cjs k (2 ^ j) hk a n) = fo xa (0, 0) n fun i => sqv a.1 (2 ^ j * i) := by
  induction n with
  | zero => rfl
  | succ n ih => rw [cjs_succ, trl_snoc, ih]; rfl
theorem nrl_tn {k : Nat} (hk : k < 8) (j : Nat) (a : Ek k) (n : Nat) : nrl (cjs k (2 ^ j) hk a n) = fo pm (0, 1) n fun i => sqv a.1 (2 ^ j * i) := by
  induction n with
  | zero => rfl
  | succ n ih => rw [cjs_succ, nrl_snoc, ih]; rfl
end Go.Proofs.Ytakaconhoodigaa

/- The contract of steeplelaw33.of over the seat's translation. -/
namespace Go.Proofs.Ytakaconhoodigaa
open Go.RowKit
open Cb
open Tw (pm)

theorem and_maskF (al m : Nat) (h : al < 2 ^ 64) (hm : m ≤ 32) : bits .and .u64 (al : Int) ((2 ^ m - 1 : Nat) : Int) = ((al % 2 ^ m : Nat) : Int) := by
  have hp : 2 ^ m ≤ 2 ^ 32 := Nat.pow_le_pow_right (by decide) hm
  have h1 : (BitVec.ofInt 64 (al : Int)).toNat = al := by
    rw [BitVec.ofInt_natCast, BitVec.toNat_ofNat]; exact Nat.mod_eq_of_lt (by omega)
  have h2 : (BitVec.ofInt 64 ((2 ^ m - 1 : Nat) : Int)).toNat = 2 ^ m - 1 := by
    rw [BitVec.ofInt_natCast, BitVec.toNat_ofNat]; exact Nat.mod_eq_of_lt (by omega)
  show IntKind.u64.wrap ((BitVec.ofInt 64 (al : Int) &&& BitVec.ofInt 64 ((2 ^ m - 1 : Nat) : Int)).toNat : Int) = _
  rw [BitVec.toNat_and, h1, h2, Nat.and_two_pow_sub_one_eq_mod]
  have : al % 2 ^ m < 2 ^ m := Nat.mod_lt _ (Nat.two_pow_pos m)
  generalize al % 2 ^ m = x at *
  show ((x : Int) % 18446744073709551616) = _
  omega
set_option maxHeartbeats 8000000 in
set_option maxRecDepth 100000 in
theorem of33 (k : Nat) (hk : k < 8) (a : Nat × Nat) (la : lt2 a) : Ret 25 #[.int .i64 (k : Int), .agg #[.int .u64 (a.1 : Int), .int .u64 (a.2 : Int)]] (.agg #[.int .u64 ((cutE k a).1 : Int), .int .u64 ((cutE k a).2 : Int)]) := by
  intro W
  have m0 : bits .and .u64 (a.2 : Int) 1 = ((a.2 % 2 : Nat) : Int) := and_maskF a.2 1 la.2 (by decide)
  have m1 : bits .and .u64 (a.2 : Int) 3 = ((a.2 % 4 : Nat) : Int) := and_maskF a.2 2 la.2 (by decide)
  have m2 : bits .and .u64 (a.2 : Int) 15 = ((a.2 % 16 : Nat) : Int) := and_maskF a.2 4 la.2 (by decide)
  have m3 : bits .and .u64 (a.2 : Int) 255 = ((a.2 % 256 : Nat) : Int) := and_maskF a.2 8 la.2 (by decide)
  have m4 : bits .and .u64 (a.2 : Int) 65535 = ((a.2 % 65536 : Nat) : Int) := and_maskF a.2 16 la.2 (by decide)
  have m5 : bits .and .u64 (a.2 : Int) 4294967295 = ((a.2 % 4294967296 : Nat) : Int) := and_maskF a.2 32 la.2 (by decide)
  rcases (show k = 0 ∨ k = 1 ∨ k = 2 ∨ k = 3 ∨ k = 4 ∨ k = 5 ∨ k = 6 ∨ k = 7 by omega) with rfl | rfl | rfl | rfl | rfl | rfl | rfl | rfl
  all_goals
    go_enter Try.func25, Try.ntmps25
    go_wp2
    refine bodyPost_ret (v := .agg #[.int .u64 ((cutE _ a).1 : Int), .int .u64 ((cutE _ a).2 : Int)]) (by simp [results, Try.results25, go_sem, cutE]) rfl ⟨rfl, ?_⟩
    exact ((Below.refl _ _).alloc (Nat.le_refl _) _).alloc (by simp) _
/-- A level by a remainder. -/
theorem cut_mod (x : Int) (n : Nat) (hn : n < 8) : ∃ (t : Int) (m : Nat), m ≤ n ∧ x.tmod ((n : Int) + 1) = t ∧ -8 ≤ t ∧ t ≤ 8 ∧ (t + (n : Int) + 1).tmod ((n : Int) + 1) = (m : Int) := by
  have h1 : -((n : Int) + 1) < x.tmod ((n : Int) + 1) := by
    have := Int.lt_tmod_of_pos x (show (0 : Int) < (n : Int) + 1 by omega); omega
  have h2 : x.tmod ((n : Int) + 1) < (n : Int) + 1 := Int.tmod_lt_of_pos _ (by omega)
  refine ⟨_, ((x.tmod ((n : Int) + 1) + (n : Int) + 1).tmod ((n : Int) + 1)).toNat, ?_, rfl, by omega, by omega, ?_⟩
  · have h3 : (x.tmod ((n : Int) + 1) + (n : Int) + 1).tmod ((n : Int) + 1) < (n : Int) + 1 := Int.tmod_lt_of_pos _ (by omega)
    have h4 : 0 ≤ (x.tmod ((n : Int) + 1) + (n : Int) + 1).tmod ((n : Int) + 1) := Int.tmod_nonneg _ (by omega)
    omega
  · have h4 : 0 ≤ (x.tmod ((n : Int) + 1) + (n : Int) + 1).tmod ((n : Int) + 1) := Int.tmod_nonneg _ (by omega)
    omega
end Go.Proofs.Ytakaconhoodigaa
