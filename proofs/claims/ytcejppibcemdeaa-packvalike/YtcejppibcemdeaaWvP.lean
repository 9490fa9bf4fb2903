/- Elements bit by bit: the sum of the bits that are set is the element; the parts of an element. No Go but the names. -/
import Derived.Test.YtcejppibcemdeaaPTwBu
namespace Go.Proofs.Ytcejppibcemdeaa
open Go.RowKit

/-- The sum of the first n bits of which f holds. -/
def rx (f : Nat → Bool) : Nat → Nat × Nat
  | 0 => (0, 0)
  | n + 1 => if f n then ((rx f n).1 ^^^ (bv (n : Int)).1, (rx f n).2 ^^^ (bv (n : Int)).2) else rx f n
theorem bv_has (n m : Nat) (hn : n < 128) (hm : m < 128) : hasB (bv (n : Int)).1 (bv (n : Int)).2 m = decide (m = n) := by
  unfold bv
  rw [if_pos (by omega), Int.toNat_natCast]
  unfold Tw.bitp hasB
  by_cases h1 : n < 64
  · rw [if_pos h1]
    by_cases h2 : m < 64
    · rw [if_pos h2]; simp only [Nat.testBit_two_pow]; exact decide_eq_decide.2 eq_comm
    · rw [if_neg h2]; simp only [Nat.zero_testBit]; exact (decide_eq_false (by omega)).symm
  · rw [if_neg h1]
    by_cases h2 : m < 64
    · rw [if_pos h2]; simp only [Nat.zero_testBit]; exact (decide_eq_false (by omega)).symm
    · rw [if_neg h2]; simp only [Nat.testBit_two_pow]; exact decide_eq_decide.2 (by omega)
theorem bv_lt2 (n : Int) : (bv n).1 < 2 ^ 64 ∧ (bv n).2 < 2 ^ 64 := by
  unfold bv
  split
  · unfold Tw.bitp
    split
    · exact ⟨Nat.two_pow_pos 64, Nat.pow_lt_pow_right (by decide) (by omega)⟩
    · exact ⟨Nat.pow_lt_pow_right (by decide) (by omega), Nat.two_pow_pos 64⟩
  · exact ⟨Nat.two_pow_pos 64, Nat.two_pow_pos 64⟩
theorem hasB_xor (a b c d m : Nat) : hasB (a ^^^ b) (c ^^^ d) m = (hasB a c m ^^ hasB b d m) := by
  unfold hasB
  split <;> rw [Nat.testBit_xor]
theorem rx_has (f : Nat → Bool) : ∀ n, n ≤ 128 → ∀ m, m < 128 → hasB (rx f n).1 (rx f n).2 m = (decide (m < n) && f m)
  | 0, _, m, _ => by simp [rx, hasB]
  | n + 1, hn, m, hm => by
    have ih := rx_has f n (by omega) m hm
    unfold rx
    by_cases hf : f n = true
    · rw [if_pos hf]
      show hasB (_ ^^^ _) (_ ^^^ _) m = _
      rw [hasB_xor, ih, bv_has n m (by omega) hm]
      by_cases h1 : m = n
      · subst h1; simp [hf]
      · by_cases h2 : m < n
        · simp [h1, h2, show m < n + 1 by omega]
        · simp [h1, h2, show ¬ m < n + 1 by omega]
    · rw [if_neg hf, ih]
      by_cases h1 : m = n
      · subst h1; simp at hf; simp [hf]
      · by_cases h2 : m < n
        · simp [h2, show m < n + 1 by omega]
        · simp [h2, show ¬ m < n + 1 by omega]
theorem rx_lt (f : Nat → Bool) : ∀ n, (rx f n).1 < 2 ^ 64 ∧ (rx f n).2 < 2 ^ 64
  | 0 => ⟨Nat.two_pow_pos 64, Nat.two_pow_pos 64⟩
  | n + 1 => by
    have ih := rx_lt f n
    unfold rx
    split
    · exact ⟨Nat.xor_lt_two_pow ih.1 (bv_lt2 _).1, Nat.xor_lt_two_pow ih.2 (bv_lt2 _).2⟩
    · exact ih
/-- Pairs of words are the same where all their bits are. -/
theorem pair_ext {a b : Nat × Nat} (ha : a.1 < 2 ^ 64 ∧ a.2 < 2 ^ 64) (hb : b.1 < 2 ^ 64 ∧ b.2 < 2 ^ 64) (h : ∀ m, m < 128 → hasB a.1 a.2 m = hasB b.1 b.2 m) : a = b := by
  refine Prod.ext ?_ ?_
  · apply Nat.eq_of_testBit_eq
    intro i
    by_cases hi : i < 64
    · have := h (64 + i) (by omega)
      unfold hasB at this
      rw [if_neg (by omega), if_neg (by omega), Nat.add_sub_cancel_left] at this
      exact this
    · rw [Nat.testBit_lt_two_pow (Nat.lt_of_lt_of_le ha.1 (Nat.pow_le_pow_right (by decide) (by omega))), Nat.testBit_lt_two_pow (Nat.lt_of_lt_of_le hb.1 (Nat.pow_le_pow_right (by decide) (by omega)))]
  · apply Nat.eq_of_testBit_eq
    intro i
    by_cases hi : i < 64
    · have := h i (by omega)
      unfold hasB at this
      rw [if_pos hi, if_pos hi] at this
      exact this
    · rw [Nat.testBit_lt_two_pow (Nat.lt_of_lt_of_le ha.2 (Nat.pow_le_pow_right (by decide) (by omega))), Nat.testBit_lt_two_pow (Nat.lt_of_lt_of_le hb.2 (Nat.pow_le_pow_right (by decide) (by omega)))]
/-- Behind its level an element has no bits. -/
theorem of_has {k : Nat} (hk : k < 8) {h l : Nat} (o : ofB (k : Int) (h : Int) (l : Int) = true) (m : Nat) (h1 : 2 ^ k ≤ m) (hm : m < 128) : hasB h l m = false := by
  rw [ofB_iff _ _ _ hk] at o
  rcases o with rfl | ⟨rfl, hl⟩
  · have : (2 : Nat) ^ 7 = 128 := by decide
    omega
  · unfold hasB
    split
    · exact Nat.testBit_lt_two_pow (Nat.lt_of_lt_of_le hl (Nat.pow_le_pow_right (by decide) h1))
    · exact Nat.zero_testBit _
/-- Parts that are joined, bit by bit. -/
theorem rx_jnd (d k : Nat) (es : List (Nat × Nat)) (hd : d ≤ k) (hk : k < 8) (hl : es.length = 2 ^ d) (hes : ltE es) (ho : ∀ e ∈ es, ofB ((k - d : Nat) : Int) (e.1 : Int) (e.2 : Int) = true) (f : Nat → Bool)
    (hf : ∀ n, n < 2 ^ k → f n = hasB (es.getD (n / 2 ^ (k - d)) (0, 0)).1 (es.getD (n / 2 ^ (k - d)) (0, 0)).2 (n % 2 ^ (k - d))) : rx f (2 ^ k) = jnd d k es := by
  have h7 : 2 ^ k ≤ 2 ^ 7 := Nat.pow_le_pow_right (by decide) (by omega)
  have e7 : (2 : Nat) ^ 7 = 128 := by decide
  refine pair_ext (rx_lt f _) (jnd_lt d k es hd hk hl hes ho) fun m hm => ?_
  rw [rx_has f _ (by omega) m hm]
  by_cases h : m < 2 ^ k
  · rw [jnd_has d k es hd hk hl ho m h, hf m h]; simp [h]
  · rw [of_has hk (jnd_of d k es hd hk hl ho) m (by omega) hm]; simp [h]
/-- The halves of an element of the level k. -/
def hf (k : Nat) (x : Nat × Nat) : Nat × Nat := if k = 7 then (0, x.1) else (0, x.2 / 2 ^ 2 ^ (k - 1))
def lf (k : Nat) (x : Nat × Nat) : Nat × Nat := if k = 7 then (0, x.2) else (0, x.2 % 2 ^ 2 ^ (k - 1))
/-- An element as 2^d parts, the lowest first. -/
def sp : Nat → Nat → Nat × Nat → List (Nat × Nat)
  | 0, _, x => [x]
  | d + 1, k, x => sp d (k - 1) (lf k x) ++ sp d (k - 1) (hf k x)
theorem sp_len : ∀ (d k : Nat) (x : Nat × Nat), (sp d k x).length = 2 ^ d
  | 0, _, _ => rfl
  | d + 1, k, x => by
    show (sp d (k - 1) _ ++ sp d (k - 1) _).length = _
    rw [List.length_append, sp_len, sp_len, Nat.pow_succ]; omega
theorem half_of (k : Nat) (h1 : 1 ≤ k) (hk : k < 8) (x : Nat × Nat) (hx : x.1 < 2 ^ 64 ∧ x.2 < 2 ^ 64) (o : ofB (k : Int) (x.1 : Int) (x.2 : Int) = true) : ofB ((k - 1 : Nat) : Int) ((lf k x).1 : Nat) ((lf k x).2 : Nat) = true ∧ ofB ((k - 1 : Nat) : Int) ((hf k x).1 : Nat) ((hf k x).2 : Nat) = true := by
  rw [ofB_iff _ _ _ hk] at o
  rw [ofB_iff _ _ _ (by omega), ofB_iff _ _ _ (by omega)]
  unfold lf hf
  by_cases h7 : k = 7
  · subst h7
    rw [if_pos rfl, if_pos rfl]
    exact ⟨.inr ⟨rfl, hx.2⟩, .inr ⟨rfl, hx.1⟩⟩
  · rw [if_neg h7, if_neg h7]
    have o := o.resolve_left h7
    have e : 2 ^ 2 ^ k = 2 ^ 2 ^ (k - 1) * 2 ^ 2 ^ (k - 1) := by
      rw [← Nat.pow_add]; congr 1; obtain ⟨j, rfl⟩ : ∃ j, k = j + 1 := ⟨k - 1, by omega⟩; rw [Nat.add_sub_cancel, Nat.pow_succ]; omega
    refine ⟨.inr ⟨rfl, Nat.mod_lt _ (Nat.two_pow_pos _)⟩, .inr ⟨rfl, ?_⟩⟩
    show x.2 / 2 ^ 2 ^ (k - 1) < 2 ^ 2 ^ (k - 1)
    rw [Nat.div_lt_iff_lt_mul (Nat.two_pow_pos _), ← e]
    exact o.2
theorem lf_has (k : Nat) (hk : k < 8) (x : Nat × Nat) (m : Nat) (hm : m < 2 ^ (k - 1)) : hasB (lf k x).1 (lf k x).2 m = hasB x.1 x.2 m := by
  have h6 : 2 ^ (k - 1) ≤ 2 ^ 6 := Nat.pow_le_pow_right (by decide) (by omega)
  have e6 : (2 : Nat) ^ 6 = 64 := by decide
  unfold lf hasB
  by_cases h7 : k = 7
  · rw [if_pos h7, if_pos (by omega), if_pos (by omega)]
  · rw [if_neg h7, if_pos (by omega), if_pos (by omega)]
    show (x.2 % 2 ^ 2 ^ (k - 1)).testBit m = _
    rw [Nat.testBit_mod_two_pow]; simp [hm]
theorem hf_has (k : Nat) (h1 : 1 ≤ k) (hk : k < 8) (x : Nat × Nat) (m : Nat) (hm : m < 2 ^ (k - 1)) : hasB (hf k x).1 (hf k x).2 m = hasB x.1 x.2 (2 ^ (k - 1) + m) := by
  have h6 : 2 ^ (k - 1) ≤ 2 ^ 6 := Nat.pow_le_pow_right (by decide) (by omega)
  have e6 : (2 : Nat) ^ 6 = 64 := by decide
  unfold hf hasB
  by_cases h7 : k = 7
  · subst h7
    rw [if_pos rfl, if_pos (by omega), if_neg (by omega), show (2 : Nat) ^ (7 - 1) = 64 by decide, Nat.add_sub_cancel_left]
  · have h5 : 2 ^ (k - 1) ≤ 2 ^ 5 := Nat.pow_le_pow_right (by decide) (by omega)
    have e5 : (2 : Nat) ^ 5 = 32 := by decide
    rw [if_neg h7, if_pos (by omega), if_pos (by omega)]
    show (x.2 / 2 ^ 2 ^ (k - 1)).testBit m = _
    rw [Nat.testBit_div_two_pow, Nat.add_comm]
theorem getD_append_left {α : Type} (a b : List α) (i : Nat) (z : α) (h : i < a.length) : (a ++ b).getD i z = a.getD i z := by simp [List.getD, List.getElem?_append_left h]
theorem getD_append_right {α : Type} (a b : List α) (i : Nat) (z : α) (h : a.length ≤ i) : (a ++ b).getD i z = b.getD (i - a.length) z := by simp [List.getD, List.getElem?_append_right h]
/-- The parts of an element are of the lower level. -/
theorem half_lt (k : Nat) (_hk : k < 8) (x : Nat × Nat) (hx : x.1 < 2 ^ 64 ∧ x.2 < 2 ^ 64) : ((lf k x).1 < 2 ^ 64 ∧ (lf k x).2 < 2 ^ 64) ∧ ((hf k x).1 < 2 ^ 64 ∧ (hf k x).2 < 2 ^ 64) := by
  unfold lf hf
  by_cases h7 : k = 7
  · rw [if_pos h7, if_pos h7]; exact ⟨⟨Nat.two_pow_pos 64, hx.2⟩, Nat.two_pow_pos 64, hx.1⟩
  · rw [if_neg h7, if_neg h7]
    exact ⟨⟨Nat.two_pow_pos 64, Nat.lt_of_le_of_lt (Nat.mod_le _ _) hx.2⟩, Nat.two_pow_pos 64, Nat.lt_of_le_of_lt (Nat.div_le_self _ _) hx.2⟩
theorem sp_of : ∀ (d k : Nat) (x : Nat × Nat), d ≤ k → k < 8 → x.1 < 2 ^ 64 ∧ x.2 < 2 ^ 64 → ofB (k : Int) (x.1 : Int) (x.2 : Int) = true → ∀ e ∈ sp d k x, ofB ((k - d : Nat) : Int) (e.1 : Int) (e.2 : Int) = true ∧ e.1 < 2 ^ 64 ∧ e.2 < 2 ^ 64 := by
  intro d
  induction d with
  | zero => intro k x _ _ hx o e he; simp [sp] at he; subst he; exact ⟨o, hx⟩
  | succ d ih =>
    intro k x hd hk hx o e he
    have h := half_of k (by omega) hk x hx o
    have hl := half_lt k hk x hx
    have hs : k - 1 - d = k - (d + 1) := by omega
    rcases List.mem_append.1 (show e ∈ sp d (k - 1) (lf k x) ++ sp d (k - 1) (hf k x) from he) with h1 | h1
    · have := ih (k - 1) _ (by omega) (by omega) hl.1 h.1 e h1
      rwa [hs] at this
    · have := ih (k - 1) _ (by omega) (by omega) hl.2 h.2 e h1
      rwa [hs] at this
theorem sp_has : ∀ (d k : Nat) (x : Nat × Nat), d ≤ k → k < 8 → ∀ i, i < 2 ^ d → ∀ m, m < 2 ^ (k - d) → hasB ((sp d k x).getD i (0, 0)).1 ((sp d k x).getD i (0, 0)).2 m = hasB x.1 x.2 (i * 2 ^ (k - d) + m) := by
  intro d
  induction d with
  | zero =>
    intro k x _ _ i hi m _
    obtain rfl : i = 0 := by simpa using hi
    rw [Nat.zero_mul, Nat.zero_add]; rfl
  | succ d ih =>
    intro k x hd hk i hi m hm
    have hp : 2 ^ (d + 1) = 2 ^ d + 2 ^ d := by rw [Nat.pow_succ]; omega
    have hs : k - (d + 1) = k - 1 - d := by omega
    rw [hs] at hm ⊢
    have hP : 2 ^ (k - 1) = 2 ^ d * 2 ^ (k - 1 - d) := by rw [← Nat.pow_add]; congr 1; omega
    have hl : (sp d (k - 1) (lf k x)).length = 2 ^ d := sp_len _ _ _
    show hasB ((sp d (k - 1) (lf k x) ++ sp d (k - 1) (hf k x)).getD i (0, 0)).1 ((sp d (k - 1) (lf k x) ++ sp d (k - 1) (hf k x)).getD i (0, 0)).2 m = _
    by_cases h : i < 2 ^ d
    · have hb : i * 2 ^ (k - 1 - d) + m < 2 ^ (k - 1) := by
        have := Nat.mul_le_mul_right (2 ^ (k - 1 - d)) (show i + 1 ≤ 2 ^ d from h)
        rw [Nat.add_mul, Nat.one_mul, ← hP] at this
        omega
      rw [getD_append_left _ _ _ _ (by omega), ih (k - 1) _ (by omega) (by omega) i h m hm, lf_has k hk x _ hb]
    · have h2 : i - 2 ^ d < 2 ^ d := by omega
      have hb : (i - 2 ^ d) * 2 ^ (k - 1 - d) + m < 2 ^ (k - 1) := by
        have := Nat.mul_le_mul_right (2 ^ (k - 1 - d)) (show i - 2 ^ d + 1 ≤ 2 ^ d from h2)
        rw [Nat.add_mul, Nat.one_mul, ← hP] at this
        omega
      rw [getD_append_right _ _ _ _ (by omega), hl, ih (k - 1) _ (by omega) (by omega) (i - 2 ^ d) h2 m hm, hf_has k (by omega) hk x _ hb]
      congr 1
      rw [Nat.sub_mul, ← hP]
      have := Nat.mul_le_mul_right (2 ^ (k - 1 - d)) (show 2 ^ d ≤ i by omega)
      rw [← hP] at this
      omega
/-- A part of an element, bit by bit. -/
theorem sp_rx (d k : Nat) (x : Nat × Nat) (hd : d ≤ k) (hk : k < 8) (hx : x.1 < 2 ^ 64 ∧ x.2 < 2 ^ 64) (o : ofB (k : Int) (x.1 : Int) (x.2 : Int) = true) (i : Nat) (hi : i < 2 ^ d) (f : Nat → Bool) (hf : ∀ n, n < 2 ^ (k - d) → f n = hasB x.1 x.2 (i * 2 ^ (k - d) + n)) : rx f (2 ^ (k - d)) = (sp d k x).getD i (0, 0) := by
  have hl : i < (sp d k x).length := by rw [sp_len]; exact hi
  have he : (sp d k x).getD i (0, 0) ∈ sp d k x := by rw [show (sp d k x).getD i (0, 0) = (sp d k x)[i] by simp [hl]]; exact List.getElem_mem hl
  have hE := sp_of d k x hd hk hx o _ he
  have h7 : 2 ^ (k - d) ≤ 2 ^ 7 := Nat.pow_le_pow_right (by decide) (by omega)
  have e7 : (2 : Nat) ^ 7 = 128 := by decide
  refine pair_ext (rx_lt f _) hE.2 fun m hm => ?_
  rw [rx_has f _ (by omega) m hm]
  by_cases h : m < 2 ^ (k - d)
  · rw [sp_has d k x hd hk i hi m h, hf m h]; simp [h]
  · rw [of_has (by omega) hE.1 m (by omega) hm]; simp [h]
/-- What is parted is joined as it was. -/
theorem jnd_sp (d k : Nat) (x : Nat × Nat) (hd : d ≤ k) (hk : k < 8) (hx : x.1 < 2 ^ 64 ∧ x.2 < 2 ^ 64) (o : ofB (k : Int) (x.1 : Int) (x.2 : Int) = true) : jnd d k (sp d k x) = x := by
  have ho := sp_of d k x hd hk hx o
  have h7 : 2 ^ k ≤ 2 ^ 7 := Nat.pow_le_pow_right (by decide) (by omega)
  have e7 : (2 : Nat) ^ 7 = 128 := by decide
  have hQ : 0 < 2 ^ (k - d) := Nat.two_pow_pos _
  have hP : 2 ^ k = 2 ^ d * 2 ^ (k - d) := by rw [← Nat.pow_add]; congr 1; omega
  refine pair_ext (jnd_lt d k _ hd hk (sp_len d k x) (fun e he => (ho e he).2) (fun e he => (ho e he).1)) hx fun m hm => ?_
  by_cases h : m < 2 ^ k
  · rw [jnd_has d k _ hd hk (sp_len d k x) (fun e he => (ho e he).1) m h, sp_has d k x hd hk _ (by rw [Nat.div_lt_iff_lt_mul hQ, ← hP]; exact h) _ (Nat.mod_lt _ hQ), Nat.mul_comm, Nat.div_add_mod]
  · rw [of_has hk (jnd_of d k _ hd hk (sp_len d k x) (fun e he => (ho e he).1)) m (by omega) hm, of_has hk o m (by omega) hm]
/-- What is joined is parted as it was. -/
theorem sp_jnd (d k : Nat) (es : List (Nat × Nat)) (hd : d ≤ k) (hk : k < 8) (hl : es.length = 2 ^ d) (hes : ltE es) (ho : ∀ e ∈ es, ofB ((k - d : Nat) : Int) (e.1 : Int) (e.2 : Int) = true) : sp d k (jnd d k es) = es := by
  have hj := jnd_lt d k es hd hk hl hes ho
  have oj := jnd_of d k es hd hk hl ho
  have h7 : 2 ^ (k - d) ≤ 2 ^ 7 := Nat.pow_le_pow_right (by decide) (by omega)
  have e7 : (2 : Nat) ^ 7 = 128 := by decide
  have hQ : 0 < 2 ^ (k - d) := Nat.two_pow_pos _
  have hP : 2 ^ k = 2 ^ d * 2 ^ (k - d) := by rw [← Nat.pow_add]; congr 1; omega
  apply List.ext_getElem (by rw [sp_len, hl])
  intro i h1 h2
  have hi : i < 2 ^ d := by rw [sp_len] at h1; exact h1
  have g1 : (sp d k (jnd d k es))[i] = (sp d k (jnd d k es)).getD i (0, 0) := by simp [h1]
  have g2 : es[i] = es.getD i (0, 0) := by simp [h2]
  have hE := sp_of d k _ hd hk hj oj _ (List.getElem_mem h1)
  have hO := ho _ (List.getElem_mem h2)
  refine pair_ext hE.2 (hes _ (List.getElem_mem h2)) fun m hm => ?_
  by_cases h : m < 2 ^ (k - d)
  · have hb : i * 2 ^ (k - d) + m < 2 ^ k := by
      have := Nat.mul_le_mul_right (2 ^ (k - d)) (show i + 1 ≤ 2 ^ d from hi)
      rw [Nat.add_mul, Nat.one_mul, ← hP] at this
      omega
    rw [g1, g2, sp_has d k _ hd hk i hi m h, jnd_has d k es hd hk hl ho _ hb, Nat.add_comm, Nat.add_mul_div_right _ _ hQ, Nat.div_eq_of_lt h, Nat.zero_add, Nat.add_mul_mod_self_right, Nat.mod_eq_of_lt h]
  · rw [of_has (by omega) hE.1 m (by omega) hm, of_has (by omega) hO m (by omega) hm]
end Go.Proofs.Ytcejppibcemdeaa
