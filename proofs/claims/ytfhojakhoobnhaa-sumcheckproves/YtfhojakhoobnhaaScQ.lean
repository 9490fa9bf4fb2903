/- How many lists of two elements lead a false claim to a true one, no Go in sight. -/
import Derived.Test.YtfhojakhoobnhaaScK
namespace Go.Proofs.Ytfhojakhoobnhaa
namespace Sc
open Cb Ln
open Tw (pm)

/-- A sum of numbers. -/
def tot (C : Nat → Nat) : Nat → Nat
  | 0 => 0
  | i + 1 => tot C i + C i
theorem tot_le {C : Nat → Nat} {A : Nat → Bool} {s d : Nat} : ∀ n, (∀ i, i < n → C i ≤ if A i = true then s else d) → tot C n ≤ cnt A n * s + n * d
  | 0, _ => by simp [tot]
  | n + 1, h => by
    have h1 := tot_le n fun i hi => h i (by omega)
    have h2 := h n (by omega)
    have e : cnt A (n + 1) = cnt A n + if A n = true then 1 else 0 := rfl
    rw [tot, e, Nat.add_mul, Nat.succ_mul]
    by_cases hA : A n = true
    · rw [if_pos hA] at h2 ⊢; omega
    · rw [if_neg hA] at h2 ⊢; omega
theorem tot_none {C : Nat → Nat} : ∀ n, (∀ i, i < n → C i = 0) → tot C n = 0
  | 0, _ => rfl
  | n + 1, h => by rw [tot, tot_none n fun i hi => h i (by omega), h n (by omega)]
/-- Is the claim that rounds lead to the true one? -/
def okB (k : Nat) (l : List Stp) (ts : List (List (Nat × Nat))) (c : Nat × Nat) (f : List (Nat × Nat)) (g : List (List (Nat × Nat))) (i j : Nat) : Bool :=
  decide ((vfR (k : Int) (dgm l : Int) c [f, tb g i] [pl i, pl j]).2 = 0 ∧ lv l (cor (bnds ts [pl i, pl j]) 0) = (vfR (k : Int) (dgm l : Int) c [f, tb g i] [pl i, pl j]).1)
theorem okB_is {k : Nat} {l : List Stp} {ts : List (List (Nat × Nat))} {c : Nat × Nat} {f : List (Nat × Nat)} {g : List (List (Nat × Nat))} {i j : Nat} (h : okB k l ts c f g i j = true) :
    f.length = dgm l + 1 ∧ (tb g i).length = dgm l + 1 ∧ ends f = c ∧ ends (tb g i) = atv f (pl i) ∧ atv (tb g i) (pl j) = lv l (cor (bnds ts [pl i, pl j]) 0) := by
  obtain ⟨h1, h2⟩ := of_decide_eq_true h
  by_cases h0 : vhn (k : Int) (dgm l : Int) c [f, tb g i] [pl i, pl j] = 0
  · obtain ⟨k', n', _, _, _, _, en, _, _, hlen, _, _, _⟩ := vhn_zero h0
    have en' : dgm l = n' := by omega
    unfold vfR at h1 h2
    rw [if_pos h0] at h1 h2
    have hv : vfy c [f, tb g i] [pl i, pl j] = if ends f = c then (if ends (tb g i) = atv f (pl i) then some (atv (tb g i) (pl j)) else none) else none := rfl
    rw [hv] at h1 h2
    by_cases e1 : ends f = c
    · rw [if_pos e1] at h1 h2
      by_cases e2 : ends (tb g i) = atv f (pl i)
      · rw [if_pos e2] at h1 h2
        exact ⟨by rw [hlen f (by simp), en'], by rw [hlen (tb g i) (by simp), en'], e1, e2, h2.symm⟩
      · rw [if_neg e2] at h1; exact absurd h1 (by decide)
    · rw [if_neg e1] at h1; exact absurd h1 (by decide)
  · unfold vfR at h1
    rw [if_neg h0] at h1
    exact absurd h1 h0
theorem counts {k : Nat} {l : List Stp} {ts : List (List (Nat × Nat))} (hF : Fine k 2 l ts) (hl : ∀ o ∈ l, o.ok) (ht : ltT ts) {c : Nat × Nat} {f : List (Nat × Nat)} {g : List (List (Nat × Nat))} {s : Nat} (hs : s ≤ 2 ^ 64) (hp : ∀ i, i < s → ofE k (pl i)) (hc : ¬ sv l ts (2 ^ 2) = c) (hf : ltE f) (hg : ltT g) :
    tot (fun i => cnt (okB k l ts c f g i) s) s ≤ 2 * dgm l * s := by
  have hd9 : dgm l + 1 ≤ 2 ^ 64 := Nat.le_trans (by have := hF.d8; omega : dgm l + 1 ≤ 9) (by decide)
  by_cases hex : ∃ i j, i < s ∧ j < s ∧ okB k l ts c f g i j = true
  case neg =>
    rw [tot_none s fun i hi => cnt_none fun j hj h => hex ⟨i, j, hi, hj, h⟩]
    exact Nat.zero_le _
  obtain ⟨i0, j0, hi0, hj0, h0⟩ := hex
  obtain ⟨lf, _, ef, _, _⟩ := okB_is h0
  have hlen2 : lenT ts (2 * 2 ^ 1) := hF.len
  obtain ⟨_, hr1, hsp1⟩ := split_ver (n := 1) hF hl ht (r := pl i0) (hp i0 hi0)
  have hne : f ≠ rnd l ts (2 ^ 1) := fun e => hc (by
    rw [← ef, e, ends_xa (by rw [rnd_len]; unfold dgm; omega)]
    exact hsp1.symm)
  have hA := atv_apart hf hr1 (by rw [rnd_len, lf]) hne s hs (by rw [lf]; exact hd9)
  rw [lf, show dgm l + 1 - 1 = dgm l by omega] at hA
  refine Nat.le_trans (tot_le (A := fun i => decide (atv f (pl i) = atv (rnd l ts (2 ^ 1)) (pl i))) (s := s) (d := dgm l) s fun i hi => ?_) ?_
  · by_cases hAi : atv f (pl i) = atv (rnd l ts (2 ^ 1)) (pl i)
    · rw [if_pos (by simp [hAi])]
      have : cnt (okB k l ts c f g i) s ≤ cnt (fun _ => true) s := cnt_le fun _ _ _ => rfl
      rw [cnt_all fun _ _ => rfl] at this
      exact this
    · rw [if_neg (by simp [hAi])]
      by_cases hex2 : ∃ j, j < s ∧ okB k l ts c f g i j = true
      · obtain ⟨j1, hj1, h1⟩ := hex2
        obtain ⟨_, lg, _, eg, _⟩ := okB_is h1
        have hFi : Fine k 1 l (bnd ts (pl i)) := hF.bnd (hp i hi)
        obtain ⟨_, hr2, hsp2⟩ := split_ver (n := 0) hFi hl (ltT_bnd ht _) (r := pl j1) (hp j1 hj1)
        have hat : atv (rnd l ts (2 ^ 1)) (pl i) = sv l (bnd ts (pl i)) (2 ^ 1) := rnd_at hF.k8 hl hF.chkF hlen2 ht hF.oft hF.d8 (hp i hi)
        have hne2 : tb g i ≠ rnd l (bnd ts (pl i)) (2 ^ 0) := fun e => hAi (by
          rw [← eg, e, ends_xa (by rw [rnd_len]; unfold dgm; omega), hsp2, hat])
        have hB := atv_apart (hg.at i) hr2 (by rw [rnd_len, lg]) hne2 s hs (by rw [lg]; exact hd9)
        rw [lg, show dgm l + 1 - 1 = dgm l by omega] at hB
        refine Nat.le_trans (cnt_le fun j hj h => ?_) hB
        obtain ⟨_, _, _, _, e5⟩ := okB_is h
        have hat2 : atv (rnd l (bnd ts (pl i)) (2 ^ 0)) (pl j) = sv l (bnd (bnd ts (pl i)) (pl j)) (2 ^ 0) := rnd_at hF.k8 hl hFi.chkF hFi.len (ltT_bnd ht _) hFi.oft hF.d8 (hp j hj)
        have e6 : sv l (bnd (bnd ts (pl i)) (pl j)) (2 ^ 0) = lv l (cor (bnds ts [pl i, pl j]) 0) := by
          show xa (0, 0) (lv l (cor (bnd (bnd ts (pl i)) (pl j)) 0)) = _
          rw [zero_xa]
          rfl
        simp only [decide_eq_true_eq]
        rw [e5, hat2, e6]
      · rw [cnt_none fun j hj h => hex2 ⟨j, hj, h⟩]
        exact Nat.zero_le _
  · have h1 : cnt (fun i => decide (atv f (pl i) = atv (rnd l ts (2 ^ 1)) (pl i))) s * s ≤ dgm l * s := Nat.mul_le_mul_right s hA
    rw [Nat.mul_comm s, Nat.mul_assoc, Nat.two_mul]
    omega
end Sc
end Go.Proofs.Ytfhojakhoobnhaa
