/- Elements that are written are read as they were: without the program. -/
import Derived.Test.YtghapohempogkaaOrI
namespace Go.Proofs.Ytghapohempogkaa
open Go.RowKit

theorem mod_more (x n : Nat) : x % 2 ^ (8 * (n + 1)) = x % 2 ^ (8 * n) + x / 2 ^ (8 * n) % 256 * 2 ^ (8 * n) := by
  rw [show 8 * (n + 1) = 8 * n + 8 by omega, Nat.pow_add, Nat.mod_mul, Nat.mul_comm (2 ^ (8 * n))]
theorem lwv_mod (s : ByteArray) (x : Nat) : ∀ n, n ≤ 8 → (∀ i, i < n → byt s i = x / 2 ^ (8 * i) % 256) → (lwv s n).2 = x % 2 ^ (8 * n)
  | 0, _, _ => by simp [lwv, Nat.mod_one]
  | n + 1, h, hb => by
    have e : (lwv s (n + 1)).2 = (lwv s n).2 + byt s n * 2 ^ (8 * n) := by show (if n < 8 then _ else _ : Nat × Nat).2 = _; rw [if_pos (by omega)]
    rw [e, lwv_mod s x n (by omega) (fun i hi => hb i (by omega)), hb n (by omega), mod_more]
theorem lwv_mod2 (s : ByteArray) (x : Nat) : ∀ n, n ≤ 8 → (∀ i, i < n → byt s (8 + i) = x / 2 ^ (8 * i) % 256) → (lwv s (8 + n)).1 = x % 2 ^ (8 * n)
  | 0, _, _ => by
    show (lwv s 8).1 = _
    rw [(lwv_lo s 8 (Nat.le_refl _)).1]
    simp [Nat.mod_one]
  | n + 1, h, hb => by
    have e0 : lwv s ((8 + n) + 1) = ((lwv s (8 + n)).1 + byt s (8 + n) * 2 ^ (8 * (8 + n - 8)), (lwv s (8 + n)).2) := by show (if 8 + n < 8 then _ else _) = _; rw [if_neg (by omega)]
    show (lwv s ((8 + n) + 1)).1 = _
    rw [e0]
    show (lwv s (8 + n)).1 + byt s (8 + n) * 2 ^ (8 * (8 + n - 8)) = _
    rw [show 8 + n - 8 = n by omega, lwv_mod2 s x n (by omega) (fun i hi => hb i (by omega)), hb n (by omega), mod_more]
theorem byt_by (h l wn i : Nat) (hi : i < wn) : byt (strOfNums (byL h l wn)) i = byN h l i := by
  have hb := by_lt h l i
  unfold byt
  rw [getD_list]
  simp [strOfNums, byL, List.getD, hi]
  omega
theorem lwv_by (l : Int) (e : Nat × Nat) (wn : Nat) (hwn : wideI l = (wn : Int)) (hw : wn ≤ 16) (h1 : e.1 < 2 ^ 64) (h2 : e.2 < 2 ^ 64) (hof : ofB l (e.1 : Int) (e.2 : Int) = true) : lwv (strOfNums (byL e.1 e.2 wn)) wn = e := by
  have hlv : levelB l = true := by simp [ofB] at hof; exact hof.1
  by_cases h7 : l = 7
  · subst h7
    obtain rfl : wn = 16 := by simp [wideI] at hwn; omega
    have a1 := lwv_mod2 (strOfNums (byL e.1 e.2 16)) e.1 8 (Nat.le_refl _) (fun i hi => by rw [byt_by _ _ _ _ (by omega)]; unfold byN; rw [if_neg (by omega), show 8 + i - 8 = i by omega])
    have a2 := lwv_mod (strOfNums (byL e.1 e.2 16)) e.2 8 (Nat.le_refl _) (fun i hi => by rw [byt_by _ _ _ _ (by omega)]; unfold byN; rw [if_pos hi])
    have a3 := lwv_hi2 (strOfNums (byL e.1 e.2 16)) 8 (Nat.le_refl _)
    refine Prod.ext ?_ ?_
    · rw [show (16 : Nat) = 8 + 8 from rfl, a1]
      exact Nat.mod_eq_of_lt h1
    · rw [show (16 : Nat) = 8 + 8 from rfl, a3, a2]
      exact Nat.mod_eq_of_lt h2
  · have ho := (ofB_iff l.toNat e.1 e.2 (by have := level_cases l hlv; omega)).1 (by rw [Int.toNat_of_nonneg (by have := level_cases l hlv; omega)]; exact hof)
    have h70 : ¬ l.toNat = 7 := by have := level_cases l hlv; omega
    obtain ⟨g1, g2⟩ := ho.resolve_left h70
    have hlt : wn ≤ 8 ∧ e.2 < 2 ^ (8 * wn) := by
      rcases level_cases l hlv with rfl | rfl | rfl | rfl | rfl | rfl | rfl | rfl
      · obtain rfl : wn = 1 := by simp [wideI] at hwn; omega
        exact ⟨by decide, Nat.lt_of_lt_of_le g2 (by decide)⟩
      · obtain rfl : wn = 1 := by simp [wideI] at hwn; omega
        exact ⟨by decide, Nat.lt_of_lt_of_le g2 (by decide)⟩
      · obtain rfl : wn = 1 := by simp [wideI] at hwn; omega
        exact ⟨by decide, Nat.lt_of_lt_of_le g2 (by decide)⟩
      · obtain rfl : wn = 1 := by simp [wideI] at hwn; omega
        exact ⟨by decide, Nat.lt_of_lt_of_le g2 (by decide)⟩
      · obtain rfl : wn = 2 := by simp [wideI] at hwn; omega
        exact ⟨by decide, Nat.lt_of_lt_of_le g2 (by decide)⟩
      · obtain rfl : wn = 4 := by simp [wideI] at hwn; omega
        exact ⟨by decide, Nat.lt_of_lt_of_le g2 (by decide)⟩
      · obtain rfl : wn = 8 := by simp [wideI] at hwn; omega
        exact ⟨by decide, Nat.lt_of_lt_of_le g2 (by decide)⟩
      · exact absurd rfl h7
    have a1 := lwv_lo (strOfNums (byL e.1 e.2 wn)) wn hlt.1
    have a2 := lwv_mod (strOfNums (byL e.1 e.2 wn)) e.2 wn hlt.1 (fun i hi => by rw [byt_by _ _ _ _ hi]; unfold byN; rw [if_pos (by omega)])
    refine Prod.ext ?_ ?_
    · rw [a1.1, g1]
    · rw [a2]
      exact Nat.mod_eq_of_lt hlt.2
theorem elem_fwd {s t : ByteArray} {l : Int} {e : Nat × Nat} (h1 : e.1 < 2 ^ 64) (h2 : e.2 < 2 ^ 64) (hof : ofB l (e.1 : Int) (e.2 : Int) = true) (h : s.data.toList = (elemS l (e.1 : Int) (e.2 : Int)).data.toList ++ t.data.toList) : rdElem s 0 l = (t, 0, e) := by
  obtain ⟨wn, hwn, hw16⟩ := wide_nat2 l
  have hlv : levelB l = true := by simp [ofB] at hof; exact hof.1
  have hS : elemS l (e.1 : Int) (e.2 : Int) = strOfNums (byL e.1 e.2 wn) := by
    unfold elemS
    rw [if_pos hof, hwn, Int.toNat_natCast, byL_low _ _ wn h1 h2 hw16]
  rw [hS] at h
  have hl : (strOfNums (byL e.1 e.2 wn)).data.toList.length = wn := by simp [strOfNums, byL]
  obtain ⟨e1, e2, e3⟩ := rest_of h
  rw [hl] at e1 e2 e3
  have e2' : s.extract 0 wn = strOfNums (byL e.1 e.2 wn) := by rw [e2]
  have hh : rdHas s 0 l = (s, 0, true) := by unfold rdHas; rw [if_pos rfl, if_pos hlv]
  unfold rdElem
  rw [hh]
  dsimp only
  rw [if_pos rfl, hwn, Int.toNat_natCast, if_neg (by omega), e2', lwv_by l e wn hwn hw16 h1 h2 hof, if_pos hof, e1]
theorem elms_fwd {t : ByteArray} {l : Int} : ∀ (es : List (Nat × Nat)) (s : ByteArray) (acc : List (Nat × Nat)), ltE es → allB l es = true → s.data.toList = elemsL l es ++ t.data.toList → rdElms l es.length s acc = (t, 0, some (acc ++ es))
  | [], s, acc, _, _, h => by
    have e : s = t := ba_ext (by simpa [elemsL] using h)
    rw [e]
    simp [rdElms]
  | e :: es, s, acc, hu, ha, h => by
    have ha2 : ofB l (e.1 : Int) (e.2 : Int) = true ∧ allB l es = true := by unfold allB at ha ⊢; rw [List.all_cons, Bool.and_eq_true] at ha; exact ha
    obtain ⟨g1, g2⟩ := hu e (by simp)
    have r := elem_fwd (s := s) (t := ⟨(elemsL l es ++ t.data.toList).toArray⟩) g1 g2 ha2.1 (by rw [h]; simp [elemsL])
    show (if (rdElem s 0 l).2.1 = 0 then rdElms l es.length (rdElem s 0 l).1 (acc ++ [(rdElem s 0 l).2.2]) else _) = _
    rw [r]
    dsimp only
    rw [if_pos rfl, elms_fwd es _ (acc ++ [e]) (fun v hv => hu v (by simp [hv])) ha2.2 rfl]
    simp
end Go.Proofs.Ytghapohempogkaa
