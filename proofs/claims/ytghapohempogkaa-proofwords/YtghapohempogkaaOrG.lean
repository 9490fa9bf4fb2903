/- Elements that are read, written again: without the program. -/
import Derived.Test.YtghapohempogkaaOrF
namespace Go.Proofs.Ytghapohempogkaa
open Go.RowKit

theorem rdHas_ok {s : ByteArray} {l : Int} (h : (rdHas s 0 l).2.1 = 0) : levelB l = true ∧ rdHas s 0 l = (s, 0, true) := by
  unfold rdHas at h ⊢
  rw [if_pos rfl] at h ⊢
  by_cases h1 : levelB l = true
  · rw [if_pos h1]; exact ⟨h1, rfl⟩
  · rw [if_neg h1] at h; cases h
theorem rdElem_back (s : ByteArray) (l : Int) (h : (rdElem s 0 l).2.1 = 0) : ((rdElem s 0 l).2.2.1 < 2 ^ 64 ∧ (rdElem s 0 l).2.2.2 < 2 ^ 64) ∧ ofB l ((rdElem s 0 l).2.2.1 : Int) ((rdElem s 0 l).2.2.2 : Int) = true ∧ s.data.toList = (elemS l ((rdElem s 0 l).2.2.1 : Int) ((rdElem s 0 l).2.2.2 : Int)).data.toList ++ (rdElem s 0 l).1.data.toList := by
  obtain ⟨wn, hwn, hw16⟩ := wide_nat2 l
  unfold rdElem at h ⊢
  by_cases hh : (rdHas s 0 l).2.2 = true
  · rw [if_pos hh] at h ⊢
    rw [hwn, Int.toNat_natCast] at h ⊢
    by_cases hs : (s.size : Int) < (wn : Int)
    · rw [if_pos hs] at h; cases h
    · rw [if_neg hs] at h ⊢
      by_cases hof : ofB l ((lwv (s.extract 0 wn) wn).1 : Int) ((lwv (s.extract 0 wn) wn).2 : Int) = true
      · rw [if_pos hof]
        have hsz : (s.extract 0 wn).size = wn := by rw [ByteArray.size_extract]; omega
        refine ⟨lwv_lt _ _ hw16, hof, ?_⟩
        dsimp only
        rw [elem_back l (s.extract 0 wn) wn hwn hw16 hsz hof]
        exact take_back s wn
      · rw [if_neg hof] at h; cases h
  · rw [if_neg hh] at h
    have := (rdHas_ok h).2
    rw [this] at hh
    exact absurd rfl hh
theorem rdElms_back (l : Int) : ∀ (n : Nat) (s : ByteArray) (acc : List (Nat × Nat)), (rdElms l n s acc).2.1 = 0 → ∃ new, (rdElms l n s acc).2.2 = some (acc ++ new) ∧ new.length = n ∧ ltE new ∧ allB l new = true ∧ s.data.toList = elemsL l new ++ (rdElms l n s acc).1.data.toList
  | 0, s, acc, _ => ⟨[], by simp [rdElms], rfl, fun t ht => by simp at ht, rfl, by simp [elemsL, rdElms]⟩
  | n + 1, s, acc, h => by
    unfold rdElms at h ⊢
    by_cases h1 : (rdElem s 0 l).2.1 = 0
    · rw [if_pos h1] at h ⊢
      obtain ⟨new, e1, e2, e3, e5, e4⟩ := rdElms_back l n _ _ h
      obtain ⟨hm, hof, e⟩ := rdElem_back s l h1
      refine ⟨(rdElem s 0 l).2.2 :: new, by rw [e1]; simp, by simp [e2], fun t ht => ?_, ?_, ?_⟩
      · rcases List.mem_cons.1 ht with rfl | ht
        · exact hm
        · exact e3 t ht
      · unfold allB at e5 ⊢
        rw [List.all_cons, e5, hof]
        rfl
      · rw [e, e4]
        simp [elemsL]
    · rw [if_neg h1] at h
      exact absurd h h1
theorem rdElems_back (s : ByteArray) (l m : Int) (h : (rdElems s 0 l m).2.1 = 0) : ∃ es, (rdElems s 0 l m).2.2 = some es ∧ (es.length : Int) ≤ m ∧ ltE es ∧ s.data.toList = (elemsS l es).data.toList ++ (rdElems s 0 l m).1.data.toList := by
  unfold rdElems at h ⊢
  have hp := rdNum_pos s 0 m
  by_cases hh : (rdHas s 0 l).2.2 = true
  · rw [if_pos hh] at h ⊢
    have hlv : levelB l = true := by
      unfold rdHas at hh
      rw [if_pos rfl] at hh
      by_cases h0 : levelB l = true
      · exact h0
      · rw [if_neg h0] at hh; cases hh
    have hw : ¬ wideI l = 0 := by
      rcases level_cases l hlv with rfl | rfl | rfl | rfl | rfl | rfl | rfl | rfl <;> decide
    by_cases h1 : (rdNum s 0 m).2.1 = 0
    · rw [if_pos h1] at h ⊢
      obtain ⟨_, hm, e⟩ := rdNum_back s m h1
      obtain ⟨new, e1, e2, e3, e5, e4⟩ := rdElms_back l _ _ _ h
      have hl : (new.length : Int) = (rdNum s 0 m).2.2 := by rw [e2, Int.toNat_of_nonneg hp.1]
      refine ⟨new, by rw [e1]; simp, by omega, e3, ?_⟩
      unfold elemsS
      rw [if_neg hw, if_pos e5, hl, e, e4]
      simp
    · rw [if_neg h1] at h
      exact absurd h h1
  · rw [if_neg hh] at h
    have := (rdHas_ok h).2
    rw [this] at hh
    exact absurd rfl hh
/-- The part ahead of what is left. -/
theorem front {s a r : ByteArray} (h : s.data.toList = a.data.toList ++ r.data.toList) : s.extract 0 (s.size - r.size) = a := by
  refine ba_ext ?_
  have hs : s.size = a.size + r.size := by rw [← data_size, h, List.length_append, data_size, data_size]
  rw [ByteArray.data_extract, Array.toList_extract]
  simp only [List.extract, Nat.sub_zero, List.drop_zero]
  rw [h, hs, Nat.add_sub_cancel, List.take_append_of_le_length (by rw [data_size]; exact Nat.le_refl _), List.take_of_length_le (by rw [data_size]; exact Nat.le_refl _)]
end Go.Proofs.Ytghapohempogkaa
