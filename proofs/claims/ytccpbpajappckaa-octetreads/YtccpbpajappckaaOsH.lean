/- How much is left behind each call of a reader, pure. -/
import Derived.Test.YtccpbpajappckaaOsF
namespace Go.Proofs.Ytccpbpajappckaa
open Go.RowKit

theorem num_size (s : ByteArray) (e m : Int) : (rdNum s e m).1.size ≤ s.size ∧ (e = 0 → (rdNum s e m).2.1 = 0 → (rdNum s e m).1.size + 4 ≤ s.size) := by
  unfold rdNum
  by_cases he : e = 0
  · rw [if_pos he]
    by_cases hs : s.size < 4
    · rw [if_pos hs]; exact ⟨Nat.zero_le _, fun _ h => by cases h⟩
    · rw [if_neg hs]
      by_cases hl : 2147483647 < val4 s ∨ m < val4 s
      · rw [if_pos hl]; exact ⟨Nat.zero_le _, fun _ h => by cases h⟩
      · rw [if_neg hl]
        have : (s.extract 4 s.size).size = s.size - 4 := by rw [ByteArray.size_extract]; omega
        exact ⟨by show (s.extract 4 s.size).size ≤ _; omega, fun _ _ => by show (s.extract 4 s.size).size + 4 ≤ _; omega⟩
  · rw [if_neg he]; exact ⟨Nat.le_refl _, fun h => absurd h he⟩
theorem take_size (s : ByteArray) (e n : Int) : (rdTake s e n).1.size ≤ s.size := by
  unfold rdTake
  split
  · split
    · exact Nat.zero_le _
    · show (s.extract n.toNat s.size).size ≤ _
      rw [ByteArray.size_extract]; omega
  · exact Nat.le_refl _
theorem take_err (s : ByteArray) (e n : Int) (h : (rdTake s e n).2.1 ≠ 0) : (rdTake s e n).2.2.1 = ⟨#[]⟩ := by
  unfold rdTake at h ⊢
  split
  · split
    · rfl
    · rename_i h1 h2
      rw [if_pos h1, if_neg h2] at h
      exact absurd rfl h
  · rfl
theorem take_fine (s : ByteArray) (e n : Int) (h : (rdTake s e n).2.1 = 0) : e = 0 := by
  unfold rdTake at h
  by_cases he : e = 0
  · exact he
  · rw [if_neg he] at h; exact h
theorem text_err (s : ByteArray) (e m : Int) (h : (rdText s e m).2.1 ≠ 0) : (rdText s e m).2.2 = ⟨#[]⟩ := take_err _ _ _ h
theorem text_size (s : ByteArray) (e m : Int) : (rdText s e m).1.size ≤ s.size ∧ (e = 0 → (rdText s e m).2.1 = 0 → (rdText s e m).1.size + 4 ≤ s.size) := by
  have h1 := num_size s e m
  have h2 := take_size (rdNum s e m).1 (rdNum s e m).2.1 (rdNum s e m).2.2
  refine ⟨Nat.le_trans h2 h1.1, fun he h => ?_⟩
  have h3 := h1.2 he (take_fine _ _ _ h)
  show (rdTake (rdNum s e m).1 (rdNum s e m).2.1 (rdNum s e m).2.2).1.size + 4 ≤ _
  omega
theorem elem_err (s : ByteArray) (e l : Int) (h : (rdElem s e l).2.1 ≠ 0) : (rdElem s e l).2.2 = (0, 0) := by
  unfold rdElem at h ⊢
  split
  · rename_i h1
    rw [if_pos h1] at h
    split
    · rfl
    · rename_i h2
      rw [if_neg h2] at h
      split
      · rename_i h3
        rw [if_pos h3] at h
        exact absurd rfl h
      · rfl
  · rfl
theorem elem_size (s : ByteArray) (e l : Int) : (rdElem s e l).1.size ≤ s.size ∧ (e = 0 → (rdElem s e l).2.1 = 0 → (rdElem s e l).1.size + 1 ≤ s.size) := by
  obtain ⟨wn, hwn, _⟩ := wide_nat l
  unfold rdElem rdHas
  by_cases he : e = 0
  · rw [if_pos he]
    cases hl : levelB l
    · exact ⟨Nat.zero_le _, fun _ h => by cases h⟩
    · have hw : 0 < wn := by
        rcases Nat.eq_zero_or_pos wn with h | h
        · subst h
          have := (wide_level l).1 hwn
          rw [hl] at this; cases this
        · exact h
      rw [if_pos rfl, if_pos rfl, hwn]
      by_cases hs : (s.size : Int) < (wn : Int)
      · rw [if_pos hs]; exact ⟨Nat.zero_le _, fun _ h => by cases h⟩
      · rw [if_neg hs]
        split
        · have : (s.extract (wn : Int).toNat s.size).size = s.size - wn := by rw [ByteArray.size_extract, Int.toNat_natCast]; omega
          exact ⟨by show (s.extract (wn : Int).toNat s.size).size ≤ _; omega, fun _ _ => by show (s.extract (wn : Int).toNat s.size).size + 1 ≤ _; omega⟩
        · exact ⟨Nat.zero_le _, fun _ h => by cases h⟩
  · rw [if_neg he]
    exact ⟨Nat.le_refl _, fun h => absurd h he⟩
theorem texts_size (long : Int) : ∀ (n : Nat) (s : ByteArray) (acc : List ByteArray), (rdTexts long n s acc).1.size ≤ s.size ∧ ∀ ss, (rdTexts long n s acc).2.2 = some ss → ss.length ≤ acc.length + s.size
  | 0, s, acc => ⟨Nat.le_refl _, fun ss h => by injection h with h; subst h; omega⟩
  | n + 1, s, acc => by
    have h1 := text_size s 0 long
    rw [show rdTexts long (n + 1) s acc = if (rdText s 0 long).2.1 = 0 then rdTexts long n (rdText s 0 long).1 (acc ++ [(rdText s 0 long).2.2]) else ((rdText s 0 long).1, (rdText s 0 long).2.1, none) from rfl]
    by_cases h : (rdText s 0 long).2.1 = 0
    · rw [if_pos h]
      have h2 := texts_size long n (rdText s 0 long).1 (acc ++ [(rdText s 0 long).2.2])
      have h3 := h1.2 rfl h
      refine ⟨by omega, fun ss hs => ?_⟩
      have := h2.2 ss hs
      rw [List.length_append, List.length_singleton] at this
      omega
    · rw [if_neg h]
      exact ⟨h1.1, fun ss hs => by cases hs⟩
theorem elms_size (l : Int) : ∀ (n : Nat) (s : ByteArray) (acc : List (Nat × Nat)), (rdElms l n s acc).1.size ≤ s.size ∧ ∀ ss, (rdElms l n s acc).2.2 = some ss → ss.length ≤ acc.length + s.size
  | 0, s, acc => ⟨Nat.le_refl _, fun ss h => by injection h with h; subst h; omega⟩
  | n + 1, s, acc => by
    have h1 := elem_size s 0 l
    rw [show rdElms l (n + 1) s acc = if (rdElem s 0 l).2.1 = 0 then rdElms l n (rdElem s 0 l).1 (acc ++ [(rdElem s 0 l).2.2]) else ((rdElem s 0 l).1, (rdElem s 0 l).2.1, none) from rfl]
    by_cases h : (rdElem s 0 l).2.1 = 0
    · rw [if_pos h]
      have h2 := elms_size l n (rdElem s 0 l).1 (acc ++ [(rdElem s 0 l).2.2])
      have h3 := h1.2 rfl h
      refine ⟨by omega, fun ss hs => ?_⟩
      have := h2.2 ss hs
      rw [List.length_append, List.length_singleton] at this
      omega
    · rw [if_neg h]
      exact ⟨h1.1, fun ss hs => by cases hs⟩
theorem list_size (s : ByteArray) (e m long : Int) : (rdList s e m long).1.size ≤ s.size ∧ ((rdList s e m long).2.2.getD []).length ≤ s.size := by
  have h1 := num_size s e m
  unfold rdList
  by_cases h : (rdNum s e m).2.1 = 0
  · rw [if_pos h]
    have h2 := texts_size long (rdNum s e m).2.2.toNat (rdNum s e m).1 []
    refine ⟨by omega, ?_⟩
    cases ho : (rdTexts long (rdNum s e m).2.2.toNat (rdNum s e m).1 []).2.2 with
    | none => exact Nat.zero_le _
    | some ss =>
      have := h2.2 ss ho
      show ss.length ≤ _
      simp at this
      omega
  · rw [if_neg h]; exact ⟨h1.1, Nat.zero_le _⟩
theorem elems_size (s : ByteArray) (e l m : Int) : (rdElems s e l m).1.size ≤ s.size ∧ ((rdElems s e l m).2.2.getD []).length ≤ s.size := by
  have h1 := num_size s e m
  unfold rdElems
  by_cases hh : (rdHas s e l).2.2 = true
  · rw [if_pos hh]
    by_cases h : (rdNum s e m).2.1 = 0
    · rw [if_pos h]
      have h2 := elms_size l (rdNum s e m).2.2.toNat (rdNum s e m).1 []
      refine ⟨by omega, ?_⟩
      cases ho : (rdElms l (rdNum s e m).2.2.toNat (rdNum s e m).1 []).2.2 with
      | none => exact Nat.zero_le _
      | some ss =>
        have := h2.2 ss ho
        show ss.length ≤ _
        simp at this
        omega
    · rw [if_neg h]; exact ⟨h1.1, Nat.zero_le _⟩
  · rw [if_neg hh]
    refine ⟨?_, Nat.zero_le _⟩
    show (rdHas s e l).1.size ≤ _
    unfold rdHas
    split
    · split
      · exact Nat.le_refl _
      · exact Nat.zero_le _
    · exact Nat.le_refl _
theorem TxS.row {w : World} {v : Value} {o : Option (List ByteArray)} (h : TxS w v o) : ∃ a cap, v = .slice a (o.getD []).length cap ∧ StrRow w a (o.getD []) := by
  cases o with
  | none => exact ⟨none, 0, h, .inl rfl⟩
  | some ss => exact h
theorem ElS.row {w : World} {v : Value} {o : Option (List (Nat × Nat))} (h : ElS w v o) : ∃ a cap, v = .slice a (o.getD []).length cap ∧ ERow w a (o.getD []) := by
  cases o with
  | none => exact ⟨none, 0, h, ⟨fun i hi => by simp at hi⟩⟩
  | some ss => exact h
theorem ElR.row {w : World} {v : Value} {o : Option (List (Nat × Nat))} (h : ElR w v o) : ∃ a cap, v = .slice a (o.getD []).length cap ∧ ERow w a (o.getD []) := by
  cases o with
  | none => exact ⟨none, 0, h, ⟨fun i hi => by simp at hi⟩⟩
  | some ss => exact h
end Go.Proofs.Ytccpbpajappckaa
