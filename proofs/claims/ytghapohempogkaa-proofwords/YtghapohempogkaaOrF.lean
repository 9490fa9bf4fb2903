/- What is read, written again, are the bytes that stood there: without the program. -/
import Derived.Test.YtghapohempogkaaOrE
import Derived.Test.YtghapohempogkaaPRefA
namespace Go.Proofs.Ytghapohempogkaa
open Go.RowKit

theorem lwv_digit (s : ByteArray) : ∀ n, n ≤ 8 → ∀ i, i < n → (lwv s n).2 / 2 ^ (8 * i) % 256 = byt s i
  | 0, _, i, hi => by omega
  | n + 1, h, i, hi => by
    have hb := byt_lt s n
    have hl := (lwv_lo s n (by omega)).2
    have e : (lwv s (n + 1)).2 = (lwv s n).2 + byt s n * 2 ^ (8 * n) := by show (if n < 8 then _ else _ : Nat × Nat).2 = _; rw [if_pos (by omega)]
    rw [e]
    by_cases hin : i = n
    · subst hin
      rw [Nat.add_mul_div_right _ _ (Nat.two_pow_pos _), Nat.div_eq_of_lt hl, Nat.zero_add, Nat.mod_eq_of_lt hb]
    · have ih := lwv_digit s n (by omega) i (by omega)
      obtain ⟨d, hd⟩ : ∃ d, n = i + 1 + d := ⟨n - i - 1, by omega⟩
      have e2 : byt s n * 2 ^ (8 * n) = (byt s n * 2 ^ (8 * d) * 256) * 2 ^ (8 * i) := by
        rw [show 8 * n = 8 * d + 8 + 8 * i by omega, Nat.pow_add, Nat.pow_add]
        simp [Nat.mul_assoc]
      rw [e2, Nat.add_mul_div_right _ _ (Nat.two_pow_pos _), Nat.add_mul_mod_self_right]
      exact ih
theorem lwv_hi2 (s : ByteArray) : ∀ n, n ≤ 8 → (lwv s (8 + n)).2 = (lwv s 8).2
  | 0, _ => rfl
  | n + 1, h => by
    show (lwv s ((8 + n) + 1)).2 = _
    have e : (lwv s ((8 + n) + 1)).2 = (lwv s (8 + n)).2 := by show (if 8 + n < 8 then _ else _ : Nat × Nat).2 = _; rw [if_neg (by omega)]
    rw [e]
    exact lwv_hi2 s n (by omega)
theorem lwv_digit2 (s : ByteArray) : ∀ n, n ≤ 8 → ∀ i, i < n → (lwv s (8 + n)).1 / 2 ^ (8 * i) % 256 = byt s (8 + i)
  | 0, _, i, hi => by omega
  | n + 1, h, i, hi => by
    have hb := byt_lt s (8 + n)
    have hl := (lwv_hi s n (by omega)).1
    have e0 : lwv s ((8 + n) + 1) = ((lwv s (8 + n)).1 + byt s (8 + n) * 2 ^ (8 * (8 + n - 8)), (lwv s (8 + n)).2) := by show (if 8 + n < 8 then _ else _) = _; rw [if_neg (by omega)]
    have e : (lwv s (8 + (n + 1))).1 = (lwv s (8 + n)).1 + byt s (8 + n) * 2 ^ (8 * n) := by
      show (lwv s ((8 + n) + 1)).1 = _
      rw [e0]
      show _ + byt s (8 + n) * 2 ^ (8 * (8 + n - 8)) = _
      rw [show 8 + n - 8 = n by omega]
    rw [e]
    by_cases hin : i = n
    · subst hin
      rw [Nat.add_mul_div_right _ _ (Nat.two_pow_pos _), Nat.div_eq_of_lt hl, Nat.zero_add, Nat.mod_eq_of_lt hb]
    · have ih := lwv_digit2 s n (by omega) i (by omega)
      obtain ⟨d, hd⟩ : ∃ d, n = i + 1 + d := ⟨n - i - 1, by omega⟩
      have e2 : byt s (8 + n) * 2 ^ (8 * n) = (byt s (8 + n) * 2 ^ (8 * d) * 256) * 2 ^ (8 * i) := by
        rw [show 8 * n = 8 * d + 8 + 8 * i by omega, Nat.pow_add, Nat.pow_add]
        simp [Nat.mul_assoc]
      rw [e2, Nat.add_mul_div_right _ _ (Nat.two_pow_pos _), Nat.add_mul_mod_self_right]
      exact ih
theorem by_back (t : ByteArray) (wn i : Nat) (hw : wn ≤ 16) (hi : i < wn) : byN (lwv t wn).1 (lwv t wn).2 i = byt t i := by
  unfold byN
  by_cases h8 : i < 8
  · rw [if_pos h8]
    by_cases hw8 : wn ≤ 8
    · exact lwv_digit t wn hw8 i hi
    · obtain ⟨d, rfl⟩ : ∃ d, wn = 8 + d := ⟨wn - 8, by omega⟩
      rw [lwv_hi2 t d (by omega)]
      exact lwv_digit t 8 (Nat.le_refl _) i h8
  · rw [if_neg h8]
    obtain ⟨d, rfl⟩ : ∃ d, wn = 8 + d := ⟨wn - 8, by omega⟩
    obtain ⟨j, rfl⟩ : ∃ j, i = 8 + j := ⟨i - 8, by omega⟩
    rw [show 8 + j - 8 = j by omega]
    exact lwv_digit2 t d (by omega) j (by omega)
theorem elem_back (l : Int) (t : ByteArray) (wn : Nat) (hwn : wideI l = (wn : Int)) (hw : wn ≤ 16) (ht : t.size = wn) (hof : ofB l ((lwv t wn).1 : Int) ((lwv t wn).2 : Int) = true) : elemS l ((lwv t wn).1 : Int) ((lwv t wn).2 : Int) = t := by
  obtain ⟨h1, h2⟩ := lwv_lt t wn hw
  unfold elemS
  rw [if_pos hof, hwn, Int.toNat_natCast, byL_low _ _ wn h1 h2 hw]
  refine ba_ext ?_
  have hl : t.data.toList.length = wn := by rw [data_size]; exact ht
  refine List.ext_getElem (by rw [hl]; simp [strOfNums, byL]) fun i h3 h4 => ?_
  have hi : i < wn := by omega
  have e := by_back t wn i hw hi
  simp only [strOfNums, byL, List.map_map, List.getElem_map, List.getElem_range, Function.comp]
  rw [e]
  unfold byt
  have hi2 : i < t.size := by omega
  simp [Array.getD, hi2]
theorem take_back (s : ByteArray) (n : Nat) : s.data.toList = (s.extract 0 n).data.toList ++ (s.extract n s.size).data.toList := by
  rw [ByteArray.data_extract, ByteArray.data_extract, Array.toList_extract, Array.toList_extract]
  simp [List.extract]
  rw [List.take_of_length_le (i := s.size - n) (by rw [List.length_drop, data_size]; omega), List.take_append_drop]
theorem num_back (s : ByteArray) (hs : 4 ≤ s.size) (hv : val4 s ≤ 2147483647) : s.data.toList = (numS (val4 s)).data.toList ++ (s.extract 4 s.size).data.toList := by
  have h0 := (val4_range s).1
  rw [numS_ok _ h0 hv]
  have e : (strOfNums (numL (val4 s))).data.toList = (s.extract 0 4).data.toList := by
    rw [ByteArray.data_extract, Array.toList_extract]
    have hl : s.data.toList.length = s.size := data_size s
    refine List.ext_getElem (by simp [strOfNums, numL, List.extract, hl]; omega) fun i h3 h4 => ?_
    have hi : i < 4 := by simpa [strOfNums, numL] using h3
    have b0 := (s.data.getD 0 0).toNat_lt
    have b1 := (s.data.getD 1 0).toNat_lt
    have b2 := (s.data.getD 2 0).toNat_lt
    have b3 := (s.data.getD 3 0).toNat_lt
    have g : ∀ j, j < 4 → (h : j < s.data.toList.length) → s.data.toList[j] = s.data.getD j 0 := fun j hj h => by
      have hj2 : j < s.data.size := by rw [← Array.length_toList]; exact h
      simp [Array.getD]
      intro h5
      omega
    have ge : (s.data.toList.extract 0 4)[i] = s.data.getD i 0 := by
      simp only [List.extract, Nat.sub_zero, List.drop_zero, List.getElem_take]
      exact g i hi (by omega)
    rw [ge]
    have hv4 : val4 s = ((s.data.getD 0 0).toNat : Int) * 16777216 + ((s.data.getD 1 0).toNat : Int) * 65536 + ((s.data.getD 2 0).toNat : Int) * 256 + (s.data.getD 3 0).toNat := rfl
    have uo : ∀ (x : UInt8) (n : Int), n = (x.toNat : Int) → UInt8.ofNat n.toNat = x := fun x n h => by rw [h]; simp
    obtain rfl | rfl | rfl | rfl : i = 0 ∨ i = 1 ∨ i = 2 ∨ i = 3 := by omega
    · exact uo _ _ (by rw [hv4]; omega)
    · exact uo _ _ (by rw [hv4]; omega)
    · exact uo _ _ (by rw [hv4]; omega)
    · exact uo _ _ (by rw [hv4]; omega)
  rw [e]
  exact take_back s 4
/-- A number that is read, written again. -/
theorem rdNum_back (s : ByteArray) (m : Int) (h : (rdNum s 0 m).2.1 = 0) : 4 ≤ s.size ∧ (rdNum s 0 m).2.2 ≤ m ∧ s.data.toList = (numS (rdNum s 0 m).2.2).data.toList ++ (rdNum s 0 m).1.data.toList := by
  unfold rdNum at h ⊢
  rw [if_pos rfl] at h ⊢
  by_cases h4 : s.size < 4
  · rw [if_pos h4] at h; cases h
  · rw [if_neg h4] at h ⊢
    by_cases hm : 2147483647 < val4 s ∨ m < val4 s
    · rw [if_pos hm] at h; cases h
    · rw [if_neg hm]
      exact ⟨by omega, by show val4 s ≤ m; omega, num_back s (by omega) (by omega)⟩
theorem rdText_back (s : ByteArray) (m : Int) (h : (rdText s 0 m).2.1 = 0) : ((rdText s 0 m).2.2.size : Int) ≤ m ∧ s.data.toList = (numS ((rdText s 0 m).2.2.size : Int)).data.toList ++ (rdText s 0 m).2.2.data.toList ++ (rdText s 0 m).1.data.toList := by
  have hp := rdNum_pos s 0 m
  by_cases h1 : (rdNum s 0 m).2.1 = 0
  · obtain ⟨_, hm, e⟩ := rdNum_back s m h1
    unfold rdText at h ⊢
    rw [h1] at h ⊢
    generalize rdNum s 0 m = q at *
    obtain ⟨q1, q2, q3⟩ := q
    dsimp only at *
    unfold rdTake at h ⊢
    rw [if_pos rfl] at h ⊢
    by_cases h2 : (q1.size : Int) < q3
    · rw [if_pos h2] at h; cases h
    · rw [if_neg h2]
      dsimp only
      have hsz : (q1.extract 0 q3.toNat).size = q3.toNat := by rw [ByteArray.size_extract]; omega
      rw [hsz, Int.toNat_of_nonneg hp.1]
      exact ⟨hm, by rw [e, List.append_assoc, ← take_back]⟩
  · unfold rdText rdTake at h
    rw [if_neg h1] at h
    exact absurd h h1
theorem rdTexts_back (m : Int) : ∀ (n : Nat) (s : ByteArray) (acc : List ByteArray), (rdTexts m n s acc).2.1 = 0 → ∃ new, (rdTexts m n s acc).2.2 = some (acc ++ new) ∧ new.length = n ∧ (∀ t ∈ new, (t.size : Int) ≤ m) ∧ s.data.toList = textsL new ++ (rdTexts m n s acc).1.data.toList
  | 0, s, acc, _ => ⟨[], by simp [rdTexts], rfl, fun t ht => by simp at ht, by simp [textsL, rdTexts]⟩
  | n + 1, s, acc, h => by
    unfold rdTexts at h ⊢
    by_cases h1 : (rdText s 0 m).2.1 = 0
    · rw [if_pos h1] at h ⊢
      obtain ⟨new, e1, e2, e3, e4⟩ := rdTexts_back m n _ _ h
      obtain ⟨hm, e⟩ := rdText_back s m h1
      refine ⟨(rdText s 0 m).2.2 :: new, by rw [e1]; simp, by simp [e2], fun t ht => ?_, ?_⟩
      · rcases List.mem_cons.1 ht with rfl | ht
        · exact hm
        · exact e3 t ht
      · rw [e, e4]
        simp [textsL]
    · rw [if_neg h1] at h
      exact absurd h h1
theorem rdList_back (s : ByteArray) (m long : Int) (h : (rdList s 0 m long).2.1 = 0) : ∃ ss, (rdList s 0 m long).2.2 = some ss ∧ (ss.length : Int) ≤ m ∧ (∀ t ∈ ss, (t.size : Int) ≤ long) ∧ s.data.toList = listL ss ++ (rdList s 0 m long).1.data.toList := by
  unfold rdList at h ⊢
  have hp := rdNum_pos s 0 m
  by_cases h1 : (rdNum s 0 m).2.1 = 0
  · rw [if_pos h1] at h ⊢
    obtain ⟨_, hm, e⟩ := rdNum_back s m h1
    obtain ⟨new, e1, e2, e3, e4⟩ := rdTexts_back long _ _ _ h
    have hl : (new.length : Int) = (rdNum s 0 m).2.2 := by rw [e2, Int.toNat_of_nonneg hp.1]
    refine ⟨new, by rw [e1]; simp, by omega, e3, ?_⟩
    unfold listL
    rw [hl, e, e4]
    simp
  · rw [if_neg h1] at h
    exact absurd h h1
end Go.Proofs.Ytghapohempogkaa
