/- What is written is read as it was: without the program. -/
import Derived.Test.YtghapohempogkaaOrG
namespace Go.Proofs.Ytghapohempogkaa
open Go.RowKit

theorem getD_list (s : ByteArray) (i : Nat) : s.data.getD i 0 = s.data.toList.getD i 0 := by
  simp [Array.getD, List.getD]
  split
  · rename_i h
    rw [Array.getElem?_eq_getElem (show i < s.data.size from h)]
    rfl
  · rename_i h
    rw [Array.getElem?_eq_none (show s.data.size ≤ i from Nat.le_of_not_lt h)]
    rfl
theorem rest_of {s t : ByteArray} {x : List UInt8} (h : s.data.toList = x ++ t.data.toList) : s.extract x.length s.size = t ∧ s.extract 0 x.length = ⟨x.toArray⟩ ∧ s.size = x.length + t.size := by
  have hs : s.size = x.length + t.size := by rw [← data_size, h, List.length_append, data_size]
  refine ⟨ba_ext ?_, ba_ext ?_, hs⟩
  · rw [ByteArray.data_extract, Array.toList_extract, h]
    simp only [List.extract]
    rw [List.drop_left, List.take_of_length_le (by rw [data_size]; omega)]
  · rw [ByteArray.data_extract, Array.toList_extract, h]
    simp [List.extract]
theorem num_fwd {s t : ByteArray} {n m : Int} (h0 : 0 ≤ n) (h1 : n ≤ 2147483647) (hm : n ≤ m) (h : s.data.toList = (numS n).data.toList ++ t.data.toList) : rdNum s 0 m = (t, 0, n) := by
  have hn : (numS n).data.toList = [UInt8.ofNat (n / 16777216).toNat, UInt8.ofNat (n / 65536 % 256).toNat, UInt8.ofNat (n / 256 % 256).toNat, UInt8.ofNat (n % 256).toNat] := by rw [numS_ok n h0 h1]; rfl
  rw [hn] at h
  obtain ⟨e1, _, e3⟩ := rest_of h
  have hv : val4 s = n := by
    unfold val4
    rw [getD_list, getD_list, getD_list, getD_list, h]
    simp
    omega
  unfold rdNum
  rw [if_pos rfl, if_neg (by simp at e3; omega), hv, if_neg (by omega)]
  simp at e1
  rw [e1]
theorem text_fwd {s t u : ByteArray} {m : Int} (h1 : (u.size : Int) ≤ 2147483647) (hm : (u.size : Int) ≤ m) (h : s.data.toList = (numS (u.size : Int)).data.toList ++ u.data.toList ++ t.data.toList) : rdText s 0 m = (t, 0, u) := by
  have e := num_fwd (t := ⟨(u.data.toList ++ t.data.toList).toArray⟩) (by omega) h1 hm (by rw [h]; simp)
  unfold rdText
  rw [e]
  dsimp only
  unfold rdTake
  obtain ⟨e1, e2, e3⟩ := rest_of (s := ⟨(u.data.toList ++ t.data.toList).toArray⟩) (t := t) (x := u.data.toList) rfl
  rw [data_size] at e1 e2 e3
  rw [if_pos rfl, if_neg (by rw [e3]; omega), Int.toNat_natCast, e1, e2]
theorem texts_fwd {t : ByteArray} {m : Int} : ∀ (ss : List ByteArray) (s : ByteArray) (acc : List ByteArray), (∀ u ∈ ss, (u.size : Int) ≤ m ∧ (u.size : Int) ≤ 2147483647) → s.data.toList = textsL ss ++ t.data.toList → rdTexts m ss.length s acc = (t, 0, some (acc ++ ss))
  | [], s, acc, _, h => by
    have e : s = t := ba_ext (by simpa [textsL] using h)
    rw [e]
    simp [rdTexts]
  | u :: ss, s, acc, hu, h => by
    have e := text_fwd (s := s) (t := ⟨(textsL ss ++ t.data.toList).toArray⟩) (hu u (by simp)).2 (hu u (by simp)).1 (by rw [h]; simp [textsL])
    show (if (rdText s 0 m).2.1 = 0 then rdTexts m ss.length (rdText s 0 m).1 (acc ++ [(rdText s 0 m).2.2]) else _) = _
    rw [e]
    dsimp only
    rw [if_pos rfl, texts_fwd ss _ (acc ++ [u]) (fun v hv => hu v (by simp [hv])) rfl]
    simp
theorem list_fwd {s t : ByteArray} {m long : Int} (ss : List ByteArray) (hm : (ss.length : Int) ≤ m) (h1 : (ss.length : Int) ≤ 2147483647) (hu : ∀ u ∈ ss, (u.size : Int) ≤ long ∧ (u.size : Int) ≤ 2147483647) (h : s.data.toList = listL ss ++ t.data.toList) : rdList s 0 m long = (t, 0, some ss) := by
  have e := num_fwd (s := s) (t := ⟨(textsL ss ++ t.data.toList).toArray⟩) (by omega) h1 hm (by rw [h]; simp [listL])
  unfold rdList
  rw [e]
  dsimp only
  rw [if_pos rfl, Int.toNat_natCast, texts_fwd ss _ [] hu rfl]
  simp
end Go.Proofs.Ytghapohempogkaa
