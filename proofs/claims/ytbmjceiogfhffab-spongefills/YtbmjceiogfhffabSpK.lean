/- A text filled up says where it ends: what is filled up to the same text is the same, and none is the end of another one; the walk of the law SpongeFills. -/
import Derived.Test.YtbmjceiogfhffabSpA
import Derived.Test.YtbmjceiogfhffabSpI
namespace Go.Proofs.Ytbmjceiogfhffab
open Go.RowKit

theorem rep_zero (c : Nat) : Lib.repeatL [(0 : UInt8)] c = List.replicate c 0 := by
  induction c with
  | zero => rfl
  | succ c ih => rw [List.replicate_succ, ← ih]; rfl
/-- A text's bytes, filled up. -/
theorem ful_list (s : ByteArray) : (ful s).data.toList = s.data.toList ++ (128 :: (List.replicate (nb s.size * 64 - s.size - 9) 0 ++ (hf8 (nb s.size)).data.toList)) := by
  unfold ful fil
  rw [rep_zero]
  simp [ByteArray.data_append]
theorem lead_zeros {z z' : Nat} {a b : List UInt8} (h : List.replicate z 0 ++ 128 :: a = List.replicate z' 0 ++ 128 :: b) : a = b := by
  induction z generalizing z' with
  | zero =>
    cases z' with
    | zero => simpa using h
    | succ z' => simp [List.replicate_succ] at h
  | succ z ih =>
    cases z' with
    | zero => simp [List.replicate_succ] at h
    | succ z' => refine ih (z' := z') ?_; simpa [List.replicate_succ] using h
theorem hf8_len (n : Nat) : (hf8 n).data.toList.length = 8 := by simp [hf8]
/-- Two texts that are filled up to the same one are the same. -/
theorem ful_inj {a b : ByteArray} (h : ful a = ful b) : a = b := by
  have h1 := congrArg (fun s : ByteArray => s.data.toList) h
  simp only [ful_list] at h1
  rw [← List.cons_append, ← List.cons_append, ← List.append_assoc, ← List.append_assoc] at h1
  have h2 := (List.append_inj' h1 (by rw [hf8_len, hf8_len])).1
  have h3 := congrArg List.reverse h2
  simp only [List.reverse_append, List.reverse_cons, List.reverse_replicate, List.append_assoc, List.cons_append, List.nil_append] at h3
  have h4 := List.reverse_inj.1 (lead_zeros h3)
  exact ByteArray.ext (Array.toList_inj.1 h4)
theorem hf8_last (n : Nat) : (hf8 n).data.toList.getLast? = some (UInt8.ofNat n) := by
  simp [hf8, List.range_succ]
theorem ful_last (s : ByteArray) : (ful s).data.toList.getLast? = some (UInt8.ofNat (nb s.size)) := by
  rw [ful_list, ← List.cons_append, ← List.append_assoc, List.getLast?_append, hf8_last]; rfl
/-- None that is filled up is the end of another one that has more blocks (below 256 of them). -/
theorem ful_tail {a b : ByteArray} (hb : nb b.size < 256) (h : nb a.size < nb b.size) (k : Nat) : (ful b).extract k (ful b).size ≠ ful a := by
  intro e
  have h1 := congrArg (fun s : ByteArray => s.data.toList.getLast?) e
  simp only [ful_last] at h1
  have h2 : ((ful b).extract k (ful b).size).data.toList = (ful b).data.toList.drop k := by
    rw [ByteArray.data_extract, Array.toList_extract, List.extract_eq_take_drop]
    refine List.take_of_length_le ?_
    rw [List.length_drop]
    show _ ≤ (ful b).data.size - k
    simp
  rw [h2] at h1
  rw [List.getLast?_drop] at h1
  split at h1
  · cases h1
  · rw [ful_last] at h1
    have h3 := congrArg UInt8.toNat (Option.some.inj h1)
    simp at h3
    omega


theorem sf_long1 (a b : ByteArray) (ha : 2000 < a.size) : Ret 3 #[.string a, .string b] (.bool true) := by
  intro W
  have h1 : (2000 : Int) < (a.size : Int) := by omega
  go_enter Try.func3, Try.ntmps3
  go_wp2_with (go_at_call 5; refine (awake11.go _).mono ?_; rintro e w1 ⟨rfl, hb1⟩)
  go_ret
  exact ⟨rfl, hb1⟩
theorem sf_long2 (a b : ByteArray) (ha : ¬ 2000 < a.size) (hb : 2000 < b.size) : Ret 3 #[.string a, .string b] (.bool true) := by
  intro W
  have h1 : ¬ (2000 : Int) < (a.size : Int) := by omega
  have h2 : (2000 : Int) < (b.size : Int) := by omega
  go_enter Try.func3, Try.ntmps3
  go_wp2_with (go_at_call 5; refine (awake11.go _).mono ?_; rintro e w1 ⟨rfl, hb1⟩)
  go_ret
  exact ⟨rfl, hb1⟩
theorem list_ne {x y : ByteArray} (h : x ≠ y) : (x.toList == y.toList) = false := by
  rw [beq_eq_false_iff_ne]
  intro e
  rw [ByteArray.toList_eq, ByteArray.toList_eq] at e
  exact h (ByteArray.ext (Array.toList_inj.1 e))
theorem pre_ext (a c : ByteArray) : (a ++ c).extract 0 a.size = a := by
  refine ByteArray.ext ?_
  rw [ByteArray.data_extract, ByteArray.data_append]
  show (a.data ++ c.data).extract 0 a.data.size = a.data
  simp
set_option maxHeartbeats 1600000 in
theorem sf_same (a x : ByteArray) (ha : a.size ≤ 2000) (p : Nat) (hp : x.size = p * 64) (hx : a.size ≤ x.size) (hz : x.size ≤ 100000) (he : x.extract 0 a.size = a)
    (H1 : Hid (Ret 6 #[.string a] (.string x))) :
    Ret 3 #[.string a, .string a] (.bool true) := by
  intro W
  have h1 : ¬ (2000 : Int) < (a.size : Int) := by omega
  have m1 : (x.size : Int).tmod 64 = 0 := by rw [Int.tmod_eq_emod_of_nonneg (by omega)]; omega
  have m2 : (x.size : Int) % 64 = 0 := by omega
  have l1 : ¬ (x.size : Int) < (a.size : Int) := by omega
  go_enter Try.func3, Try.ntmps3
  go_wp2_with (first | (go_at_call 5; refine (awake11.go _).mono ?_; rintro e w0 ⟨rfl, hb0⟩; have D : Hid (Below W.heap.size W w0) := hb0; clear hb0) | (go_at_call_of 6 (#[Value.string a] : Array Value); refine (H1.out.go _).mono ?_; rintro e w1 ⟨rfl, hb1⟩; have D1 : Hid (Below W.heap.size W w1) := D.out.trans (hb1.mono D.out.size); clear D hb1; have D := D1; clear D1) | (go_at_call_of 6 (#[Value.string a] : Array Value); refine (H1.out.go _).mono ?_; rintro e w1 ⟨rfl, hb1⟩; have D1 : Hid (Below W.heap.size W w1) := D.out.trans (hb1.mono D.out.size); clear D hb1; have D := D1; clear D1))
  go_ret
  exact ⟨rfl, D.out⟩
set_option maxHeartbeats 1600000 in
theorem sf_ge (a b x y : ByteArray) (ha : a.size ≤ 2000) (hb : b.size ≤ 2000) (p q : Nat) (hp : x.size = p * 64) (hq : y.size = q * 64) (hx : a.size ≤ x.size) (hz : x.size ≤ 100000) (hzy : y.size ≤ 100000) (he : x.extract 0 a.size = a) (hab : a ≠ b) (hxy : x ≠ y) (hc : y.size ≤ x.size)
    (H1 : Hid (Ret 6 #[.string a] (.string x)))
    (H2 : Hid (Ret 6 #[.string b] (.string y))) :
    Ret 3 #[.string a, .string b] (.bool true) := by
  intro W
  have h1 : ¬ (2000 : Int) < (a.size : Int) := by omega
  have h2 : ¬ (2000 : Int) < (b.size : Int) := by omega
  have m1 : (x.size : Int).tmod 64 = 0 := by rw [Int.tmod_eq_emod_of_nonneg (by omega)]; omega
  have m2 : (x.size : Int) % 64 = 0 := by omega
  have n1 : (y.size : Int).tmod 64 = 0 := by rw [Int.tmod_eq_emod_of_nonneg (by omega)]; omega
  have n2 : (y.size : Int) % 64 = 0 := by omega
  have l1 : ¬ (x.size : Int) < (a.size : Int) := by omega
  have l2 : (y.size : Int) ≤ (x.size : Int) := by omega
  have l4 : y.size ≤ x.size := hc
  have e1 := list_ne hxy
  have e2 := list_ne hab
  clear hp hq hc hxy hab
  go_enter Try.func3, Try.ntmps3
  go_wp2_with (first | (go_at_call 5; refine (awake11.go _).mono ?_; rintro e w0 ⟨rfl, hb0⟩; have D : Hid (Below W.heap.size W w0) := hb0; clear hb0) | (go_at_call_of 6 (#[Value.string a] : Array Value); refine (H1.out.go _).mono ?_; rintro e w1 ⟨rfl, hb1⟩; have D1 : Hid (Below W.heap.size W w1) := D.out.trans (hb1.mono D.out.size); clear D hb1; have D := D1; clear D1) | (go_at_call_of 6 (#[Value.string b] : Array Value); refine (H2.out.go _).mono ?_; rintro e w1 ⟨rfl, hb1⟩; have D1 : Hid (Below W.heap.size W w1) := D.out.trans (hb1.mono D.out.size); clear D hb1; have D := D1; clear D1))
  go_ret
  exact ⟨rfl, D.out⟩
set_option maxHeartbeats 1600000 in
theorem sf_lt (a b x y : ByteArray) (ha : a.size ≤ 2000) (hb : b.size ≤ 2000) (p q : Nat) (hp : x.size = p * 64) (hq : y.size = q * 64) (hx : a.size ≤ x.size) (hz : x.size ≤ 100000) (hzy : y.size ≤ 100000) (he : x.extract 0 a.size = a) (hab : a ≠ b) (hxy : x ≠ y) (hc : x.size < y.size) (ht : y.extract (y.size - x.size) y.size ≠ x)
    (H1 : Hid (Ret 6 #[.string a] (.string x)))
    (H2 : Hid (Ret 6 #[.string b] (.string y))) :
    Ret 3 #[.string a, .string b] (.bool true) := by
  intro W
  have h1 : ¬ (2000 : Int) < (a.size : Int) := by omega
  have h2 : ¬ (2000 : Int) < (b.size : Int) := by omega
  have m1 : (x.size : Int).tmod 64 = 0 := by rw [Int.tmod_eq_emod_of_nonneg (by omega)]; omega
  have m2 : (x.size : Int) % 64 = 0 := by omega
  have n1 : (y.size : Int).tmod 64 = 0 := by rw [Int.tmod_eq_emod_of_nonneg (by omega)]; omega
  have n2 : (y.size : Int) % 64 = 0 := by omega
  have l1 : ¬ (x.size : Int) < (a.size : Int) := by omega
  have l2 : ¬ (y.size : Int) ≤ (x.size : Int) := by omega
  have l3 : (x.size : Int) < (y.size : Int) := by omega
  have l4 : ¬ y.size ≤ x.size := by omega
  have e1 := list_ne hxy
  have e2 := list_ne hab
  have e3 := list_ne ht
  clear hp hq hxy hab ht
  go_enter Try.func3, Try.ntmps3
  go_wp2_with (first | (go_at_call 5; refine (awake11.go _).mono ?_; rintro e w0 ⟨rfl, hb0⟩; have D : Hid (Below W.heap.size W w0) := hb0; clear hb0) | (go_at_call_of 6 (#[Value.string a] : Array Value); refine (H1.out.go _).mono ?_; rintro e w1 ⟨rfl, hb1⟩; have D1 : Hid (Below W.heap.size W w1) := D.out.trans (hb1.mono D.out.size); clear D hb1; have D := D1; clear D1) | (go_at_call_of 6 (#[Value.string b] : Array Value); refine (H2.out.go _).mono ?_; rintro e w1 ⟨rfl, hb1⟩; have D1 : Hid (Below W.heap.size W w1) := D.out.trans (hb1.mono D.out.size); clear D hb1; have D := D1; clear D1))
  go_ret
  exact ⟨rfl, D.out⟩
theorem sf_any (a b : ByteArray) : Ret 3 #[.string a, .string b] (.bool true) := by
  by_cases ha : 2000 < a.size
  · exact sf_long1 a b ha
  by_cases hb : 2000 < b.size
  · exact sf_long2 a b ha hb
  have zx := ful_size a
  have zy := ful_size b
  have na : nb a.size < 256 := by unfold nb; omega
  have nbb : nb b.size < 256 := by unfold nb; omega
  have hx : a.size ≤ (ful a).size := by rw [zx]; unfold nb; omega
  have he : (ful a).extract 0 a.size = a := pre_ext a _
  have H1 : Hid (Ret 6 #[.string a] (.string (ful a))) := fill_any a (by omega)
  have H2 : Hid (Ret 6 #[.string b] (.string (ful b))) := fill_any b (by omega)
  by_cases hab : a = b
  · subst hab
    exact sf_same a (ful a) (by omega) _ zx hx (by omega) he H1
  have hxy : ful a ≠ ful b := fun e => hab (ful_inj e)
  by_cases hc : (ful b).size ≤ (ful a).size
  · exact sf_ge a b (ful a) (ful b) (by omega) (by omega) _ _ zx zy hx (by omega) (by omega) he hab hxy hc H1 H2
  · exact sf_lt a b (ful a) (ful b) (by omega) (by omega) _ _ zx zy hx (by omega) (by omega) he hab hxy (by omega) (ful_tail nbb (by omega) _) H1 H2
end Go.Proofs.Ytbmjceiogfhffab
