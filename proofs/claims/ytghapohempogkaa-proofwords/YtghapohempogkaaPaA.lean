/- The bytes of parameters, pure. -/
import Derived.Test.YtghapohempogkaaOrI
import Derived.Test.YtghapohempogkaaPOctN
namespace Go.Proofs.Ytghapohempogkaa
open Go.RowKit
namespace Pa

def fitsB (l r t q : Int) : Bool := decide (2 ≤ l ∧ l ≤ 7 ∧ 0 ≤ r ∧ r ≤ 6 ∧ 1 ≤ t ∧ t ≤ 3 ∧ 1 ≤ q ∧ q ≤ 64)
theorem fits_of {l r t q : Int} (h : fitsB l r t q = true) : 2 ≤ l ∧ l ≤ 7 ∧ 0 ≤ r ∧ r ≤ 6 ∧ 1 ≤ t ∧ t ≤ 3 ∧ 1 ≤ q ∧ q ≤ 64 := of_decide_eq_true h
def bytesP (l r t q : Int) : ByteArray := numS l ++ numS r ++ numS t ++ numS q
theorem cat_list (a b : ByteArray) : (a ++ b).data.toList = a.data.toList ++ b.data.toList := by simp
theorem bytes_list (l r t q : Int) : (bytesP l r t q).data.toList = (numS l).data.toList ++ ((numS r).data.toList ++ ((numS t).data.toList ++ (numS q).data.toList)) := by
  unfold bytesP
  rw [cat_list, cat_list, cat_list, List.append_assoc, List.append_assoc]
theorem same_list {a b : ByteArray} (h : a.data.toList = b.data.toList) : a = b := by
  obtain ⟨⟨a⟩⟩ := a
  obtain ⟨⟨b⟩⟩ := b
  simp at h
  rw [h]
def rd1 (s : ByteArray) : ByteArray × Int × Int := rdNum s 0 2147483647
def rd2 (s : ByteArray) : ByteArray × Int × Int := rdNum (rd1 s).1 (rd1 s).2.1 2147483647
def rd3 (s : ByteArray) : ByteArray × Int × Int := rdNum (rd2 s).1 (rd2 s).2.1 2147483647
def rd4 (s : ByteArray) : ByteArray × Int × Int := rdNum (rd3 s).1 (rd3 s).2.1 2147483647
/-- Are bytes those of parameters? -/
def okR (s : ByteArray) : Bool := decide (endI (rd4 s).1 (rd4 s).2.1 = 0) && fitsB (rd1 s).2.2 (rd2 s).2.2 (rd3 s).2.2 (rd4 s).2.2
theorem err_zero {s : ByteArray} {e m : Int} (h : (rdNum s e m).2.1 = 0) : e = 0 := by
  unfold rdNum at h
  split at h
  · assumption
  · exact h
theorem end_zero {s : ByteArray} {e : Int} (h : endI s e = 0) : e = 0 ∧ s.size = 0 := by
  unfold endI at h
  split at h <;> (try split at h) <;> first | (exact ⟨by omega, by omega⟩) | omega | simp_all
theorem num_split {s : ByteArray} {e m : Int} (h : (rdNum s e m).2.1 = 0) : s.data.toList = (numS (rdNum s e m).2.2).data.toList ++ (rdNum s e m).1.data.toList := by
  obtain rfl := err_zero h
  exact (rdNum_back s m h).2.2
theorem read_bytes {s : ByteArray} (h : okR s = true) : bytesP (rd1 s).2.2 (rd2 s).2.2 (rd3 s).2.2 (rd4 s).2.2 = s := by
  unfold okR at h
  rw [Bool.and_eq_true] at h
  obtain ⟨h4, hz⟩ := end_zero (of_decide_eq_true h.1)
  have h3 : (rd3 s).2.1 = 0 := err_zero h4
  have h2 : (rd2 s).2.1 = 0 := err_zero h3
  have h1 : (rd1 s).2.1 = 0 := err_zero h2
  have e1 := num_split h1
  have e2 := num_split h2
  have e3 := num_split h3
  have e4 := num_split h4
  have ez : (rd4 s).1.data.toList = [] := by
    have : (rd4 s).1.data.toList.length = 0 := by rw [Array.length_toList]; exact hz
    exact List.length_eq_zero_iff.1 this
  refine same_list ?_
  rw [bytes_list]
  change s.data.toList = (numS (rd1 s).2.2).data.toList ++ (rd1 s).1.data.toList at e1
  change (rd1 s).1.data.toList = (numS (rd2 s).2.2).data.toList ++ (rd2 s).1.data.toList at e2
  change (rd2 s).1.data.toList = (numS (rd3 s).2.2).data.toList ++ (rd3 s).1.data.toList at e3
  change (rd3 s).1.data.toList = (numS (rd4 s).2.2).data.toList ++ (rd4 s).1.data.toList at e4
  rw [ez, List.append_nil] at e4
  rw [e1, e2, e3, e4]
theorem bytes_read {l r t q : Int} (h : fitsB l r t q = true) : okR (bytesP l r t q) = true ∧ (rd1 (bytesP l r t q)).2.2 = l ∧ (rd2 (bytesP l r t q)).2.2 = r ∧ (rd3 (bytesP l r t q)).2.2 = t ∧ (rd4 (bytesP l r t q)).2.2 = q := by
  obtain ⟨a1, a2, b1, b2, c1, c2, d1, d2⟩ := fits_of h
  have e1 : rd1 (bytesP l r t q) = (numS r ++ numS t ++ numS q, 0, l) := num_fwd (by omega) (by omega) (by omega) (by rw [bytes_list, cat_list, cat_list, List.append_assoc])
  have e2 : rd2 (bytesP l r t q) = (numS t ++ numS q, 0, r) := by
    unfold rd2; rw [e1]
    exact num_fwd (by omega) (by omega) (by omega) (by rw [cat_list, cat_list, cat_list, List.append_assoc])
  have e3 : rd3 (bytesP l r t q) = (numS q, 0, t) := by
    unfold rd3; rw [e2]
    exact num_fwd (by omega) (by omega) (by omega) (by rw [cat_list])
  have e4 : rd4 (bytesP l r t q) = (⟨#[]⟩, 0, q) := by
    unfold rd4; rw [e3]
    exact num_fwd (by omega) (by omega) (by omega) (by simp)
  refine ⟨?_, by rw [e1], by rw [e2], by rw [e3], by rw [e4]⟩
  unfold okR
  rw [e1, e2, e3, e4, h]
  rfl
theorem three : bytesP 3 0 1 2 = ⟨#[0, 0, 0, 3, 0, 0, 0, 0, 0, 0, 0, 1, 0, 0, 0, 2]⟩ := by decide
end Pa
end Go.Proofs.Ytghapohempogkaa
