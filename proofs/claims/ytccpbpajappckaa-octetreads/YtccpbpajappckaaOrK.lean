/- Texts held against each other; what octet.Elems writes is read as it was. -/
import Derived.Test.YtccpbpajappckaaOrJ
namespace Go.Proofs.Ytccpbpajappckaa
open Go.RowKit

theorem StrRow.one {w : World} {a : Option Addr} {ss : List ByteArray} (h : StrRow w a ss) {i : Nat} (hi : i < ss.length) : ∃ b off, a = some ⟨b, off, none⟩ ∧ b < w.heap.size ∧ w.cell? ⟨b, off + i, none⟩ = some (.string (ss.getD i ByteArray.empty)) := by
  rcases h with rfl | ⟨b, off, e, hb, hc⟩
  · simp at hi
  · exact ⟨b, off, e, hb, hc i hi⟩
set_option maxHeartbeats 1000000 in
theorem texts_alike (a a' : Option Addr) (n cap cap' : Nat) (ss : List ByteArray) (hl : ss.length = n) (hn : n ≤ 1000000) (W : World) (hX : StrRow W a ss) (hY : StrRow W a' ss) :
    Calls Try.prog 21 #[.slice a n cap, .slice a' n cap'] W fun e w' => e = .returned (.bool true) ∧ Below W.heap.size W w' := by
  have HX : Hid (StrRow W a ss ∧ StrRow W a' ss ∧ ss.length = n) := ⟨hX, hY, hl⟩
  clear hX hY hl
  go_enter Try.func21, Try.ntmps21
  go_wp2
  go_loopw [5] (fun u wr => ∃ k : Nat, k ≤ n ∧ u = .int .i64 k ∧ Hid (Below W.heap.size W wr)) (fun u _ => n - (intOf u).toNat)
  case atStart => exact ⟨0, Nat.zero_le _, rfl, Below.refl _ _⟩
  case round =>
    obtain ⟨k, hk, rfl, HB⟩ := hrel
    by_cases hlt : k < n
    · have k1 : (k : Int) < (n : Int) := by omega
      have k0 : (0 : Int) ≤ (k : Int) := by omega
      obtain ⟨b1, o1, rfl, _, c1⟩ := HX.out.1.one (i := k) (by rw [HX.out.2.2]; exact hlt)
      obtain ⟨b2, o2, rfl, _, c2⟩ := HX.out.2.1.one (i := k) (by rw [HX.out.2.2]; exact hlt)
      have d1 := keepc HB.out c1
      have d2 := keepc HB.out c2
      clear c1 c2
      generalize ss.getD k ByteArray.empty = s at d1 d2
      go_wp2
      go_region
      go_wp2
      exact ⟨⟨k + 1, hlt, by simp, HB.out.drew⟩, by simp [intOf]; omega⟩
    · have k1 : ¬ (k : Int) < (n : Int) := by omega
      go_wp2
      go_ret
      exact ⟨rfl, HB.out⟩
theorem elems_fwd {s t : ByteArray} {l m : Int} (es : List (Nat × Nat)) (hes : ltE es) (hw : ¬ wideI l = 0) (ha : allB l es = true) (hm : (es.length : Int) ≤ m) (h1 : (es.length : Int) ≤ 2147483647) (h : s.data.toList = (elemsS l es).data.toList ++ t.data.toList) : rdElems s 0 l m = (t, 0, some es) := by
  have hlv : levelB l = true := by
    by_cases h0 : levelB l = true
    · exact h0
    · exfalso
      apply hw
      simp [levelB] at h0
      unfold wideI
      split <;> (try split) <;> (try split) <;> (try split) <;> (try split) <;> first | rfl | omega
  have hh : rdHas s 0 l = (s, 0, true) := by unfold rdHas; rw [if_pos rfl, if_pos hlv]
  have hS : (elemsS l es).data.toList = (numS (es.length : Int)).data.toList ++ elemsL l es := by
    unfold elemsS
    rw [if_neg hw, if_pos ha]
  have e := num_fwd (s := s) (t := ⟨(elemsL l es ++ t.data.toList).toArray⟩) (by omega) h1 hm (by rw [h, hS]; simp)
  unfold rdElems
  rw [hh, e]
  dsimp only
  rw [if_pos rfl, if_pos rfl, Int.toNat_natCast, elms_fwd es _ [] hes ha rfl]
  simp
end Go.Proofs.Ytccpbpajappckaa
