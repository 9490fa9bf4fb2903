/- Contracts of expr.Check, Degree and Uses over the seat's translation. -/
import Derived.Test.YtfehecmajmhmaaaExD
namespace Go.Proofs.Ytfehecmajmhmaaa
open Go.RowKit

theorem xcheck (lv vr : Int) (sa : Option Addr) (cap : Nat) (l : List Stp) (hl : ∀ o ∈ l, o.ok) (hm : l.length ≤ 100000) (W : World) (hR : ORow W sa l) :
    Calls Try.prog 11 #[.int .i64 lv, .int .i64 vr, .slice sa l.length cap] W fun e w' => e = .returned (.int .i64 (chk lv vr l)) ∧ Below W.heap.size W w' := by
  have H := Hid.mkX (xdeg lv vr sa cap l hl hm W hR)
  clear hl hR
  generalize (if chk lv vr l = 0 then (dfun l (l.length - 1) : Int) else 0) = z at *
  generalize chk lv vr l = c at *
  go_enter Try.func11, Try.ntmps11
  go_wp2_with (go_at_call 26; refine H.out.mono ?_; rintro e w1 ⟨rfl, hb1⟩)
  go_ret
  exact ⟨rfl, hb1⟩
theorem xdegree (sa : Option Addr) (cap : Nat) (l : List Stp) (hl : ∀ o ∈ l, o.ok) (hm : l.length ≤ 100000) (W : World) (hR : ORow W sa l) :
    Calls Try.prog 12 #[.slice sa l.length cap] W fun e w' => e = .returned (.int .i64 (if chk 7 9223372036854775807 l = 0 then (dfun l (l.length - 1) : Int) else -1)) ∧ Below W.heap.size W w' := by
  have H := Hid.mkX (xdeg 7 9223372036854775807 sa cap l hl hm W hR)
  clear hl hR
  by_cases hc : chk 7 9223372036854775807 l = 0
  · rw [hc, if_pos rfl] at H
    rw [if_pos hc]
    clear hc
    generalize dfun l (l.length - 1) = y at *
    go_enter Try.func12, Try.ntmps12
    go_wp2_with (go_at_call 26; refine H.out.mono ?_; rintro e w1 ⟨rfl, hb1⟩)
    go_ret
    exact ⟨rfl, hb1⟩
  · rw [if_neg hc] at H
    rw [if_neg hc]
    generalize chk 7 9223372036854775807 l = c at *
    have hc' : (c != 0) = true := by simp [hc]
    go_enter Try.func12, Try.ntmps12
    go_wp2_with (go_at_call 26; refine H.out.mono ?_; rintro e w1 ⟨rfl, hb1⟩)
    go_ret
    exact ⟨rfl, hb1⟩
/-- Is the variable n one of the steps? -/
def usesB (l : List Stp) (n : Int) : Bool := l.any fun o => decide (o.k = 2 ∧ o.a = n)
set_option maxHeartbeats 4000000 in
set_option maxRecDepth 100000 in
theorem xuses (sa : Option Addr) (cap : Nat) (l : List Stp) (n : Int) (hm : l.length ≤ 100000) (W : World) (hR : ORow W sa l) :
    Calls Try.prog 13 #[.slice sa l.length cap, .int .i64 n] W fun e w' => e = .returned (.bool (usesB l n)) ∧ Below W.heap.size W w' := by
  have HR : Hid (ORow W sa l) := hR
  clear hR
  obtain ⟨z, hz⟩ : ∃ z, z = usesB l n := ⟨_, rfl⟩
  rw [← hz]
  have HZ : Hid (z = usesB l n) := hz
  clear hz
  go_enter Try.func13, Try.ntmps13
  go_wp2_with fail
  go_loopw [9] (fun u wr => ∃ i : Nat, i ≤ l.length ∧ u = .int .i64 i ∧ Hid (usesB (l.take i) n = false) ∧ Below W.heap.size W wr) (fun u _ => l.length - (intOf u).toNat)
  case atStart => exact ⟨0, Nat.zero_le _, rfl, rfl, Below.refl _ _⟩
  case round =>
    obtain ⟨i, hi, rfl, HU, hD⟩ := hrel
    by_cases hlt : i < l.length
    · obtain ⟨b0, off, rfl, hb0, c0, c1, c2, c3, c4⟩ := HR.out.cells i hlt
      have C0 := keepc hD c0
      have C1 := keepc hD c1
      have C2 := keepc hD c2
      have C3 := keepc hD c3
      have C4 := keepc hD c4
      have HD : Hid (Below W.heap.size W wr) := hD
      have HT : Hid (l.take (i + 1) = l.take i ++ [l.getD i zst]) := take_st l i hlt
      have HM : Hid (l.getD i zst ∈ l) := by show _ ∈ _; rw [show l.getD i zst = l[i] by simp [hlt]]; exact List.getElem_mem hlt
      have b1 : (i : Int) < (l.length : Int) := by omega
      have b2 : (0 : Int) ≤ (i : Int) := by omega
      clear c0 c1 c2 c3 c4 hD hb0
      generalize l.getD i zst = o at *
      obtain ⟨k, a, b, v⟩ := o
      dsimp only at *
      by_cases hk : k = 2
      · subst hk
        by_cases ha : a = n
        · subst ha
          have HV : Hid (z = true) := by
            show _ = _
            rw [HZ.out]
            unfold usesB
            rw [List.any_eq_true]
            exact ⟨_, HM.out, by simp⟩
          clear HT HM
          go_wp2
          go_ret
          exact ⟨by rw [HV.out]; rfl, HD.out.alloc HD.out.size _⟩
        · have ga : (a == n) = false := by rw [beq_eq_false_iff_ne]; exact ha
          have HV : Hid (usesB (l.take (i + 1)) n = false) := by
            show _ = _
            have hu := HU.out
            unfold usesB at hu ⊢
            rw [HT.out, List.any_append, hu]
            simp [ha]
          clear HT HM
          go_wp2
          exact ⟨⟨i + 1, hlt, by simp, HV.out, HD.out.alloc HD.out.size _⟩, by simp [intOf]; omega⟩
      · have gk : (k == 2) = false := by rw [beq_eq_false_iff_ne]; exact hk
        have HV : Hid (usesB (l.take (i + 1)) n = false) := by
          show _ = _
          have hu := HU.out
          unfold usesB at hu ⊢
          rw [HT.out, List.any_append, hu]
          simp [hk]
        clear HT HM
        go_wp2
        exact ⟨⟨i + 1, hlt, by simp, HV.out, HD.out.alloc HD.out.size _⟩, by simp [intOf]; omega⟩
    · obtain rfl : i = l.length := by omega
      have HV : Hid (z = false) := by
        show _ = _
        have hu := HU.out
        rw [List.take_of_length_le (Nat.le_refl _)] at hu
        rw [HZ.out, hu]
      have HD : Hid (Below W.heap.size W wr) := hD
      clear hD
      go_wp2
      go_ret
      exact ⟨by rw [HV.out]; rfl, HD.out⟩
end Go.Proofs.Ytfehecmajmhmaaa
