/- A list of texts in memory. -/
import Derived.Test.YtghapohempogkaaProg
import Derived.WalkKit
import Derived.WalkLawsBesides
import Derived.WalkSpells
import Derived.Handy
import Derived.Test.YtghapohempogkaaOctF
import Derived.Test.YtghapohempogkaaPOctOf
namespace Go.Proofs.Ytghapohempogkaa
open Go.RowKit

/-- A list of texts in memory. -/
def StrRow (w : World) (a : Option Addr) (ss : List ByteArray) : Prop :=
  ss = [] ∨ ∃ b off, a = some ⟨b, off, none⟩ ∧ b < w.heap.size ∧ ∀ i, i < ss.length → w.cell? ⟨b, off + i, none⟩ = some (.string (ss.getD i ByteArray.empty))
theorem take_snoc' (ss : List ByteArray) (k : Nat) (h : k < ss.length) : ss.take (k + 1) = ss.take k ++ [ss.getD k ByteArray.empty] := by
  rw [List.take_succ_eq_append_getElem h]; simp [h]
end Go.Proofs.Ytghapohempogkaa

/- Contracts of (*octet.Reader).Text, hasLevel and List over the seat's translation. -/
namespace Go.Proofs.Ytghapohempogkaa
open Go.RowKit

theorem hidR {p : Prop} (h : p) : Hid p := h
theorem rdNum_pos (s : ByteArray) (e m : Int) : 0 ≤ (rdNum s e m).2.2 ∧ (rdNum s e m).2.2 ≤ 2147483647 := by
  unfold rdNum
  split
  · split
    · exact ⟨Int.le_refl _, by decide⟩
    · split
      · exact ⟨Int.le_refl _, by decide⟩
      · rename_i h
        have := (val4_range s).1
        exact ⟨this, by dsimp only; omega⟩
  · exact ⟨Int.le_refl _, by show (0 : Int) ≤ 2147483647; decide⟩
/-- What 'Text' makes of a reader: what is left, the error, the text. -/
def rdText (s : ByteArray) (e m : Int) : ByteArray × Int × ByteArray :=
  ((rdTake (rdNum s e m).1 (rdNum s e m).2.1 (rdNum s e m).2.2).1, (rdTake (rdNum s e m).1 (rdNum s e m).2.1 (rdNum s e m).2.2).2.1, (rdTake (rdNum s e m).1 (rdNum s e m).2.1 (rdNum s e m).2.2).2.2.1)
/-- What 'hasLevel' makes of a reader. -/
def rdHas (s : ByteArray) (e l : Int) : ByteArray × Int × Bool := if e = 0 then (if levelB l = true then (s, 0, true) else (⟨#[]⟩, 1, false)) else (s, e, false)
set_option maxHeartbeats 1000000 in
theorem rd_has (b : Nat) (s : ByteArray) (e l : Int) (w : World) (h : Rd b s e w) : Calls Try.prog 46 #[.pointer (some ⟨b, 0, none⟩), .int .i64 l] w fun r w' => r = .returned (.bool (rdHas s e l).2.2) ∧ Step b (rdHas s e l).1 (rdHas s e l).2.1 w w' := by
  have H1 := hidR (rd_Fail b s e w h)
  have HF := hidR (rd_fail b s e 1 w h)
  have HL := hidR (isLevel_any l w)
  have HR := hidR h
  clear h
  by_cases he : e = 0
  · subst he
    rcases hl : levelB l with _ | _
    · rw [hl] at HL
      have e1 : rdHas s 0 l = (⟨#[]⟩, 1, false) := by unfold rdHas; rw [if_pos rfl, if_neg (by rw [hl]; decide)]
      rw [e1]
      dsimp only
      clear e1 hl
      go_enter Try.func46, Try.ntmps46
      go_wp2_with (first | (go_at_call 30; refine H1.out.mono ?_; rintro r w1 ⟨rfl, rfl⟩) | (go_at_call 49; refine HL.out.mono ?_; rintro r w2 ⟨rfl, rfl⟩) | (go_at_call 45; refine HF.out.mono ?_; rintro r w3 ⟨rfl, st3⟩; have S3 := hidR st3; clear st3))
      go_ret
      exact ⟨rfl, S3.out⟩
    · rw [hl] at HL
      have e1 : rdHas s 0 l = (s, 0, true) := by unfold rdHas; rw [if_pos rfl, if_pos hl]
      rw [e1]
      dsimp only
      clear e1 hl HF
      go_enter Try.func46, Try.ntmps46
      go_wp2_with (first | (go_at_call 30; refine H1.out.mono ?_; rintro r w1 ⟨rfl, rfl⟩) | (go_at_call 49; refine HL.out.mono ?_; rintro r w2 ⟨rfl, rfl⟩))
      go_ret
      exact ⟨rfl, Step.refl HR.out⟩
  · have e1 : rdHas s e l = (s, e, false) := by unfold rdHas; rw [if_neg he]
    rw [e1]
    dsimp only
    have he' : (e == 0) = false := by rw [beq_eq_false_iff_ne]; exact he
    clear e1 HF HL
    go_enter Try.func46, Try.ntmps46
    go_wp2_with (go_at_call 30; refine H1.out.mono ?_; rintro r w1 ⟨rfl, rfl⟩)
    go_ret
    exact ⟨rfl, Step.refl HR.out⟩
end Go.Proofs.Ytghapohempogkaa
