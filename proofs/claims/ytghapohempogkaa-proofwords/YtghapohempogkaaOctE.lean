/- A reader in memory, and the contracts of (*octet.Reader).Fail, Left, End, fail, take, Num over the seat's translation. -/
import Derived.Test.YtghapohempogkaaPOctD
namespace Go.Proofs.Ytghapohempogkaa
open Go.RowKit

/-- The block b is a reader: what is left, and the error. -/
def Rd (b : Nat) (s : ByteArray) (e : Int) (w : World) : Prop := w.heap[b]? = some (.cells #[.string s, .int .i64 e] 68)
/-- The block b has become the reader (s, e); what else was there is as it was. -/
structure Step (b : Nat) (s : ByteArray) (e : Int) (w w' : World) : Prop where
  os : w'.os = w.os
  tape : w'.tape = w.tape
  output : w'.output = w.output
  size : w.heap.size ≤ w'.heap.size
  rest : ∀ k, k < w.heap.size → k ≠ b → w'.heap[k]? = w.heap[k]?
  here : Rd b s e w'

theorem Rd.lt {b : Nat} {s : ByteArray} {e : Int} {w : World} (h : Rd b s e w) : b < w.heap.size := by
  unfold Rd at h
  rcases Nat.lt_or_ge b w.heap.size with h1 | h1
  · exact h1
  · rw [Array.getElem?_eq_none h1] at h; cases h
theorem Rd.c0 {b : Nat} {s : ByteArray} {e : Int} {w : World} (h : Rd b s e w) : w.cell? ⟨b, 0, none⟩ = some (.string s) := by unfold Rd at h; simp [World.cell?, h]
theorem Rd.c1 {b : Nat} {s : ByteArray} {e : Int} {w : World} (h : Rd b s e w) : w.cell? ⟨b, 1, none⟩ = some (.int .i64 e) := by unfold Rd at h; simp [World.cell?, h]
theorem Rd.fz {b : Nat} {s : ByteArray} {e : Int} {w : World} (h : Rd b s e w) (o : Nat) : w.frozen? ⟨b, o, none⟩ = false := by unfold Rd at h; simp [World.frozen?, h]
theorem Rd.below {b : Nat} {s : ByteArray} {e : Int} {w w' : World} (h : Rd b s e w) (hb : Below w.heap.size w w') : Rd b s e w' := by
  have := hb.block b h.lt
  unfold Rd at *; rw [this]; exact h
theorem Step.refl {b : Nat} {s : ByteArray} {e : Int} {w : World} (h : Rd b s e w) : Step b s e w w := ⟨rfl, rfl, rfl, Nat.le_refl _, fun _ _ _ => rfl, h⟩
theorem Step.trans {b : Nat} {s t : ByteArray} {e f : Int} {w w1 w2 : World} (h : Step b s e w w1) (k : Step b t f w1 w2) : Step b t f w w2 :=
  ⟨k.os.trans h.os, k.tape.trans h.tape, k.output.trans h.output, Nat.le_trans h.size k.size, fun j hj hn => (k.rest j (Nat.lt_of_lt_of_le hj h.size) hn).trans (h.rest j hj hn), k.here⟩
theorem Step.below {b : Nat} {s : ByteArray} {e : Int} {w w1 w2 : World} (h : Step b s e w w1) (k : Below w1.heap.size w1 w2) : Step b s e w w2 :=
  ⟨k.os.trans h.os, k.tape.trans h.tape, k.output.trans h.output, Nat.le_trans h.size k.size, fun j hj hn => (k.block j (Nat.lt_of_lt_of_le hj h.size)).trans (h.rest j hj hn), h.here.below k⟩
theorem Step.of_below {b : Nat} {s : ByteArray} {e : Int} {w w1 : World} (h : Rd b s e w) (k : Below w.heap.size w w1) : Step b s e w w1 := (Step.refl h).below k
theorem Step.drewN {b : Nat} {s : ByteArray} {e : Int} {w w1 : World} (h : Step b s e w w1) (n : Nat) : Step b s e w (w1.drewN n) := h.below (below_drewN (Below.refl _ _) n)
theorem Step.alloc {b : Nat} {s : ByteArray} {e : Int} {w w1 : World} (h : Step b s e w w1) (o : Obj) : Step b s e w (w1.alloc o) := h.below ((Below.refl _ _).alloc (Nat.le_refl _) o)
theorem Step.set0 {b : Nat} {s t : ByteArray} {e : Int} {w w1 : World} (h : Step b s e w w1) : Step b t e w (w1.setCell ⟨b, 0, none⟩ (.string t)) :=
  ⟨h.os, h.tape, h.output, by simpa [World.setCell] using h.size, fun j hj hn => (Below.heap_setCell w1 ⟨b, 0, none⟩ _ j hn).trans (h.rest j hj hn), by
    have := h.here
    have hl := h.here.lt
    unfold Rd at *
    simp [World.setCell, this, Array.getElem?_modify]⟩
theorem Step.set1 {b : Nat} {s : ByteArray} {e f : Int} {w w1 : World} (h : Step b s e w w1) : Step b s f w (w1.setCell ⟨b, 1, none⟩ (.int .i64 f)) :=
  ⟨h.os, h.tape, h.output, by simpa [World.setCell] using h.size, fun j hj hn => (Below.heap_setCell w1 ⟨b, 1, none⟩ _ j hn).trans (h.rest j hj hn), by
    have := h.here
    have hl := h.here.lt
    unfold Rd at *
    simp [World.setCell, this, Array.getElem?_modify]⟩

set_option maxHeartbeats 400000 in
theorem rd_Fail (b : Nat) (s : ByteArray) (e : Int) (w : World) (h : Rd b s e w) : Calls Try.prog 30 #[.pointer (some ⟨b, 0, none⟩)] w fun r w' => r = .returned (.int .i64 e) ∧ w' = w := by
  have c1 := h.c1
  clear h
  go_enter Try.func30, Try.ntmps30
  go_wp2
  go_ret
  exact ⟨rfl, rfl⟩
set_option maxHeartbeats 400000 in
theorem rd_Left (b : Nat) (s : ByteArray) (e : Int) (w : World) (h : Rd b s e w) : Calls Try.prog 32 #[.pointer (some ⟨b, 0, none⟩)] w fun r w' => r = .returned (.int .i64 s.size) ∧ w' = w := by
  have c0 := h.c0
  clear h
  go_enter Try.func32, Try.ntmps32
  go_wp2
  go_ret
  exact ⟨rfl, rfl⟩
/-- What is wrong at the end. -/
def endI (s : ByteArray) (e : Int) : Int := if e = 0 ∧ 0 < s.size then 3 else e
set_option maxHeartbeats 400000 in
theorem rd_End (b : Nat) (s : ByteArray) (e : Int) (w : World) (h : Rd b s e w) : Calls Try.prog 18 #[.pointer (some ⟨b, 0, none⟩)] w fun r w' => r = .returned (.int .i64 (endI s e)) ∧ w' = w := by
  have H : Hid (Rd b s e w) := h
  clear h
  by_cases he : e = 0
  · subst he
    by_cases hs : 0 < s.size
    · rw [show endI s 0 = 3 by unfold endI; rw [if_pos ⟨rfl, hs⟩]]
      go_enter Try.func18, Try.ntmps18
      go_wp2_with (first | (go_at_call 30; refine (rd_Fail _ _ _ _ H.out).mono ?_; rintro e w1 ⟨rfl, rfl⟩) | (go_at_call 32; refine (rd_Left _ _ _ _ H.out).mono ?_; rintro e w1 ⟨rfl, rfl⟩))
      go_ret
      exact ⟨rfl, rfl⟩
    · rw [show endI s 0 = 0 by unfold endI; rw [if_neg (by omega)]]
      go_enter Try.func18, Try.ntmps18
      go_wp2_with (first | (go_at_call 30; refine (rd_Fail _ _ _ _ H.out).mono ?_; rintro e w1 ⟨rfl, rfl⟩) | (go_at_call 32; refine (rd_Left _ _ _ _ H.out).mono ?_; rintro e w1 ⟨rfl, rfl⟩))
      go_ret
      exact ⟨rfl, rfl⟩
  · rw [show endI s e = e by unfold endI; rw [if_neg (by omega)]]
    have he' : (e == 0) = false := by simpa using he
    go_enter Try.func18, Try.ntmps18
    go_wp2_with (first | (go_at_call 30; refine (rd_Fail _ _ _ _ H.out).mono ?_; rintro e w1 ⟨rfl, rfl⟩) | (go_at_call 32; refine (rd_Left _ _ _ _ H.out).mono ?_; rintro e w1 ⟨rfl, rfl⟩))
    go_ret
    exact ⟨rfl, rfl⟩
set_option maxHeartbeats 400000 in
theorem rd_fail (b : Nat) (s : ByteArray) (e f : Int) (w : World) (h : Rd b s e w) : Calls Try.prog 45 #[.pointer (some ⟨b, 0, none⟩), .int .i64 f] w fun r w' => r = .returned (.tuple #[]) ∧ Step b ⟨#[]⟩ f w w' := by
  have c0 := h.c0
  have c1 := h.c1
  have f0 := h.fz 0
  have f1 := h.fz 1
  have H : Hid (Rd b s e w) := h
  clear h
  go_enter Try.func45, Try.ntmps45
  go_wp2
  go_end0
  exact ⟨rfl, ((Step.refl H.out).set0).set1⟩
end Go.Proofs.Ytghapohempogkaa
