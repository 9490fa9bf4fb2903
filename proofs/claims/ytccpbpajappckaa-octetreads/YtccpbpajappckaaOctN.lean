/- Contracts of a nil reader, and of steeplelaw01.awake, over the seat's translation. -/
import Derived.Test.YtccpbpajappckaaOctF
namespace Go.Proofs.Ytccpbpajappckaa
open Go.RowKit

set_option maxHeartbeats 400000 in
theorem nil_num (m : Int) (w : World) : Calls Try.prog 17 #[.pointer none, .int .i64 m] w fun e w' => e = .returned (.int .i64 0) ∧ w' = w := by
  go_enter Try.func17, Try.ntmps17
  go_wp2
  go_ret
  exact ⟨rfl, rfl⟩
set_option maxHeartbeats 400000 in
theorem nil_text (m : Int) (w : World) : Calls Try.prog 20 #[.pointer none, .int .i64 m] w fun e w' => e = .returned (.string ⟨#[]⟩) ∧ w' = w := by
  go_enter Try.func20, Try.ntmps20
  go_wp2
  go_ret
  exact ⟨rfl, rfl⟩
set_option maxHeartbeats 400000 in
theorem nil_list (m l : Int) (w : World) : Calls Try.prog 18 #[.pointer none, .int .i64 m, .int .i64 l] w fun e w' => e = .returned (.slice none 0 0) ∧ w' = w := by
  go_enter Try.func18, Try.ntmps18
  go_wp2_with (go_at_call 17; refine (nil_num _ _).mono ?_; rintro e w1 ⟨rfl, rfl⟩)
  go_rounds 1
  go_ret
  exact ⟨rfl, rfl⟩
set_option maxHeartbeats 400000 in
theorem nil_elems (m l : Int) (w : World) : Calls Try.prog 19 #[.pointer none, .int .i64 m, .int .i64 l] w fun e w' => e = .returned (.slice none 0 0) ∧ w' = w := by
  go_enter Try.func19, Try.ntmps19
  go_wp2
  go_ret
  exact ⟨rfl, rfl⟩
set_option maxHeartbeats 400000 in
theorem nil_elem (m : Int) (w : World) : Calls Try.prog 29 #[.pointer none, .int .i64 m] w fun e w' => e = .returned (.agg #[.int .u64 0, .int .u64 0]) ∧ Below w.heap.size w w' := by
  go_enter Try.func29, Try.ntmps29
  go_wp2
  refine bodyPost_ret (v := .agg #[.int .u64 0, .int .u64 0]) (by simp [results, Try.results29, go_sem]) rfl ⟨rfl, ?_⟩
  go_grown

theorem rd_new (s : ByteArray) (w : World) : Rd w.heap.size s 0 (w.alloc (.cells #[.string s, .int .i64 0] 58)) := by
  show (w.heap.push _)[w.heap.size]? = _
  simp
set_option maxHeartbeats 400000 in
theorem read_any (s : ByteArray) (w : World) : Calls Try.prog 6 #[.string s] w fun e w' => e = .returned (.pointer (some ⟨w.heap.size, 0, none⟩)) ∧ w' = w.alloc (.cells #[.string s, .int .i64 0] 58) := by
  go_enter Try.func6, Try.ntmps6
  go_wp2
  go_ret
  exact ⟨rfl, rfl⟩
theorem num7 (b : Nat) (w : World) (h : Rd b ⟨#[0, 0, 0, 7]⟩ 0 w) : Calls Try.prog 17 #[.pointer (some ⟨b, 0, none⟩), .int .i64 9] w fun r w' => r = .returned (.int .i64 7) ∧ Step b (rdNum ⟨#[0, 0, 0, 7]⟩ 0 9).1 (rdNum ⟨#[0, 0, 0, 7]⟩ 0 9).2.1 w w' := by
  have f : (rdNum ⟨#[0, 0, 0, 7]⟩ 0 9).2.2 = 7 := by decide +kernel
  have := rd_num b ⟨#[0, 0, 0, 7]⟩ 0 9 w h
  rw [f] at this
  exact this
/-- A step of a reader that was made here. -/
theorem Step.fresh {s : ByteArray} {e : Int} {w w1 : World} {o : Obj} (h : Step w.heap.size s e (w.alloc o) w1) : Below w.heap.size w w1 :=
  ⟨h.os, h.tape, h.output, Nat.le_trans (by simp) h.size, fun k hk => (h.rest k (by simp; omega) (by omega)).trans (Below.heap_alloc w o k hk)⟩
theorem bthen {w a b : World} (h : Below w.heap.size w a) (k : Below a.heap.size a b) : Below w.heap.size w b := h.trans (k.mono h.size)
set_option maxHeartbeats 400000 in
theorem awake_any (w : World) : Calls Try.prog 5 #[] w fun e w' => e = .returned (.bool true) ∧ Below w.heap.size w w' := by
  have f1 : (numS 258).toList = [0, 0, 1, 2] := by decide +kernel
  have f2 : (textS { data := #[97, 98] }).toList = [0, 0, 0, 2, 97, 98] := by decide +kernel
  have f3 : (elemS 4 0 258).toList = [2, 1] := by decide +kernel
  have f4 : (elemS 3 0 258).toList = [] := by decide +kernel
  go_enter Try.func5, Try.ntmps5
  go_wp2_with (first | (go_at_call 13; refine (num_any _ _).mono ?_; rintro e w1 ⟨rfl, hb1⟩) | (go_at_call 16; refine (text_any _ (by decide) _).mono ?_; rintro e w2 ⟨rfl, hb2⟩) | (go_at_call 24; refine (elem_any _ _ _ (by decide) (by decide) (by decide) (by decide) _).mono ?_; rintro e w3 ⟨rfl, hb3⟩) | (go_at_call 6; refine (read_any _ _).mono ?_; rintro e w4 ⟨rfl, rfl⟩) | (go_at_call 17; refine (num7 _ _ (rd_new _ _)).mono ?_; rintro e w5 ⟨rfl, h5⟩))
  go_ret
  exact ⟨rfl, bthen (bthen (bthen (bthen hb1 hb2) ‹Below w2.heap.size w2 _›) hb3) h5.fresh⟩
end Go.Proofs.Ytccpbpajappckaa
