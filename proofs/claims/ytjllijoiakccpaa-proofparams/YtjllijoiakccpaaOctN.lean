/- Contracts of a nil reader, and of steeplelaw01.awake, over the seat's translation. -/
import Derived.Test.YtjllijoiakccpaaOctF
namespace Go.Proofs.Ytjllijoiakccpaa
open Go.RowKit

set_option maxHeartbeats 400000 in
theorem nil_num (m : Int) (w : World) : Calls Try.prog 18 #[.pointer none, .int .i64 m] w fun e w' => e = .returned (.int .i64 0) ∧ w' = w := by
  go_enter Try.func18, Try.ntmps18
  go_wp2
  go_ret
  exact ⟨rfl, rfl⟩
theorem rd_new (s : ByteArray) (w : World) : Rd w.heap.size s 0 (w.alloc (.cells #[.string s, .int .i64 0] 51)) := by
  show (w.heap.push _)[w.heap.size]? = _
  simp
set_option maxHeartbeats 400000 in
theorem read_any (s : ByteArray) (w : World) : Calls Try.prog 11 #[.string s] w fun e w' => e = .returned (.pointer (some ⟨w.heap.size, 0, none⟩)) ∧ w' = w.alloc (.cells #[.string s, .int .i64 0] 51) := by
  go_enter Try.func11, Try.ntmps11
  go_wp2
  go_ret
  exact ⟨rfl, rfl⟩
theorem num7 (b : Nat) (w : World) (h : Rd b ⟨#[0, 0, 0, 7]⟩ 0 w) : Calls Try.prog 18 #[.pointer (some ⟨b, 0, none⟩), .int .i64 9] w fun r w' => r = .returned (.int .i64 7) ∧ Step b (rdNum ⟨#[0, 0, 0, 7]⟩ 0 9).1 (rdNum ⟨#[0, 0, 0, 7]⟩ 0 9).2.1 w w' := by
  have f : (rdNum ⟨#[0, 0, 0, 7]⟩ 0 9).2.2 = 7 := by decide +kernel
  have := rd_num b ⟨#[0, 0, 0, 7]⟩ 0 9 w h
  rw [f] at this
  exact this
/-- A step of a reader that was made here. -/
theorem Step.fresh {s : ByteArray} {e : Int} {w w1 : World} {o : Obj} (h : Step w.heap.size s e (w.alloc o) w1) : Below w.heap.size w w1 :=
  ⟨h.os, h.tape, h.output, Nat.le_trans (by simp) h.size, fun k hk => (h.rest k (by simp; omega) (by omega)).trans (Below.heap_alloc w o k hk)⟩
theorem bthen {w a b : World} (h : Below w.heap.size w a) (k : Below a.heap.size a b) : Below w.heap.size w b := h.trans (k.mono h.size)
end Go.Proofs.Ytjllijoiakccpaa
