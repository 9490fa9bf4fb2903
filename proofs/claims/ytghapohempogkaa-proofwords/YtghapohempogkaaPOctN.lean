/- Texts held against each other; what octet.Elems writes is read as it was. -/
import Derived.Test.YtghapohempogkaaOrJ
import Derived.Test.YtghapohempogkaaOctF
namespace Go.Proofs.Ytghapohempogkaa
open Go.RowKit

theorem StrRow.one {w : World} {a : Option Addr} {ss : List ByteArray} (h : StrRow w a ss) {i : Nat} (hi : i < ss.length) : ∃ b off, a = some ⟨b, off, none⟩ ∧ b < w.heap.size ∧ w.cell? ⟨b, off + i, none⟩ = some (.string (ss.getD i ByteArray.empty)) := by
  rcases h with rfl | ⟨b, off, e, hb, hc⟩
  · simp at hi
  · exact ⟨b, off, e, hb, hc i hi⟩
theorem elems_fwd {s t : ByteArray} {l m : Int} (es : List (Nat × Nat)) (hes : ltE es) (hw : ¬ wideI l = 0) (ha : allB l es = true) (hm : (es.length : Int) ≤ m) (h1 : (es.length : Int) ≤ 2147483647) (h : s.data.toList = (elemsS l es).data.toList ++ t.data.toList) : rdElems s 0 l m = (t, 0, some es) := by
  have hlv : levelB l = true := by
    by_cases h0 : levelB l = true
    · exact h0
    · exfalso
      apply hw
      simp [levelB] at h0
      unfold wideI
      split <;> (try split) <;> (try split) <;> (try split) <;> (try split) <;> first | rfl | omega
  have hh : rdHas s 0 l = (s, 0, true) := by unfold rdHas; rw [if_pos rfl, if_pos hlv]
  have hS : (elemsS l es).data.toList = (numS (es.length : Int)).data.toList ++ elemsL l es := by
    unfold elemsS
    rw [if_neg hw, if_pos ha]
  have e := num_fwd (s := s) (t := ⟨(elemsL l es ++ t.data.toList).toArray⟩) (by omega) h1 hm (by rw [h, hS]; simp)
  unfold rdElems
  rw [hh, e]
  dsimp only
  rw [if_pos rfl, if_pos rfl, Int.toNat_natCast, elms_fwd es _ [] hes ha rfl]
  simp
end Go.Proofs.Ytghapohempogkaa

/- Contracts of a nil reader, and of steeplelaw01.awake, over the seat's translation. -/
namespace Go.Proofs.Ytghapohempogkaa
open Go.RowKit

set_option maxHeartbeats 400000 in
theorem nil_num (m : Int) (w : World) : Calls Try.prog 29 #[.pointer none, .int .i64 m] w fun e w' => e = .returned (.int .i64 0) ∧ w' = w := by
  go_enter Try.func29, Try.ntmps29
  go_wp2
  go_ret
  exact ⟨rfl, rfl⟩
set_option maxHeartbeats 400000 in
theorem nil_elems (m l : Int) (w : World) : Calls Try.prog 31 #[.pointer none, .int .i64 m, .int .i64 l] w fun e w' => e = .returned (.slice none 0 0) ∧ w' = w := by
  go_enter Try.func31, Try.ntmps31
  go_wp2
  go_ret
  exact ⟨rfl, rfl⟩
set_option maxHeartbeats 400000 in
theorem nil_elem (m : Int) (w : World) : Calls Try.prog 47 #[.pointer none, .int .i64 m] w fun e w' => e = .returned (.agg #[.int .u64 0, .int .u64 0]) ∧ Below w.heap.size w w' := by
  go_enter Try.func47, Try.ntmps47
  go_wp2
  refine bodyPost_ret (v := .agg #[.int .u64 0, .int .u64 0]) (by simp [results, Try.results47, go_sem]) rfl ⟨rfl, ?_⟩
  go_grown

theorem rd_new (s : ByteArray) (w : World) : Rd w.heap.size s 0 (w.alloc (.cells #[.string s, .int .i64 0] 68)) := by
  show (w.heap.push _)[w.heap.size]? = _
  simp
set_option maxHeartbeats 400000 in
theorem read_any (s : ByteArray) (w : World) : Calls Try.prog 15 #[.string s] w fun e w' => e = .returned (.pointer (some ⟨w.heap.size, 0, none⟩)) ∧ w' = w.alloc (.cells #[.string s, .int .i64 0] 68) := by
  go_enter Try.func15, Try.ntmps15
  go_wp2
  go_ret
  exact ⟨rfl, rfl⟩
theorem num7 (b : Nat) (w : World) (h : Rd b ⟨#[0, 0, 0, 7]⟩ 0 w) : Calls Try.prog 29 #[.pointer (some ⟨b, 0, none⟩), .int .i64 9] w fun r w' => r = .returned (.int .i64 7) ∧ Step b (rdNum ⟨#[0, 0, 0, 7]⟩ 0 9).1 (rdNum ⟨#[0, 0, 0, 7]⟩ 0 9).2.1 w w' := by
  have f : (rdNum ⟨#[0, 0, 0, 7]⟩ 0 9).2.2 = 7 := by decide +kernel
  have := rd_num b ⟨#[0, 0, 0, 7]⟩ 0 9 w h
  rw [f] at this
  exact this
/-- A step of a reader that was made here. -/
theorem Step.fresh {s : ByteArray} {e : Int} {w w1 : World} {o : Obj} (h : Step w.heap.size s e (w.alloc o) w1) : Below w.heap.size w w1 :=
  ⟨h.os, h.tape, h.output, Nat.le_trans (by simp) h.size, fun k hk => (h.rest k (by simp; omega) (by omega)).trans (Below.heap_alloc w o k hk)⟩
theorem bthen {w a b : World} (h : Below w.heap.size w a) (k : Below a.heap.size a b) : Below w.heap.size w b := h.trans (k.mono h.size)
end Go.Proofs.Ytghapohempogkaa
