/- The contract of line.Ends over the seat's translation, and the errors of line.At beside those of steeplelaw17.may. -/
import Derived.Test.YtcnbaoijgfaljaaLnF
namespace Go.Proofs.Ytcnbaoijgfaljaa
open Go.RowKit
open Cb Ln
open Tw (pm)

theorem erow_take {w : World} {a : Option Addr} {es : List (Nat × Nat)} (h : ERow w a es) (m : Nat) : ERow w a (es.take m) := ⟨fun i hi => by
  have hl : i < es.length := by rw [List.length_take] at hi; omega
  have hm : i < m := by rw [List.length_take] at hi; omega
  obtain ⟨b, off, e, h1, h2, h3⟩ := h.cells i hl
  have : (es.take m).getD i (0, 0) = es.getD i (0, 0) := by simp [List.getD, hm]
  exact ⟨b, off, e, h1, by rw [this]; exact h2, by rw [this]; exact h3⟩⟩
theorem ltE_take {es : List (Nat × Nat)} (h : ltE es) (m : Nat) : ltE (es.take m) := fun e he => h e (List.mem_of_mem_take he)
/-- The first two values added. -/
def ends (t : List (Nat × Nat)) : Nat × Nat := xsum (t.take 2)
set_option maxHeartbeats 2000000 in
set_option maxRecDepth 100000 in
theorem lends (a : Option Addr) (cap : Nat) (t : List (Nat × Nat)) (ht : ltE t) (h1 : t.length ≤ 1000) (W : World) (ha : ERow W a t) (hcap : t.length ≤ cap) :
    Calls Try.prog 14 #[.slice a t.length cap] W fun e w' => e = .returned (.agg #[.int .u64 ((ends t).1 : Int), .int .u64 ((ends t).2 : Int)]) ∧ Below W.heap.size W w' := by
  obtain ⟨m, hm⟩ : ∃ m, m = (t.take 2).length := ⟨_, rfl⟩
  have hm2 : m = min 2 t.length := by rw [hm, List.length_take]
  have HS : Hid (∀ w, Below W.heap.size W w → Calls Try.prog 37 #[.slice a m cap] w fun e w' => e = .returned (.agg #[.int .u64 ((ends t).1 : Nat), .int .u64 ((ends t).2 : Nat)]) ∧ Below w.heap.size w w') := fun w hb => by
    rw [hm]; exact sum_row a cap (t.take 2) (ltE_take ht 2) (by rw [← hm]; omega) w (erow_take (ha.below hb) 2)
  have e1 : min (2 : Int) (t.length : Int) = (m : Int) := by omega
  have e2 : (m : Int) ≤ (t.length : Int) := by omega
  have e3 : (0 : Int) ≤ (m : Int) := by omega
  have e4 : (m : Int) ≤ (cap : Int) := by omega
  have D0 : Hid (Ew (W.alloc (Obj.cells #[.int .u64 0, .int .u64 0] 25)) W.heap.size 0 0 ∧ Below W.heap.size W (W.alloc (Obj.cells #[.int .u64 0, .int .u64 0] 25))) := ⟨⟨⟨by simp [go_sem], by simp [go_sem]⟩, by simp [go_sem], by simp [go_sem]⟩, by go_grown⟩
  clear ha ht hm hm2
  generalize ends t = z at *
  go_enter Try.func14, Try.ntmps14
  go_wp2_with (go_at_call 37; refine (HS.out _ D0.out.2).mono ?_; rintro e w1 ⟨rfl, hb1⟩; have D1 : Hid (Ew w1 W.heap.size 0 0 ∧ Below W.heap.size W w1) := ⟨D0.out.1.below hb1, D0.out.2.trans (hb1.mono D0.out.2.size)⟩; clear hb1; obtain ⟨⟨r1, r0⟩, t1, t0⟩ := D1.out.1)
  refine bodyPost_ret (v := .agg #[.int .u64 (z.1 : Int), .int .u64 (z.2 : Int)]) (by simp [results, Try.results14, go_sem, *]) rfl ⟨rfl, ?_⟩
  exact below2 (p := W.heap.size) D1.out.2 (Nat.le_refl _) _ _
/-- The error of At is that of the values, or that of the element. -/
theorem lhnd_lmy (l : Int) (t : List (Nat × Nat)) (x : Nat × Nat) : lhnd l ((t.length : Int) - 1) t [x] = if lmy l t = 0 then (if ofB l (x.1 : Int) (x.2 : Int) = true then 0 else 5) else lmy l t := by
  have hx : ([x].all fun e => ofB l (e.1 : Int) (e.2 : Int)) = ofB l (x.1 : Int) (x.2 : Int) := by simp
  have hn : (([] : List (Nat × Nat)).all fun e => ofB l (e.1 : Int) (e.2 : Int)) = true := rfl
  unfold lmy lhnd
  rw [hx, hn]
  generalize (t.all fun e => ofB l (e.1 : Int) (e.2 : Int)) = X
  generalize ofB l (x.1 : Int) (x.2 : Int) = Y
  by_cases h1 : 0 ≤ l ∧ l ≤ 7
  · rw [if_pos h1, if_pos h1]
    by_cases h2 : fitB l ((t.length : Int) - 1) = true ∧ t.length ≠ 0 ∧ (t.length : Int) ≤ (t.length : Int) - 1 + 1
    · rw [if_pos h2, if_pos h2]
      cases X <;> cases Y <;> rfl
    · rw [if_neg h2, if_neg h2]; rfl
  · rw [if_neg h1, if_neg h1]; rfl
end Go.Proofs.Ytcnbaoijgfaljaa
