/- Contracts of expr.below, isLevel, formed, hindrance over the seat's translation; rows of steps. -/
import Derived.Test.YtfhojakhoobnhaaTwBl
import Derived.Deep.RegionHeld3
namespace Go.Proofs.Ytfhojakhoobnhaa
open Go.RowKit

/-- A step: its kind, its two numbers, its element. -/
structure Stp where
  k : Int
  a : Int
  b : Int
  v : Nat × Nat
/-- A step by value. -/
def Stp.val (o : Stp) : Value := .agg #[.int .i64 o.k, .int .i64 o.a, .int .i64 o.b, .int .u64 (o.v.1 : Int), .int .u64 (o.v.2 : Int)]
def Stp.ok (o : Stp) : Prop := o.v.1 < 2 ^ 64 ∧ o.v.2 < 2 ^ 64
def zst : Stp := ⟨0, 0, 0, (0, 0)⟩
/-- A row of steps. -/
structure ORow (w : World) (a : Option Addr) (l : List Stp) : Prop where
  cells : ∀ i, i < l.length → ∃ b off, a = some ⟨b, off, none⟩ ∧ b < w.heap.size ∧ w.cell? ⟨b, off + i * 5, none⟩ = some (.int .i64 (l.getD i zst).k) ∧ w.cell? ⟨b, off + i * 5 + 1, none⟩ = some (.int .i64 (l.getD i zst).a) ∧ w.cell? ⟨b, off + i * 5 + 2, none⟩ = some (.int .i64 (l.getD i zst).b) ∧ w.cell? ⟨b, off + i * 5 + 3, none⟩ = some (.int .u64 ((l.getD i zst).v.1 : Int)) ∧ w.cell? ⟨b, off + i * 5 + 4, none⟩ = some (.int .u64 ((l.getD i zst).v.2 : Int))
theorem ORow.below {w w' : World} {a : Option Addr} {l : List Stp} (h : ORow w a l) (hb : Below w.heap.size w w') : ORow w' a l := ⟨fun i hi => by
  obtain ⟨b, off, e, h0, h1, h2, h3, h4, h5⟩ := h.cells i hi
  exact ⟨b, off, e, Nat.lt_of_lt_of_le h0 hb.size, keepc hb h1, keepc hb h2, keepc hb h3, keepc hb h4, keepc hb h5⟩⟩
theorem xbelow (i n : Int) : Ret 113 #[.int .i64 i, .int .i64 n] (.bool (decide (0 ≤ i ∧ i < n))) := by
  intro W
  by_cases h : 0 ≤ i ∧ i < n
  · rw [decide_eq_true h]
    obtain ⟨h1, h2⟩ := h
    go_enter Try.func113, Try.ntmps113
    go_wp2
    go_ret
    exact ⟨rfl, by first | exact Below.refl _ _ | go_grown⟩
  · rw [decide_eq_false h]
    rcases Int.lt_or_le i 0 with h1 | h1
    · have h2 : ¬ 0 ≤ i := by omega
      clear h
      go_enter Try.func113, Try.ntmps113
      go_wp2
      go_ret
      exact ⟨rfl, by first | exact Below.refl _ _ | go_grown⟩
    · have h2 : ¬ i < n := by omega
      clear h
      go_enter Try.func113, Try.ntmps113
      go_wp2
      go_ret
      exact ⟨rfl, by first | exact Below.refl _ _ | go_grown⟩
/-- Is a step of a kind, names it steps ahead alone, and has it nothing that its kind does not need? -/
def frm (o : Stp) (n : Int) : Bool :=
  if o.k = 1 then decide (o.a = 0 ∧ o.b = 0)
  else if o.k = 2 then decide (o.b = 0 ∧ o.v = (0, 0))
  else if o.k = 3 ∨ o.k = 4 then decide ((0 ≤ o.a ∧ o.a < n) ∧ (0 ≤ o.b ∧ o.b < n) ∧ o.v = (0, 0))
  else false
theorem val_zero {v : Nat × Nat} : (v = (0, 0)) ↔ ((v.1 : Int) = 0 ∧ (v.2 : Int) = 0) := by
  constructor
  · rintro rfl; exact ⟨rfl, rfl⟩
  · rintro ⟨h1, h2⟩; exact Prod.ext (by omega) (by omega)
set_option maxHeartbeats 4000000 in
set_option maxRecDepth 100000 in
theorem xform1 (a b : Int) (v : Nat × Nat) (n : Int) : Ret 112 #[.agg #[.int .i64 1, .int .i64 a, .int .i64 b, .int .u64 (v.1 : Int), .int .u64 (v.2 : Int)], .int .i64 n] (.bool (decide (a = 0 ∧ b = 0))) := by
  intro W
  have c0 : (W.alloc (Obj.cells #[.int .i64 1, .int .i64 a, .int .i64 b, .int .u64 (v.1 : Int), .int .u64 (v.2 : Int)] 91)).cell? ⟨W.heap.size, 0, none⟩ = some (.int .i64 1) := by simp [go_sem]
  have c1 : (W.alloc (Obj.cells #[.int .i64 1, .int .i64 a, .int .i64 b, .int .u64 (v.1 : Int), .int .u64 (v.2 : Int)] 91)).cell? ⟨W.heap.size, 1, none⟩ = some (.int .i64 a) := by simp [go_sem]
  have c2 : (W.alloc (Obj.cells #[.int .i64 1, .int .i64 a, .int .i64 b, .int .u64 (v.1 : Int), .int .u64 (v.2 : Int)] 91)).cell? ⟨W.heap.size, 2, none⟩ = some (.int .i64 b) := by simp [go_sem]
  have c3 : (W.alloc (Obj.cells #[.int .i64 1, .int .i64 a, .int .i64 b, .int .u64 (v.1 : Int), .int .u64 (v.2 : Int)] 91)).cell? ⟨W.heap.size, 3, none⟩ = some (.int .u64 (v.1 : Int)) := by simp [go_sem]
  have c4 : (W.alloc (Obj.cells #[.int .i64 1, .int .i64 a, .int .i64 b, .int .u64 (v.1 : Int), .int .u64 (v.2 : Int)] 91)).cell? ⟨W.heap.size, 4, none⟩ = some (.int .u64 (v.2 : Int)) := by simp [go_sem]
  have D0 : Hid (Below W.heap.size W (W.alloc (Obj.cells #[.int .i64 1, .int .i64 a, .int .i64 b, .int .u64 (v.1 : Int), .int .u64 (v.2 : Int)] 91))) := by show Below _ _ _; go_grown
  by_cases h1 : a = 0
  · by_cases h2 : b = 0
    · rw [decide_eq_true ⟨h1, h2⟩]
      subst h1 h2
      go_enter Try.func112, Try.ntmps112
      go_wp2
      go_ret
      exact ⟨rfl, D0.out⟩
    · rw [decide_eq_false (fun h => h2 h.2)]
      have h2' : (b == 0) = false := by rw [beq_eq_false_iff_ne]; exact h2
      subst h1
      go_enter Try.func112, Try.ntmps112
      go_wp2
      go_ret
      exact ⟨rfl, D0.out⟩
  · rw [decide_eq_false (fun h => h1 h.1)]
    have h1' : (a == 0) = false := by rw [beq_eq_false_iff_ne]; exact h1
    go_enter Try.func112, Try.ntmps112
    go_wp2
    go_ret
    exact ⟨rfl, D0.out⟩
set_option maxHeartbeats 4000000 in
set_option maxRecDepth 100000 in
theorem xform2 (a b : Int) (v : Nat × Nat) (n : Int) : Ret 112 #[.agg #[.int .i64 2, .int .i64 a, .int .i64 b, .int .u64 (v.1 : Int), .int .u64 (v.2 : Int)], .int .i64 n] (.bool (decide (b = 0 ∧ v = (0, 0)))) := by
  intro W
  have c0 : (W.alloc (Obj.cells #[.int .i64 2, .int .i64 a, .int .i64 b, .int .u64 (v.1 : Int), .int .u64 (v.2 : Int)] 91)).cell? ⟨W.heap.size, 0, none⟩ = some (.int .i64 2) := by simp [go_sem]
  have c1 : (W.alloc (Obj.cells #[.int .i64 2, .int .i64 a, .int .i64 b, .int .u64 (v.1 : Int), .int .u64 (v.2 : Int)] 91)).cell? ⟨W.heap.size, 1, none⟩ = some (.int .i64 a) := by simp [go_sem]
  have c2 : (W.alloc (Obj.cells #[.int .i64 2, .int .i64 a, .int .i64 b, .int .u64 (v.1 : Int), .int .u64 (v.2 : Int)] 91)).cell? ⟨W.heap.size, 2, none⟩ = some (.int .i64 b) := by simp [go_sem]
  have c3 : (W.alloc (Obj.cells #[.int .i64 2, .int .i64 a, .int .i64 b, .int .u64 (v.1 : Int), .int .u64 (v.2 : Int)] 91)).cell? ⟨W.heap.size, 3, none⟩ = some (.int .u64 (v.1 : Int)) := by simp [go_sem]
  have c4 : (W.alloc (Obj.cells #[.int .i64 2, .int .i64 a, .int .i64 b, .int .u64 (v.1 : Int), .int .u64 (v.2 : Int)] 91)).cell? ⟨W.heap.size, 4, none⟩ = some (.int .u64 (v.2 : Int)) := by simp [go_sem]
  have D0 : Hid (Below W.heap.size W (W.alloc (Obj.cells #[.int .i64 2, .int .i64 a, .int .i64 b, .int .u64 (v.1 : Int), .int .u64 (v.2 : Int)] 91))) := by show Below _ _ _; go_grown
  by_cases h1 : b = 0
  · rw [show decide (b = 0 ∧ v = (0, 0)) = decide (v = (0, 0)) by simp [h1]]
    subst h1
    clear D0
    go_enter Try.func112, Try.ntmps112
    go_wp2
    all_goals
      go_ret
      refine ⟨?_, by go_grown⟩
      first
        | (have hv : v = (0, 0) := Prod.ext ‹v.1 = 0› ‹v.2 = 0›; rw [decide_eq_true hv]; rfl)
        | (have hv : ¬ v = (0, 0) := (fun h => ‹¬ v.2 = 0› (by rw [h])); rw [decide_eq_false hv]; rfl)
        | (have hv : ¬ v = (0, 0) := (fun h => ‹¬ v.1 = 0› (by rw [h])); rw [decide_eq_false hv]; rfl)
  · rw [decide_eq_false (fun h => h1 h.1)]
    have h1' : (b == 0) = false := by rw [beq_eq_false_iff_ne]; exact h1
    go_enter Try.func112, Try.ntmps112
    go_wp2
    go_ret
    exact ⟨rfl, D0.out⟩
set_option maxHeartbeats 4000000 in
set_option maxRecDepth 100000 in
theorem xform3 (a b : Int) (v : Nat × Nat) (n : Int) : Ret 112 #[.agg #[.int .i64 3, .int .i64 a, .int .i64 b, .int .u64 (v.1 : Int), .int .u64 (v.2 : Int)], .int .i64 n] (.bool (decide ((0 ≤ a ∧ a < n) ∧ (0 ≤ b ∧ b < n) ∧ v = (0, 0)))) := by
  intro W
  have c0 : (W.alloc (Obj.cells #[.int .i64 3, .int .i64 a, .int .i64 b, .int .u64 (v.1 : Int), .int .u64 (v.2 : Int)] 91)).cell? ⟨W.heap.size, 0, none⟩ = some (.int .i64 3) := by simp [go_sem]
  have c1 : (W.alloc (Obj.cells #[.int .i64 3, .int .i64 a, .int .i64 b, .int .u64 (v.1 : Int), .int .u64 (v.2 : Int)] 91)).cell? ⟨W.heap.size, 1, none⟩ = some (.int .i64 a) := by simp [go_sem]
  have c2 : (W.alloc (Obj.cells #[.int .i64 3, .int .i64 a, .int .i64 b, .int .u64 (v.1 : Int), .int .u64 (v.2 : Int)] 91)).cell? ⟨W.heap.size, 2, none⟩ = some (.int .i64 b) := by simp [go_sem]
  have c3 : (W.alloc (Obj.cells #[.int .i64 3, .int .i64 a, .int .i64 b, .int .u64 (v.1 : Int), .int .u64 (v.2 : Int)] 91)).cell? ⟨W.heap.size, 3, none⟩ = some (.int .u64 (v.1 : Int)) := by simp [go_sem]
  have c4 : (W.alloc (Obj.cells #[.int .i64 3, .int .i64 a, .int .i64 b, .int .u64 (v.1 : Int), .int .u64 (v.2 : Int)] 91)).cell? ⟨W.heap.size, 4, none⟩ = some (.int .u64 (v.2 : Int)) := by simp [go_sem]
  have D0 : Hid (Below W.heap.size W (W.alloc (Obj.cells #[.int .i64 3, .int .i64 a, .int .i64 b, .int .u64 (v.1 : Int), .int .u64 (v.2 : Int)] 91))) := by show Below _ _ _; go_grown
  have B1 := xbelow a n
  have B2 := xbelow b n
  by_cases h1 : 0 ≤ a ∧ a < n
  · rw [decide_eq_true h1] at B1
    by_cases h2 : 0 ≤ b ∧ b < n
    · rw [decide_eq_true h2] at B2
      rw [show decide ((0 ≤ a ∧ a < n) ∧ (0 ≤ b ∧ b < n) ∧ v = (0, 0)) = decide (v = (0, 0)) by simp [h1, h2]]
      clear h1 h2
      go_enter Try.func112, Try.ntmps112
      go_wp2_with (first | (go_at_call_of 113 (#[.int .i64 a, .int .i64 n] : Array Value); refine (B1.go _).mono ?_; rintro e w1 ⟨rfl, hb1⟩; have D1 : Hid (Below W.heap.size W w1) := D0.out.trans (hb1.mono D0.out.size); have d2 := keepc hb1 c2; have d3 := keepc hb1 c3; have d4 := keepc hb1 c4; clear hb1 B1) | (go_at_call 113; refine (B2.go _).mono ?_; rintro e w2 ⟨rfl, hb2⟩; have D2 : Hid (Below W.heap.size W w2) := D1.out.trans (hb2.mono D1.out.size); have e3 := keepc hb2 d3; have e4 := keepc hb2 d4; clear hb2))
      all_goals
        go_ret
        refine ⟨?_, D2.out⟩
        first
          | (have hv : v = (0, 0) := Prod.ext ‹v.1 = 0› ‹v.2 = 0›; rw [decide_eq_true hv]; rfl)
          | (have hv : ¬ v = (0, 0) := (fun h => ‹¬ v.2 = 0› (by rw [h])); rw [decide_eq_false hv]; rfl)
          | (have hv : ¬ v = (0, 0) := (fun h => ‹¬ v.1 = 0› (by rw [h])); rw [decide_eq_false hv]; rfl)
    · rw [decide_eq_false h2] at B2
      rw [decide_eq_false (fun h => h2 h.2.1)]
      clear h1 h2
      go_enter Try.func112, Try.ntmps112
      go_wp2_with (first | (go_at_call_of 113 (#[.int .i64 a, .int .i64 n] : Array Value); refine (B1.go _).mono ?_; rintro e w1 ⟨rfl, hb1⟩; have D1 : Hid (Below W.heap.size W w1) := D0.out.trans (hb1.mono D0.out.size); have d2 := keepc hb1 c2; have d3 := keepc hb1 c3; have d4 := keepc hb1 c4; clear hb1 B1) | (go_at_call 113; refine (B2.go _).mono ?_; rintro e w2 ⟨rfl, hb2⟩; have D2 : Hid (Below W.heap.size W w2) := D1.out.trans (hb2.mono D1.out.size); have e3 := keepc hb2 d3; have e4 := keepc hb2 d4; clear hb2))
      go_ret
      exact ⟨rfl, D2.out⟩
  · rw [decide_eq_false h1] at B1
    rw [decide_eq_false (fun h => h1 h.1)]
    clear h1
    go_enter Try.func112, Try.ntmps112
    go_wp2_with (first | (go_at_call_of 113 (#[.int .i64 a, .int .i64 n] : Array Value); refine (B1.go _).mono ?_; rintro e w1 ⟨rfl, hb1⟩; have D1 : Hid (Below W.heap.size W w1) := D0.out.trans (hb1.mono D0.out.size); have d2 := keepc hb1 c2; have d3 := keepc hb1 c3; have d4 := keepc hb1 c4; clear hb1 B1) | (go_at_call 113; refine (B2.go _).mono ?_; rintro e w2 ⟨rfl, hb2⟩; have D2 : Hid (Below W.heap.size W w2) := D1.out.trans (hb2.mono D1.out.size); have e3 := keepc hb2 d3; have e4 := keepc hb2 d4; clear hb2))
    go_ret
    exact ⟨rfl, D1.out⟩
set_option maxHeartbeats 4000000 in
set_option maxRecDepth 100000 in
theorem xform4 (a b : Int) (v : Nat × Nat) (n : Int) : Ret 112 #[.agg #[.int .i64 4, .int .i64 a, .int .i64 b, .int .u64 (v.1 : Int), .int .u64 (v.2 : Int)], .int .i64 n] (.bool (decide ((0 ≤ a ∧ a < n) ∧ (0 ≤ b ∧ b < n) ∧ v = (0, 0)))) := by
  intro W
  have c0 : (W.alloc (Obj.cells #[.int .i64 4, .int .i64 a, .int .i64 b, .int .u64 (v.1 : Int), .int .u64 (v.2 : Int)] 91)).cell? ⟨W.heap.size, 0, none⟩ = some (.int .i64 4) := by simp [go_sem]
  have c1 : (W.alloc (Obj.cells #[.int .i64 4, .int .i64 a, .int .i64 b, .int .u64 (v.1 : Int), .int .u64 (v.2 : Int)] 91)).cell? ⟨W.heap.size, 1, none⟩ = some (.int .i64 a) := by simp [go_sem]
  have c2 : (W.alloc (Obj.cells #[.int .i64 4, .int .i64 a, .int .i64 b, .int .u64 (v.1 : Int), .int .u64 (v.2 : Int)] 91)).cell? ⟨W.heap.size, 2, none⟩ = some (.int .i64 b) := by simp [go_sem]
  have c3 : (W.alloc (Obj.cells #[.int .i64 4, .int .i64 a, .int .i64 b, .int .u64 (v.1 : Int), .int .u64 (v.2 : Int)] 91)).cell? ⟨W.heap.size, 3, none⟩ = some (.int .u64 (v.1 : Int)) := by simp [go_sem]
  have c4 : (W.alloc (Obj.cells #[.int .i64 4, .int .i64 a, .int .i64 b, .int .u64 (v.1 : Int), .int .u64 (v.2 : Int)] 91)).cell? ⟨W.heap.size, 4, none⟩ = some (.int .u64 (v.2 : Int)) := by simp [go_sem]
  have D0 : Hid (Below W.heap.size W (W.alloc (Obj.cells #[.int .i64 4, .int .i64 a, .int .i64 b, .int .u64 (v.1 : Int), .int .u64 (v.2 : Int)] 91))) := by show Below _ _ _; go_grown
  have B1 := xbelow a n
  have B2 := xbelow b n
  by_cases h1 : 0 ≤ a ∧ a < n
  · rw [decide_eq_true h1] at B1
    by_cases h2 : 0 ≤ b ∧ b < n
    · rw [decide_eq_true h2] at B2
      rw [show decide ((0 ≤ a ∧ a < n) ∧ (0 ≤ b ∧ b < n) ∧ v = (0, 0)) = decide (v = (0, 0)) by simp [h1, h2]]
      clear h1 h2
      go_enter Try.func112, Try.ntmps112
      go_wp2_with (first | (go_at_call_of 113 (#[.int .i64 a, .int .i64 n] : Array Value); refine (B1.go _).mono ?_; rintro e w1 ⟨rfl, hb1⟩; have D1 : Hid (Below W.heap.size W w1) := D0.out.trans (hb1.mono D0.out.size); have d2 := keepc hb1 c2; have d3 := keepc hb1 c3; have d4 := keepc hb1 c4; clear hb1 B1) | (go_at_call 113; refine (B2.go _).mono ?_; rintro e w2 ⟨rfl, hb2⟩; have D2 : Hid (Below W.heap.size W w2) := D1.out.trans (hb2.mono D1.out.size); have e3 := keepc hb2 d3; have e4 := keepc hb2 d4; clear hb2))
      all_goals
        go_ret
        refine ⟨?_, D2.out⟩
        first
          | (have hv : v = (0, 0) := Prod.ext ‹v.1 = 0› ‹v.2 = 0›; rw [decide_eq_true hv]; rfl)
          | (have hv : ¬ v = (0, 0) := (fun h => ‹¬ v.2 = 0› (by rw [h])); rw [decide_eq_false hv]; rfl)
          | (have hv : ¬ v = (0, 0) := (fun h => ‹¬ v.1 = 0› (by rw [h])); rw [decide_eq_false hv]; rfl)
    · rw [decide_eq_false h2] at B2
      rw [decide_eq_false (fun h => h2 h.2.1)]
      clear h1 h2
      go_enter Try.func112, Try.ntmps112
      go_wp2_with (first | (go_at_call_of 113 (#[.int .i64 a, .int .i64 n] : Array Value); refine (B1.go _).mono ?_; rintro e w1 ⟨rfl, hb1⟩; have D1 : Hid (Below W.heap.size W w1) := D0.out.trans (hb1.mono D0.out.size); have d2 := keepc hb1 c2; have d3 := keepc hb1 c3; have d4 := keepc hb1 c4; clear hb1 B1) | (go_at_call 113; refine (B2.go _).mono ?_; rintro e w2 ⟨rfl, hb2⟩; have D2 : Hid (Below W.heap.size W w2) := D1.out.trans (hb2.mono D1.out.size); have e3 := keepc hb2 d3; have e4 := keepc hb2 d4; clear hb2))
      go_ret
      exact ⟨rfl, D2.out⟩
  · rw [decide_eq_false h1] at B1
    rw [decide_eq_false (fun h => h1 h.1)]
    clear h1
    go_enter Try.func112, Try.ntmps112
    go_wp2_with (first | (go_at_call_of 113 (#[.int .i64 a, .int .i64 n] : Array Value); refine (B1.go _).mono ?_; rintro e w1 ⟨rfl, hb1⟩; have D1 : Hid (Below W.heap.size W w1) := D0.out.trans (hb1.mono D0.out.size); have d2 := keepc hb1 c2; have d3 := keepc hb1 c3; have d4 := keepc hb1 c4; clear hb1 B1) | (go_at_call 113; refine (B2.go _).mono ?_; rintro e w2 ⟨rfl, hb2⟩; have D2 : Hid (Below W.heap.size W w2) := D1.out.trans (hb2.mono D1.out.size); have e3 := keepc hb2 d3; have e4 := keepc hb2 d4; clear hb2))
    go_ret
    exact ⟨rfl, D1.out⟩
set_option maxHeartbeats 4000000 in
set_option maxRecDepth 100000 in
theorem xform0 (k a b : Int) (v : Nat × Nat) (n : Int) (h1 : ¬ k = 1) (h2 : ¬ k = 2) (h3 : ¬ k = 3) (h4 : ¬ k = 4) : Ret 112 #[.agg #[.int .i64 k, .int .i64 a, .int .i64 b, .int .u64 (v.1 : Int), .int .u64 (v.2 : Int)], .int .i64 n] (.bool false) := by
  intro W
  have c0 : (W.alloc (Obj.cells #[.int .i64 k, .int .i64 a, .int .i64 b, .int .u64 (v.1 : Int), .int .u64 (v.2 : Int)] 91)).cell? ⟨W.heap.size, 0, none⟩ = some (.int .i64 k) := by simp [go_sem]
  have c1 : (W.alloc (Obj.cells #[.int .i64 k, .int .i64 a, .int .i64 b, .int .u64 (v.1 : Int), .int .u64 (v.2 : Int)] 91)).cell? ⟨W.heap.size, 1, none⟩ = some (.int .i64 a) := by simp [go_sem]
  have c2 : (W.alloc (Obj.cells #[.int .i64 k, .int .i64 a, .int .i64 b, .int .u64 (v.1 : Int), .int .u64 (v.2 : Int)] 91)).cell? ⟨W.heap.size, 2, none⟩ = some (.int .i64 b) := by simp [go_sem]
  have c3 : (W.alloc (Obj.cells #[.int .i64 k, .int .i64 a, .int .i64 b, .int .u64 (v.1 : Int), .int .u64 (v.2 : Int)] 91)).cell? ⟨W.heap.size, 3, none⟩ = some (.int .u64 (v.1 : Int)) := by simp [go_sem]
  have c4 : (W.alloc (Obj.cells #[.int .i64 k, .int .i64 a, .int .i64 b, .int .u64 (v.1 : Int), .int .u64 (v.2 : Int)] 91)).cell? ⟨W.heap.size, 4, none⟩ = some (.int .u64 (v.2 : Int)) := by simp [go_sem]
  have D0 : Hid (Below W.heap.size W (W.alloc (Obj.cells #[.int .i64 k, .int .i64 a, .int .i64 b, .int .u64 (v.1 : Int), .int .u64 (v.2 : Int)] 91))) := by show Below _ _ _; go_grown
  have g1 : (k == 1) = false := by rw [beq_eq_false_iff_ne]; exact h1
  have g2 : (k == 2) = false := by rw [beq_eq_false_iff_ne]; exact h2
  have g3 : (k == 3) = false := by rw [beq_eq_false_iff_ne]; exact h3
  have g4 : (k == 4) = false := by rw [beq_eq_false_iff_ne]; exact h4
  go_enter Try.func112, Try.ntmps112
  go_wp2
  go_ret
  exact ⟨rfl, D0.out⟩
theorem xformed (o : Stp) (n : Int) : Ret 112 #[o.val, .int .i64 n] (.bool (frm o n)) := by
  obtain ⟨k, a, b, v⟩ := o
  unfold frm Stp.val
  by_cases h1 : k = 1
  · rw [if_pos h1]; subst h1; exact xform1 a b v n
  · rw [if_neg h1]
    by_cases h2 : k = 2
    · rw [if_pos h2]; subst h2; exact xform2 a b v n
    · rw [if_neg h2]
      by_cases h3 : k = 3
      · rw [if_pos (.inl h3)]; subst h3; exact xform3 a b v n
      · by_cases h4 : k = 4
        · rw [if_pos (.inr h4)]; subst h4; exact xform4 a b v n
        · rw [if_neg (fun h => h.elim h3 h4)]; exact xform0 k a b v n h1 h2 h3 h4
end Go.Proofs.Ytfhojakhoobnhaa
