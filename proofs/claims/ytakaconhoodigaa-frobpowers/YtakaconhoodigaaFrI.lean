/- The walk of steeplelaw33.FrobPowers over the seat's translation. -/
import Derived.Test.YtakaconhoodigaaFrG
import Derived.Test.YtakaconhoodigaaFrH
import Derived.BigQuiet
namespace Go.Proofs.Ytakaconhoodigaa
open Go.RowKit
open Cb
open Tw (pm)

theorem Bl.swapW {W w : World} {l : List (Nat × Nat × Nat)} {p q : Nat} (h : Bl W w l [p, q]) : Bl W w l [q, p] := ⟨h.els, ⟨h.wrs.2.1, h.wrs.1, trivial⟩, h.b⟩
theorem Bl.swapE {W w : World} {l : List (Nat × Nat × Nat)} {x y : Nat × Nat × Nat} {r : List Nat} (h : Bl W w (x :: y :: l) r) : Bl W w (y :: x :: l) r := ⟨⟨h.els.2.1, h.els.1, h.els.2.2⟩, h.wrs, h.b⟩

set_option maxHeartbeats 8000000 in
set_option maxRecDepth 100000 in
theorem fp_no (l n : Int) (a p r : Nat × Nat) (HP : Hid (Ret 9 #[.int .i64 l, .agg #[.int .u64 (a.1 : Int), .int .u64 (a.2 : Int)], .int .i64 n] (.agg #[.int .u64 (p.1 : Int), .int .u64 (p.2 : Int)]))) (HR : Hid (Ret 10 #[.int .i64 l, .agg #[.int .u64 (a.1 : Int), .int .u64 (a.2 : Int)]] (.agg #[.int .u64 (r.1 : Int), .int .u64 (r.2 : Int)]))) (HO : Hid (Ret 11 #[.int .i64 l, .agg #[.int .u64 (a.1 : Int), .int .u64 (a.2 : Int)]] (.bool false))) (hp : Hid (p = (0, 0))) (hr : Hid (r = (0, 0))) : Ret 3 #[.int .i64 l, .agg #[.int .u64 (a.1 : Int), .int .u64 (a.2 : Int)], .int .i64 n] (.bool true) := by
  intro W
  have HA := hidF awake33
  go_enter Try.func3, Try.ntmps3
  go_upto_region 2 with fail
  have B : Bl W ((W.alloc (Obj.cells #[.int .u64 (a.1 : Int), .int .u64 (a.2 : Int)] 24)).alloc (Obj.cells #[.int .u64 (a.1 : Int), .int .u64 (a.2 : Int)] 25)) [(W.heap.size, a.1, a.2), (W.heap.size + 1, a.1, a.2)] [] :=
    ⟨⟨⟨by simp [go_sem], by simp [go_sem]⟩, ⟨by simp [go_sem], by simp [go_sem]⟩, trivial⟩, trivial, by go_grown⟩
  generalize ((W.alloc (Obj.cells #[.int .u64 (a.1 : Int), .int .u64 (a.2 : Int)] 24)).alloc (Obj.cells #[.int .u64 (a.1 : Int), .int .u64 (a.2 : Int)] 25)) = w0 at *
  obtain ⟨b0, hb0⟩ : ∃ b0, b0 = W.heap.size := ⟨_, rfl⟩
  obtain ⟨b1, hb1⟩ : ∃ b1, b1 = W.heap.size + 1 := ⟨_, rfl⟩
  rw [← hb1] at B ⊢
  rw [← hb0] at B ⊢
  clear hb0 hb1
  go_cut [8, 9] (fun p8 p9 wx => ∃ q8 q9 : Nat, p8 = .pointer (some ⟨q8, 0, none⟩) ∧ p9 = .pointer (some ⟨q9, 0, none⟩) ∧ Hid (Bl W wx [(q9, r.1, r.2), (q8, p.1, p.2), (b0, a.1, a.2), (b1, a.1, a.2)] []))
  case first =>
    have F := B.facts
    simp only [Els, Wrs, and_true] at F
    have N := B.nes
    simp only [Nes, List.map, and_true] at N
    have N2 := B.b.size
    have L0 := cell_lt B.els.1.1
    have L1 := cell_lt B.els.2.1.1
    have M0 : ¬ b0 = w0.heap.size + 1 ∧ ¬ w0.heap.size + 1 = b0 := (by omega)
    have M1 : ¬ b1 = w0.heap.size + 1 ∧ ¬ w0.heap.size + 1 = b1 := (by omega)
    go_region_held3 (fun w => w.cell? ⟨b0, 0, none⟩ = some (.int .u64 (a.1 : Int)) ∧ w.cell? ⟨b0, 1, none⟩ = some (.int .u64 (a.2 : Int))) (first | (go_keep; done) | (exact ⟨by simp [go_sem, *], by simp [go_sem, *]⟩)) (first | (go_at_call 9; refine (HP.out.go _).mono ?_; rintro e w' ⟨rfl, hb'⟩; have B'' := Bl.below (w' := w') (by first | exact B | exact B.drew | exact B.room | exact B.drew.room | exact B.room.drew | exact B.room.room | exact B.drew.room.room) hb'; clear F B hb'; (try clear FA); (try clear FB); have B := B''; clear B''; (try simp only [World.size_drew] at B); (try simp only [World.size_alloc] at B); have F := B.facts; simp only [Els, Wrs, and_true] at F; have N := B.nes; simp only [Nes, List.map, and_true] at N; have N2 := B.b.size; have L0 := cell_lt B.els.1.1; have L1 := cell_lt B.els.2.1.1; have M0 : ¬ b0 = w'.heap.size + 1 ∧ ¬ w'.heap.size + 1 = b0 := (by omega); have M1 : ¬ b1 = w'.heap.size + 1 ∧ ¬ w'.heap.size + 1 = b1 := (by omega); have FA := fun o => (B.alloc o).facts; simp only [Els, Wrs, and_true] at FA; have FB := fun o o' => ((B.alloc o).alloc o').facts; simp only [Els, Wrs, and_true] at FB) | (go_at_call 10; refine (HR.out.go _).mono ?_; rintro e w' ⟨rfl, hb'⟩; have B'' := Bl.below (w' := w') (by first | exact B | exact B.drew | exact B.room | exact B.drew.room | exact B.room.drew | exact B.room.room | exact B.drew.room.room) hb'; clear F B hb'; (try clear FA); (try clear FB); have B := B''; clear B''; (try simp only [World.size_drew] at B); (try simp only [World.size_alloc] at B); have F := B.facts; simp only [Els, Wrs, and_true] at F; have N := B.nes; simp only [Nes, List.map, and_true] at N; have N2 := B.b.size; have L0 := cell_lt B.els.1.1; have L1 := cell_lt B.els.2.1.1; have M0 : ¬ b0 = w'.heap.size + 1 ∧ ¬ w'.heap.size + 1 = b0 := (by omega); have M1 : ¬ b1 = w'.heap.size + 1 ∧ ¬ w'.heap.size + 1 = b1 := (by omega); have FA := fun o => (B.alloc o).facts; simp only [Els, Wrs, and_true] at FA; have FB := fun o o' => ((B.alloc o).alloc o').facts; simp only [Els, Wrs, and_true] at FB))
    all_goals (go_wp2_with fail)
    all_goals go_meet
    all_goals (try clear FA)
    all_goals (try clear FB)
    all_goals (refine ⟨_, _, rfl, rfl, ?_⟩)
    · (have h := (B.laid p.1 p.2).laid r.1 r.2; simp only [World.size_alloc] at h; exact h)
    · (have h := ((B.laid r.1 r.2).laid p.1 p.2).swapE; simp only [World.size_alloc] at h; exact h)
    · exact (B.room.swapW.put (by omega) (by simp; omega) (by simp <;> omega) _ _).put (by omega) (by simp; omega) (by simp <;> omega) _ _
    · exact (B.swapW.put (by omega) (by simp; omega) (by simp <;> omega) _ _).put (by omega) (by simp; omega) (by simp <;> omega) _ _
    · exact (B.laid p.1 p.2).put (by omega) (by simp; omega) (by simp <;> omega) _ _
    · exact (B.put (by omega) (by simp; omega) (by simp <;> omega) _ _).put (by omega) (by simp; omega) (by simp <;> omega) _ _
    · exact (B.room.swapW.put (by omega) (by simp; omega) (by simp <;> omega) _ _).put (by omega) (by simp; omega) (by simp <;> omega) _ _
    · exact (B.swapW.put (by omega) (by simp; omega) (by simp <;> omega) _ _).put (by omega) (by simp; omega) (by simp <;> omega) _ _
    · exact (B.swapW.put (by omega) (by simp; omega) (by simp <;> omega) _ _).put (by omega) (by simp; omega) (by simp <;> omega) _ _
    · exact (B.laid p.1 p.2).put (by omega) (by simp; omega) (by simp <;> omega) _ _
    · exact (B.put (by omega) (by simp; omega) (by simp <;> omega) _ _).put (by omega) (by simp; omega) (by simp <;> omega) _ _
    · exact (B.put (by omega) (by simp; omega) (by simp <;> omega) _ _).put (by omega) (by simp; omega) (by simp <;> omega) _ _
  case rest =>
    obtain ⟨q8, q9, rfl, rfl, HB⟩ := hcut
    have B := HB.out
    clear HB
    have F := B.facts
    simp only [Els, Wrs, and_true] at F
    obtain rfl : p = (0, 0) := hp.out
    obtain rfl : r = (0, 0) := hr.out
    go_wp2_with (first | (go_at_call 11; refine (HO.out.go _).mono ?_; rintro e w' ⟨rfl, hb'⟩; have B'' := Bl.below (w' := w') (by first | exact B | exact B.drew) hb'; clear F B hb'; have B := B''; clear B''; have F := B.facts; simp only [Els, Wrs, and_true] at F) | (go_at_call 12; refine (HA.out.go _).mono ?_; rintro e w' ⟨rfl, hb'⟩; have B'' := Bl.below (w' := w') (by first | exact B | exact B.drew) hb'; clear F B hb'; have B := B''; clear B''; have F := B.facts; simp only [Els, Wrs, and_true] at F))
    go_ret
    exact ⟨by rfl, B.b⟩
set_option maxHeartbeats 8000000 in
set_option maxRecDepth 100000 in
theorem fp_neg (l n : Int) (a p r : Nat × Nat) (HP : Hid (Ret 9 #[.int .i64 l, .agg #[.int .u64 (a.1 : Int), .int .u64 (a.2 : Int)], .int .i64 n] (.agg #[.int .u64 (p.1 : Int), .int .u64 (p.2 : Int)]))) (HR : Hid (Ret 10 #[.int .i64 l, .agg #[.int .u64 (a.1 : Int), .int .u64 (a.2 : Int)]] (.agg #[.int .u64 (r.1 : Int), .int .u64 (r.2 : Int)]))) (HO : Hid (Ret 11 #[.int .i64 l, .agg #[.int .u64 (a.1 : Int), .int .u64 (a.2 : Int)]] (.bool true))) (HV : Hid (Ret 15 #[.int .i64 l, .agg #[.int .u64 (r.1 : Int), .int .u64 (r.2 : Int)]] (.bool true))) (HX : Hid (Ret 16 #[.agg #[.int .u64 (r.1 : Int), .int .u64 (r.2 : Int)], .agg #[.int .u64 (r.1 : Int), .int .u64 (r.2 : Int)]] (.agg #[.int .u64 (a.1 : Int), .int .u64 (a.2 : Int)]))) (hp : Hid (p = (0, 0))) (hn : n < 0) : Ret 3 #[.int .i64 l, .agg #[.int .u64 (a.1 : Int), .int .u64 (a.2 : Int)], .int .i64 n] (.bool true) := by
  intro W
  have HA := hidF awake33
  go_enter Try.func3, Try.ntmps3
  go_upto_region 2 with fail
  have B : Bl W ((W.alloc (Obj.cells #[.int .u64 (a.1 : Int), .int .u64 (a.2 : Int)] 24)).alloc (Obj.cells #[.int .u64 (a.1 : Int), .int .u64 (a.2 : Int)] 25)) [(W.heap.size, a.1, a.2), (W.heap.size + 1, a.1, a.2)] [] :=
    ⟨⟨⟨by simp [go_sem], by simp [go_sem]⟩, ⟨by simp [go_sem], by simp [go_sem]⟩, trivial⟩, trivial, by go_grown⟩
  generalize ((W.alloc (Obj.cells #[.int .u64 (a.1 : Int), .int .u64 (a.2 : Int)] 24)).alloc (Obj.cells #[.int .u64 (a.1 : Int), .int .u64 (a.2 : Int)] 25)) = w0 at *
  obtain ⟨b0, hb0⟩ : ∃ b0, b0 = W.heap.size := ⟨_, rfl⟩
  obtain ⟨b1, hb1⟩ : ∃ b1, b1 = W.heap.size + 1 := ⟨_, rfl⟩
  rw [← hb1] at B ⊢
  rw [← hb0] at B ⊢
  clear hb0 hb1
  go_cut [8, 9] (fun p8 p9 wx => ∃ q8 q9 : Nat, p8 = .pointer (some ⟨q8, 0, none⟩) ∧ p9 = .pointer (some ⟨q9, 0, none⟩) ∧ Hid (Bl W wx [(q9, r.1, r.2), (q8, p.1, p.2), (b0, a.1, a.2), (b1, a.1, a.2)] []))
  case first =>
    have F := B.facts
    simp only [Els, Wrs, and_true] at F
    have N := B.nes
    simp only [Nes, List.map, and_true] at N
    have N2 := B.b.size
    have L0 := cell_lt B.els.1.1
    have L1 := cell_lt B.els.2.1.1
    have M0 : ¬ b0 = w0.heap.size + 1 ∧ ¬ w0.heap.size + 1 = b0 := (by omega)
    have M1 : ¬ b1 = w0.heap.size + 1 ∧ ¬ w0.heap.size + 1 = b1 := (by omega)
    go_region_held3 (fun w => w.cell? ⟨b0, 0, none⟩ = some (.int .u64 (a.1 : Int)) ∧ w.cell? ⟨b0, 1, none⟩ = some (.int .u64 (a.2 : Int))) (first | (go_keep; done) | (exact ⟨by simp [go_sem, *], by simp [go_sem, *]⟩)) (first | (go_at_call 9; refine (HP.out.go _).mono ?_; rintro e w' ⟨rfl, hb'⟩; have B'' := Bl.below (w' := w') (by first | exact B | exact B.drew | exact B.room | exact B.drew.room | exact B.room.drew | exact B.room.room | exact B.drew.room.room) hb'; clear F B hb'; (try clear FA); (try clear FB); have B := B''; clear B''; (try simp only [World.size_drew] at B); (try simp only [World.size_alloc] at B); have F := B.facts; simp only [Els, Wrs, and_true] at F; have N := B.nes; simp only [Nes, List.map, and_true] at N; have N2 := B.b.size; have L0 := cell_lt B.els.1.1; have L1 := cell_lt B.els.2.1.1; have M0 : ¬ b0 = w'.heap.size + 1 ∧ ¬ w'.heap.size + 1 = b0 := (by omega); have M1 : ¬ b1 = w'.heap.size + 1 ∧ ¬ w'.heap.size + 1 = b1 := (by omega); have FA := fun o => (B.alloc o).facts; simp only [Els, Wrs, and_true] at FA; have FB := fun o o' => ((B.alloc o).alloc o').facts; simp only [Els, Wrs, and_true] at FB) | (go_at_call 10; refine (HR.out.go _).mono ?_; rintro e w' ⟨rfl, hb'⟩; have B'' := Bl.below (w' := w') (by first | exact B | exact B.drew | exact B.room | exact B.drew.room | exact B.room.drew | exact B.room.room | exact B.drew.room.room) hb'; clear F B hb'; (try clear FA); (try clear FB); have B := B''; clear B''; (try simp only [World.size_drew] at B); (try simp only [World.size_alloc] at B); have F := B.facts; simp only [Els, Wrs, and_true] at F; have N := B.nes; simp only [Nes, List.map, and_true] at N; have N2 := B.b.size; have L0 := cell_lt B.els.1.1; have L1 := cell_lt B.els.2.1.1; have M0 : ¬ b0 = w'.heap.size + 1 ∧ ¬ w'.heap.size + 1 = b0 := (by omega); have M1 : ¬ b1 = w'.heap.size + 1 ∧ ¬ w'.heap.size + 1 = b1 := (by omega); have FA := fun o => (B.alloc o).facts; simp only [Els, Wrs, and_true] at FA; have FB := fun o o' => ((B.alloc o).alloc o').facts; simp only [Els, Wrs, and_true] at FB))
    all_goals (go_wp2_with fail)
    all_goals go_meet
    all_goals (try clear FA)
    all_goals (try clear FB)
    all_goals (refine ⟨_, _, rfl, rfl, ?_⟩)
    · (have h := (B.laid p.1 p.2).laid r.1 r.2; simp only [World.size_alloc] at h; exact h)
    · (have h := ((B.laid r.1 r.2).laid p.1 p.2).swapE; simp only [World.size_alloc] at h; exact h)
    · exact (B.room.swapW.put (by omega) (by simp; omega) (by simp <;> omega) _ _).put (by omega) (by simp; omega) (by simp <;> omega) _ _
    · exact (B.swapW.put (by omega) (by simp; omega) (by simp <;> omega) _ _).put (by omega) (by simp; omega) (by simp <;> omega) _ _
    · exact (B.laid p.1 p.2).put (by omega) (by simp; omega) (by simp <;> omega) _ _
    · exact (B.put (by omega) (by simp; omega) (by simp <;> omega) _ _).put (by omega) (by simp; omega) (by simp <;> omega) _ _
    · exact (B.room.swapW.put (by omega) (by simp; omega) (by simp <;> omega) _ _).put (by omega) (by simp; omega) (by simp <;> omega) _ _
    · exact (B.swapW.put (by omega) (by simp; omega) (by simp <;> omega) _ _).put (by omega) (by simp; omega) (by simp <;> omega) _ _
    · exact (B.swapW.put (by omega) (by simp; omega) (by simp <;> omega) _ _).put (by omega) (by simp; omega) (by simp <;> omega) _ _
    · exact (B.laid p.1 p.2).put (by omega) (by simp; omega) (by simp <;> omega) _ _
    · exact (B.put (by omega) (by simp; omega) (by simp <;> omega) _ _).put (by omega) (by simp; omega) (by simp <;> omega) _ _
    · exact (B.put (by omega) (by simp; omega) (by simp <;> omega) _ _).put (by omega) (by simp; omega) (by simp <;> omega) _ _
  case rest =>
    obtain ⟨q8, q9, rfl, rfl, HB⟩ := hcut
    have B := HB.out
    clear HB
    have F := B.facts
    simp only [Els, Wrs, and_true] at F
    obtain rfl : p = (0, 0) := hp.out
    go_wp2_with (first | (go_at_call 11; refine (HO.out.go _).mono ?_; rintro e w' ⟨rfl, hb'⟩; have B'' := Bl.below (w' := w') (by first | exact B | exact B.drew) hb'; clear F B hb'; have B := B''; clear B''; have F := B.facts; simp only [Els, Wrs, and_true] at F))
    go_region_held3 (fun w => w.cell? ⟨b0, 0, none⟩ = some (.int .u64 (a.1 : Int)) ∧ w.cell? ⟨b0, 1, none⟩ = some (.int .u64 (a.2 : Int)) ∧ w.cell? ⟨q9, 0, none⟩ = some (.int .u64 (r.1 : Int)) ∧ w.cell? ⟨q9, 1, none⟩ = some (.int .u64 (r.2 : Int))) (first | (go_keep; done) | (exact ⟨by simp [go_sem, F], by simp [go_sem, F], by simp [go_sem, F], by simp [go_sem, F]⟩)) (first | (go_at_call 12; refine (HA.out.go _).mono ?_; rintro e w' ⟨rfl, hb'⟩; have B'' := Bl.below (w' := w') (by first | exact B | exact B.drew) hb'; clear F B hb'; have B := B''; clear B''; have F := B.facts; simp only [Els, Wrs, and_true] at F) | (go_at_call 15; refine (HV.out.go _).mono ?_; rintro e w' ⟨rfl, hb'⟩; have B'' := Bl.below (w' := w') (by first | exact B | exact B.drew) hb'; clear F B hb'; have B := B''; clear B''; have F := B.facts; simp only [Els, Wrs, and_true] at F) | (go_at_call 16; refine (HX.out.go _).mono ?_; rintro e w' ⟨rfl, hb'⟩; have B'' := Bl.below (w' := w') (by first | exact B | exact B.drew) hb'; clear F B hb'; have B := B''; clear B''; have F := B.facts; simp only [Els, Wrs, and_true] at F))
    all_goals go_wp2
    all_goals go_ret
    all_goals exact ⟨by rfl, by first | exact B.b | exact B.b.drew⟩
set_option maxHeartbeats 8000000 in
set_option maxRecDepth 100000 in
theorem fp_far (l n : Int) (a p r : Nat × Nat) (HP : Hid (Ret 9 #[.int .i64 l, .agg #[.int .u64 (a.1 : Int), .int .u64 (a.2 : Int)], .int .i64 n] (.agg #[.int .u64 (p.1 : Int), .int .u64 (p.2 : Int)]))) (HR : Hid (Ret 10 #[.int .i64 l, .agg #[.int .u64 (a.1 : Int), .int .u64 (a.2 : Int)]] (.agg #[.int .u64 (r.1 : Int), .int .u64 (r.2 : Int)]))) (HO : Hid (Ret 11 #[.int .i64 l, .agg #[.int .u64 (a.1 : Int), .int .u64 (a.2 : Int)]] (.bool true))) (HV : Hid (Ret 15 #[.int .i64 l, .agg #[.int .u64 (r.1 : Int), .int .u64 (r.2 : Int)]] (.bool true))) (HX : Hid (Ret 16 #[.agg #[.int .u64 (r.1 : Int), .int .u64 (r.2 : Int)], .agg #[.int .u64 (r.1 : Int), .int .u64 (r.2 : Int)]] (.agg #[.int .u64 (a.1 : Int), .int .u64 (a.2 : Int)]))) (T : Int) (HT : Hid (Ret 13 #[.int .i64 l] (.int .i64 T))) (hp : Hid (p = (0, 0))) (hn : ¬ n < 0) (hn2 : T ≤ n) : Ret 3 #[.int .i64 l, .agg #[.int .u64 (a.1 : Int), .int .u64 (a.2 : Int)], .int .i64 n] (.bool true) := by
  intro W
  have HA := hidF awake33
  go_enter Try.func3, Try.ntmps3
  go_upto_region 2 with fail
  have B : Bl W ((W.alloc (Obj.cells #[.int .u64 (a.1 : Int), .int .u64 (a.2 : Int)] 24)).alloc (Obj.cells #[.int .u64 (a.1 : Int), .int .u64 (a.2 : Int)] 25)) [(W.heap.size, a.1, a.2), (W.heap.size + 1, a.1, a.2)] [] :=
    ⟨⟨⟨by simp [go_sem], by simp [go_sem]⟩, ⟨by simp [go_sem], by simp [go_sem]⟩, trivial⟩, trivial, by go_grown⟩
  generalize ((W.alloc (Obj.cells #[.int .u64 (a.1 : Int), .int .u64 (a.2 : Int)] 24)).alloc (Obj.cells #[.int .u64 (a.1 : Int), .int .u64 (a.2 : Int)] 25)) = w0 at *
  obtain ⟨b0, hb0⟩ : ∃ b0, b0 = W.heap.size := ⟨_, rfl⟩
  obtain ⟨b1, hb1⟩ : ∃ b1, b1 = W.heap.size + 1 := ⟨_, rfl⟩
  rw [← hb1] at B ⊢
  rw [← hb0] at B ⊢
  clear hb0 hb1
  go_cut [8, 9] (fun p8 p9 wx => ∃ q8 q9 : Nat, p8 = .pointer (some ⟨q8, 0, none⟩) ∧ p9 = .pointer (some ⟨q9, 0, none⟩) ∧ Hid (Bl W wx [(q9, r.1, r.2), (q8, p.1, p.2), (b0, a.1, a.2), (b1, a.1, a.2)] []))
  case first =>
    have F := B.facts
    simp only [Els, Wrs, and_true] at F
    have N := B.nes
    simp only [Nes, List.map, and_true] at N
    have N2 := B.b.size
    have L0 := cell_lt B.els.1.1
    have L1 := cell_lt B.els.2.1.1
    have M0 : ¬ b0 = w0.heap.size + 1 ∧ ¬ w0.heap.size + 1 = b0 := (by omega)
    have M1 : ¬ b1 = w0.heap.size + 1 ∧ ¬ w0.heap.size + 1 = b1 := (by omega)
    go_region_held3 (fun w => w.cell? ⟨b0, 0, none⟩ = some (.int .u64 (a.1 : Int)) ∧ w.cell? ⟨b0, 1, none⟩ = some (.int .u64 (a.2 : Int))) (first | (go_keep; done) | (exact ⟨by simp [go_sem, *], by simp [go_sem, *]⟩)) (first | (go_at_call 9; refine (HP.out.go _).mono ?_; rintro e w' ⟨rfl, hb'⟩; have B'' := Bl.below (w' := w') (by first | exact B | exact B.drew | exact B.room | exact B.drew.room | exact B.room.drew | exact B.room.room | exact B.drew.room.room) hb'; clear F B hb'; (try clear FA); (try clear FB); have B := B''; clear B''; (try simp only [World.size_drew] at B); (try simp only [World.size_alloc] at B); have F := B.facts; simp only [Els, Wrs, and_true] at F; have N := B.nes; simp only [Nes, List.map, and_true] at N; have N2 := B.b.size; have L0 := cell_lt B.els.1.1; have L1 := cell_lt B.els.2.1.1; have M0 : ¬ b0 = w'.heap.size + 1 ∧ ¬ w'.heap.size + 1 = b0 := (by omega); have M1 : ¬ b1 = w'.heap.size + 1 ∧ ¬ w'.heap.size + 1 = b1 := (by omega); have FA := fun o => (B.alloc o).facts; simp only [Els, Wrs, and_true] at FA; have FB := fun o o' => ((B.alloc o).alloc o').facts; simp only [Els, Wrs, and_true] at FB) | (go_at_call 10; refine (HR.out.go _).mono ?_; rintro e w' ⟨rfl, hb'⟩; have B'' := Bl.below (w' := w') (by first | exact B | exact B.drew | exact B.room | exact B.drew.room | exact B.room.drew | exact B.room.room | exact B.drew.room.room) hb'; clear F B hb'; (try clear FA); (try clear FB); have B := B''; clear B''; (try simp only [World.size_drew] at B); (try simp only [World.size_alloc] at B); have F := B.facts; simp only [Els, Wrs, and_true] at F; have N := B.nes; simp only [Nes, List.map, and_true] at N; have N2 := B.b.size; have L0 := cell_lt B.els.1.1; have L1 := cell_lt B.els.2.1.1; have M0 : ¬ b0 = w'.heap.size + 1 ∧ ¬ w'.heap.size + 1 = b0 := (by omega); have M1 : ¬ b1 = w'.heap.size + 1 ∧ ¬ w'.heap.size + 1 = b1 := (by omega); have FA := fun o => (B.alloc o).facts; simp only [Els, Wrs, and_true] at FA; have FB := fun o o' => ((B.alloc o).alloc o').facts; simp only [Els, Wrs, and_true] at FB))
    all_goals (go_wp2_with fail)
    all_goals go_meet
    all_goals (try clear FA)
    all_goals (try clear FB)
    all_goals (refine ⟨_, _, rfl, rfl, ?_⟩)
    · (have h := (B.laid p.1 p.2).laid r.1 r.2; simp only [World.size_alloc] at h; exact h)
    · (have h := ((B.laid r.1 r.2).laid p.1 p.2).swapE; simp only [World.size_alloc] at h; exact h)
    · exact (B.room.swapW.put (by omega) (by simp; omega) (by simp <;> omega) _ _).put (by omega) (by simp; omega) (by simp <;> omega) _ _
    · exact (B.swapW.put (by omega) (by simp; omega) (by simp <;> omega) _ _).put (by omega) (by simp; omega) (by simp <;> omega) _ _
    · exact (B.laid p.1 p.2).put (by omega) (by simp; omega) (by simp <;> omega) _ _
    · exact (B.put (by omega) (by simp; omega) (by simp <;> omega) _ _).put (by omega) (by simp; omega) (by simp <;> omega) _ _
    · exact (B.room.swapW.put (by omega) (by simp; omega) (by simp <;> omega) _ _).put (by omega) (by simp; omega) (by simp <;> omega) _ _
    · exact (B.swapW.put (by omega) (by simp; omega) (by simp <;> omega) _ _).put (by omega) (by simp; omega) (by simp <;> omega) _ _
    · exact (B.swapW.put (by omega) (by simp; omega) (by simp <;> omega) _ _).put (by omega) (by simp; omega) (by simp <;> omega) _ _
    · exact (B.laid p.1 p.2).put (by omega) (by simp; omega) (by simp <;> omega) _ _
    · exact (B.put (by omega) (by simp; omega) (by simp <;> omega) _ _).put (by omega) (by simp; omega) (by simp <;> omega) _ _
    · exact (B.put (by omega) (by simp; omega) (by simp <;> omega) _ _).put (by omega) (by simp; omega) (by simp <;> omega) _ _
  case rest =>
    obtain ⟨q8, q9, rfl, rfl, HB⟩ := hcut
    have B := HB.out
    clear HB
    have F := B.facts
    simp only [Els, Wrs, and_true] at F
    obtain rfl : p = (0, 0) := hp.out
    go_wp2_with (first | (go_at_call 11; refine (HO.out.go _).mono ?_; rintro e w' ⟨rfl, hb'⟩; have B'' := Bl.below (w' := w') (by first | exact B | exact B.drew) hb'; clear F B hb'; have B := B''; clear B''; have F := B.facts; simp only [Els, Wrs, and_true] at F) | (go_at_call 13; refine (HT.out.go _).mono ?_; rintro e w' ⟨rfl, hb'⟩; have B'' := Bl.below (w' := w') (by first | exact B | exact B.drew) hb'; clear F B hb'; have B := B''; clear B''; have F := B.facts; simp only [Els, Wrs, and_true] at F))
    go_region_held3 (fun w => w.cell? ⟨b0, 0, none⟩ = some (.int .u64 (a.1 : Int)) ∧ w.cell? ⟨b0, 1, none⟩ = some (.int .u64 (a.2 : Int)) ∧ w.cell? ⟨q9, 0, none⟩ = some (.int .u64 (r.1 : Int)) ∧ w.cell? ⟨q9, 1, none⟩ = some (.int .u64 (r.2 : Int))) (first | (go_keep; done) | (exact ⟨by simp [go_sem, F], by simp [go_sem, F], by simp [go_sem, F], by simp [go_sem, F]⟩)) (first | (go_at_call 12; refine (HA.out.go _).mono ?_; rintro e w' ⟨rfl, hb'⟩; have B'' := Bl.below (w' := w') (by first | exact B | exact B.drew) hb'; clear F B hb'; have B := B''; clear B''; have F := B.facts; simp only [Els, Wrs, and_true] at F) | (go_at_call 15; refine (HV.out.go _).mono ?_; rintro e w' ⟨rfl, hb'⟩; have B'' := Bl.below (w' := w') (by first | exact B | exact B.drew) hb'; clear F B hb'; have B := B''; clear B''; have F := B.facts; simp only [Els, Wrs, and_true] at F) | (go_at_call 16; refine (HX.out.go _).mono ?_; rintro e w' ⟨rfl, hb'⟩; have B'' := Bl.below (w' := w') (by first | exact B | exact B.drew) hb'; clear F B hb'; have B := B''; clear B''; have F := B.facts; simp only [Els, Wrs, and_true] at F))
    all_goals go_wp2
    all_goals go_ret
    all_goals exact ⟨by rfl, by first | exact B.b | exact B.b.drew⟩
set_option maxHeartbeats 8000000 in
set_option maxRecDepth 100000 in
theorem fp_in (l n : Int) (a p r : Nat × Nat) (HP : Hid (Ret 9 #[.int .i64 l, .agg #[.int .u64 (a.1 : Int), .int .u64 (a.2 : Int)], .int .i64 n] (.agg #[.int .u64 (p.1 : Int), .int .u64 (p.2 : Int)]))) (HR : Hid (Ret 10 #[.int .i64 l, .agg #[.int .u64 (a.1 : Int), .int .u64 (a.2 : Int)]] (.agg #[.int .u64 (r.1 : Int), .int .u64 (r.2 : Int)]))) (HO : Hid (Ret 11 #[.int .i64 l, .agg #[.int .u64 (a.1 : Int), .int .u64 (a.2 : Int)]] (.bool true))) (HV : Hid (Ret 15 #[.int .i64 l, .agg #[.int .u64 (r.1 : Int), .int .u64 (r.2 : Int)]] (.bool true))) (HX : Hid (Ret 16 #[.agg #[.int .u64 (r.1 : Int), .int .u64 (r.2 : Int)], .agg #[.int .u64 (r.1 : Int), .int .u64 (r.2 : Int)]] (.agg #[.int .u64 (a.1 : Int), .int .u64 (a.2 : Int)]))) (T : Int) (HT : Hid (Ret 13 #[.int .i64 l] (.int .i64 T))) (HW : Hid (Ret 14 #[.agg #[.int .u64 (a.1 : Int), .int .u64 (a.2 : Int)], .int .i64 n] (.agg #[.int .u64 (p.1 : Int), .int .u64 (p.2 : Int)]))) (hn : ¬ n < 0) (hn2 : ¬ T ≤ n) : Ret 3 #[.int .i64 l, .agg #[.int .u64 (a.1 : Int), .int .u64 (a.2 : Int)], .int .i64 n] (.bool true) := by
  intro W
  have HA := hidF awake33
  go_enter Try.func3, Try.ntmps3
  go_upto_region 2 with fail
  have B : Bl W ((W.alloc (Obj.cells #[.int .u64 (a.1 : Int), .int .u64 (a.2 : Int)] 24)).alloc (Obj.cells #[.int .u64 (a.1 : Int), .int .u64 (a.2 : Int)] 25)) [(W.heap.size, a.1, a.2), (W.heap.size + 1, a.1, a.2)] [] :=
    ⟨⟨⟨by simp [go_sem], by simp [go_sem]⟩, ⟨by simp [go_sem], by simp [go_sem]⟩, trivial⟩, trivial, by go_grown⟩
  generalize ((W.alloc (Obj.cells #[.int .u64 (a.1 : Int), .int .u64 (a.2 : Int)] 24)).alloc (Obj.cells #[.int .u64 (a.1 : Int), .int .u64 (a.2 : Int)] 25)) = w0 at *
  obtain ⟨b0, hb0⟩ : ∃ b0, b0 = W.heap.size := ⟨_, rfl⟩
  obtain ⟨b1, hb1⟩ : ∃ b1, b1 = W.heap.size + 1 := ⟨_, rfl⟩
  rw [← hb1] at B ⊢
  rw [← hb0] at B ⊢
  clear hb0 hb1
  go_cut [8, 9] (fun p8 p9 wx => ∃ q8 q9 : Nat, p8 = .pointer (some ⟨q8, 0, none⟩) ∧ p9 = .pointer (some ⟨q9, 0, none⟩) ∧ Hid (Bl W wx [(q9, r.1, r.2), (q8, p.1, p.2), (b0, a.1, a.2), (b1, a.1, a.2)] []))
  case first =>
    have F := B.facts
    simp only [Els, Wrs, and_true] at F
    have N := B.nes
    simp only [Nes, List.map, and_true] at N
    have N2 := B.b.size
    have L0 := cell_lt B.els.1.1
    have L1 := cell_lt B.els.2.1.1
    have M0 : ¬ b0 = w0.heap.size + 1 ∧ ¬ w0.heap.size + 1 = b0 := (by omega)
    have M1 : ¬ b1 = w0.heap.size + 1 ∧ ¬ w0.heap.size + 1 = b1 := (by omega)
    go_region_held3 (fun w => w.cell? ⟨b0, 0, none⟩ = some (.int .u64 (a.1 : Int)) ∧ w.cell? ⟨b0, 1, none⟩ = some (.int .u64 (a.2 : Int))) (first | (go_keep; done) | (exact ⟨by simp [go_sem, *], by simp [go_sem, *]⟩)) (first | (go_at_call 9; refine (HP.out.go _).mono ?_; rintro e w' ⟨rfl, hb'⟩; have B'' := Bl.below (w' := w') (by first | exact B | exact B.drew | exact B.room | exact B.drew.room | exact B.room.drew | exact B.room.room | exact B.drew.room.room) hb'; clear F B hb'; (try clear FA); (try clear FB); have B := B''; clear B''; (try simp only [World.size_drew] at B); (try simp only [World.size_alloc] at B); have F := B.facts; simp only [Els, Wrs, and_true] at F; have N := B.nes; simp only [Nes, List.map, and_true] at N; have N2 := B.b.size; have L0 := cell_lt B.els.1.1; have L1 := cell_lt B.els.2.1.1; have M0 : ¬ b0 = w'.heap.size + 1 ∧ ¬ w'.heap.size + 1 = b0 := (by omega); have M1 : ¬ b1 = w'.heap.size + 1 ∧ ¬ w'.heap.size + 1 = b1 := (by omega); have FA := fun o => (B.alloc o).facts; simp only [Els, Wrs, and_true] at FA; have FB := fun o o' => ((B.alloc o).alloc o').facts; simp only [Els, Wrs, and_true] at FB) | (go_at_call 10; refine (HR.out.go _).mono ?_; rintro e w' ⟨rfl, hb'⟩; have B'' := Bl.below (w' := w') (by first | exact B | exact B.drew | exact B.room | exact B.drew.room | exact B.room.drew | exact B.room.room | exact B.drew.room.room) hb'; clear F B hb'; (try clear FA); (try clear FB); have B := B''; clear B''; (try simp only [World.size_drew] at B); (try simp only [World.size_alloc] at B); have F := B.facts; simp only [Els, Wrs, and_true] at F; have N := B.nes; simp only [Nes, List.map, and_true] at N; have N2 := B.b.size; have L0 := cell_lt B.els.1.1; have L1 := cell_lt B.els.2.1.1; have M0 : ¬ b0 = w'.heap.size + 1 ∧ ¬ w'.heap.size + 1 = b0 := (by omega); have M1 : ¬ b1 = w'.heap.size + 1 ∧ ¬ w'.heap.size + 1 = b1 := (by omega); have FA := fun o => (B.alloc o).facts; simp only [Els, Wrs, and_true] at FA; have FB := fun o o' => ((B.alloc o).alloc o').facts; simp only [Els, Wrs, and_true] at FB))
    all_goals (go_wp2_with fail)
    all_goals go_meet
    all_goals (try clear FA)
    all_goals (try clear FB)
    all_goals (refine ⟨_, _, rfl, rfl, ?_⟩)
    · (have h := (B.laid p.1 p.2).laid r.1 r.2; simp only [World.size_alloc] at h; exact h)
    · (have h := ((B.laid r.1 r.2).laid p.1 p.2).swapE; simp only [World.size_alloc] at h; exact h)
    · exact (B.room.swapW.put (by omega) (by simp; omega) (by simp <;> omega) _ _).put (by omega) (by simp; omega) (by simp <;> omega) _ _
    · exact (B.swapW.put (by omega) (by simp; omega) (by simp <;> omega) _ _).put (by omega) (by simp; omega) (by simp <;> omega) _ _
    · exact (B.laid p.1 p.2).put (by omega) (by simp; omega) (by simp <;> omega) _ _
    · exact (B.put (by omega) (by simp; omega) (by simp <;> omega) _ _).put (by omega) (by simp; omega) (by simp <;> omega) _ _
    · exact (B.room.swapW.put (by omega) (by simp; omega) (by simp <;> omega) _ _).put (by omega) (by simp; omega) (by simp <;> omega) _ _
    · exact (B.swapW.put (by omega) (by simp; omega) (by simp <;> omega) _ _).put (by omega) (by simp; omega) (by simp <;> omega) _ _
    · exact (B.swapW.put (by omega) (by simp; omega) (by simp <;> omega) _ _).put (by omega) (by simp; omega) (by simp <;> omega) _ _
    · exact (B.laid p.1 p.2).put (by omega) (by simp; omega) (by simp <;> omega) _ _
    · exact (B.put (by omega) (by simp; omega) (by simp <;> omega) _ _).put (by omega) (by simp; omega) (by simp <;> omega) _ _
    · exact (B.put (by omega) (by simp; omega) (by simp <;> omega) _ _).put (by omega) (by simp; omega) (by simp <;> omega) _ _
  case rest =>
    obtain ⟨q8, q9, rfl, rfl, HB⟩ := hcut
    have B := HB.out
    clear HB
    have F := B.facts
    simp only [Els, Wrs, and_true] at F
    go_wp2_with (first | (go_at_call 11; refine (HO.out.go _).mono ?_; rintro e w' ⟨rfl, hb'⟩; have B'' := Bl.below (w' := w') (by first | exact B | exact B.drew) hb'; clear F B hb'; have B := B''; clear B''; have F := B.facts; simp only [Els, Wrs, and_true] at F) | (go_at_call 13; refine (HT.out.go _).mono ?_; rintro e w' ⟨rfl, hb'⟩; have B'' := Bl.below (w' := w') (by first | exact B | exact B.drew) hb'; clear F B hb'; have B := B''; clear B''; have F := B.facts; simp only [Els, Wrs, and_true] at F))
    go_region_held3 (fun w => w.cell? ⟨q8, 0, none⟩ = some (.int .u64 (p.1 : Int)) ∧ w.cell? ⟨q8, 1, none⟩ = some (.int .u64 (p.2 : Int)) ∧ w.cell? ⟨b1, 0, none⟩ = some (.int .u64 (a.1 : Int)) ∧ w.cell? ⟨b1, 1, none⟩ = some (.int .u64 (a.2 : Int))) (first | (go_keep; done) | (exact ⟨by simp [go_sem, F], by simp [go_sem, F], by simp [go_sem, F], by simp [go_sem, F]⟩)) (first | (go_at_call 14; refine (HW.out.go _).mono ?_; rintro e w' ⟨rfl, hb'⟩; have B'' := Bl.below (w' := w') (by first | exact B | exact B.drew) hb'; clear F B hb'; have B := B''; clear B''; have F := B.facts; simp only [Els, Wrs, and_true] at F))
    go_wp2
    go_region_held3 (fun w => w.cell? ⟨b0, 0, none⟩ = some (.int .u64 (a.1 : Int)) ∧ w.cell? ⟨b0, 1, none⟩ = some (.int .u64 (a.2 : Int)) ∧ w.cell? ⟨q9, 0, none⟩ = some (.int .u64 (r.1 : Int)) ∧ w.cell? ⟨q9, 1, none⟩ = some (.int .u64 (r.2 : Int))) (first | (go_keep; done) | (exact ⟨by simp [go_sem, F], by simp [go_sem, F], by simp [go_sem, F], by simp [go_sem, F]⟩)) (first | (go_at_call 12; refine (HA.out.go _).mono ?_; rintro e w' ⟨rfl, hb'⟩; have B'' := Bl.below (w' := w') (by first | exact B | exact B.drew) hb'; clear F B hb'; have B := B''; clear B''; have F := B.facts; simp only [Els, Wrs, and_true] at F) | (go_at_call 15; refine (HV.out.go _).mono ?_; rintro e w' ⟨rfl, hb'⟩; have B'' := Bl.below (w' := w') (by first | exact B | exact B.drew) hb'; clear F B hb'; have B := B''; clear B''; have F := B.facts; simp only [Els, Wrs, and_true] at F) | (go_at_call 16; refine (HX.out.go _).mono ?_; rintro e w' ⟨rfl, hb'⟩; have B'' := Bl.below (w' := w') (by first | exact B | exact B.drew) hb'; clear F B hb'; have B := B''; clear B''; have F := B.facts; simp only [Els, Wrs, and_true] at F))
    all_goals go_wp2
    all_goals go_ret
    all_goals exact ⟨by rfl, by first | exact B.b | exact B.b.drew⟩
end Go.Proofs.Ytakaconhoodigaa
