/- Contract of tower.product, the factors changed over. -/
import Derived.Test.YtbmjceiogfhffabTwG
namespace Go.Proofs.Ytbmjceiogfhffab
open Go.RowKit
open Tw (px)

theorem heap_set {w : World} {b o : Nat} {v : Value} {c : Array Value} {T : TypeId} (h : w.heap[b]? = some (.cells c T)) : (w.setCell ⟨b, o, none⟩ v).heap[b]? = some (.cells (c.setIfInBounds o v) T) := by
  simp [World.setCell, Array.getElem?_modify, h]
theorem heap_set_other {w : World} {b k o : Nat} {v : Value} {x : Obj} (h : w.heap[k]? = some x) (hn : k ≠ b) : (w.setCell ⟨b, o, none⟩ v).heap[k]? = some x := by
  rw [Below.heap_setCell w ⟨b, o, none⟩ v k hn]; exact h
theorem box3_swap {X ah al bh bl : Nat} {wc : World} (h : Box3 X ah al bh bl wc) : Box3 X bh bl ah al ((((wc.setCell ⟨X, 0, none⟩ (.int .u64 (bh : Int))).setCell ⟨X, 1, none⟩ (.int .u64 (bl : Int))).setCell ⟨X + 1, 0, none⟩ (.int .u64 (ah : Int))).setCell ⟨X + 1, 1, none⟩ (.int .u64 (al : Int))) := by
  obtain ⟨h1, h2, h3⟩ := h
  refine ⟨?_, ?_, ?_⟩
  · exact heap_set_other (heap_set_other (heap_set (heap_set h1)) (by omega)) (by omega)
  · exact heap_set (heap_set (heap_set_other (heap_set_other h2 (by omega)) (by omega)))
  · exact heap_set_other (heap_set_other (heap_set_other (heap_set_other h3 (by omega)) (by omega)) (by omega)) (by omega)

set_option maxHeartbeats 2000000 in
set_option maxRecDepth 100000 in
theorem prod_swap (ah al bh bl r1 r0 : Nat) (la lb : Int) (hle : lb < la) (h7 : lb < 7)
    (HA : Hid (∀ W, Calls Try.prog 56 #[.agg #[.int .u64 (ah : Int), .int .u64 (al : Int)]] W fun e w' => e = .returned (.int .i64 la) ∧ w' = W.alloc (Obj.cells #[.int .u64 (ah : Int), .int .u64 (al : Int)] 62)))
    (HB : Hid (∀ W, Calls Try.prog 56 #[.agg #[.int .u64 (bh : Int), .int .u64 (bl : Int)]] W fun e w' => e = .returned (.int .i64 lb) ∧ w' = W.alloc (Obj.cells #[.int .u64 (bh : Int), .int .u64 (bl : Int)] 62)))
    (H1 : Hid (∀ W, Calls Try.prog 62 #[.int .i64 lb, .int .u64 (ah : Int), .int .u64 (bl : Int)] W fun e w' => e = .returned (.int .u64 (r1 : Nat)) ∧ Below W.heap.size W w'))
    (H0 : Hid (∀ W, Calls Try.prog 62 #[.int .i64 lb, .int .u64 (al : Int), .int .u64 (bl : Int)] W fun e w' => e = .returned (.int .u64 (r0 : Nat)) ∧ Below W.heap.size W w')) (W : World) :
    Calls Try.prog 44 #[.agg #[.int .u64 (ah : Int), .int .u64 (al : Int)], .agg #[.int .u64 (bh : Int), .int .u64 (bl : Int)]] W fun e w' => e = .returned (.agg #[.int .u64 (r1 : Nat), .int .u64 (r0 : Nat)]) ∧ Below W.heap.size W w' := by
  go_enter Try.func44, Try.ntmps44
  go_upto_region 1 with fail
  go_cut [5, 6] (fun s5 s6 w => s5 = .int .i64 la ∧ s6 = .int .i64 lb ∧ Box3 W.heap.size ah al bh bl w ∧ Below W.heap.size W w)
  case first =>
    go_region_with (first | (go_at_call_of 56 (Value.int .u64 (ah : Int)); refine (HA.out _).mono ?_; rintro e w' ⟨rfl, rfl⟩) | (go_at_call_of 56 (Value.int .u64 (bh : Int)); refine (HB.out _).mono ?_; rintro e w' ⟨rfl, rfl⟩))
    all_goals
      go_wp2_with fail
      go_meet
      exact ⟨rfl, rfl, box3_new W ah al bh bl _ _ 1, below_new W _ _ _ _ _ 1⟩
  case rest =>
    obtain ⟨rfl, rfl, B, hbw⟩ := hcut
    obtain ⟨k1, k2, k3, k4, k5, k6, k7, k8, k9⟩ := B.facts
    go_wp2_with fail
    clear hle h7 HA HB k1 k2 k3 k4 k5 k6 k7 k8 k9
    have B5 := box3_swap B
    have D5 : Below W.heap.size W ((((wc.setCell ⟨W.heap.size, 0, none⟩ (.int .u64 (bh : Int))).setCell ⟨W.heap.size, 1, none⟩ (.int .u64 (bl : Int))).setCell ⟨W.heap.size + 1, 0, none⟩ (.int .u64 (ah : Int))).setCell ⟨W.heap.size + 1, 1, none⟩ (.int .u64 (al : Int))) := (((hbw.setCell (Nat.le_refl _) _).setCell (Nat.le_refl _) _).setCell (by simp) _).setCell (by simp) _
    generalize (((wc.setCell ⟨W.heap.size, 0, none⟩ (.int .u64 (bh : Int))).setCell ⟨W.heap.size, 1, none⟩ (.int .u64 (bl : Int))).setCell ⟨W.heap.size + 1, 0, none⟩ (.int .u64 (ah : Int))).setCell ⟨W.heap.size + 1, 1, none⟩ (.int .u64 (al : Int)) = w5 at *
    obtain ⟨_, _, _, _, _, _, _, _, _⟩ := B5.facts
    clear B hbw
    have hne1 : ¬ W.heap.size = W.heap.size + 1 + 1 := by omega
    have hne2 : ¬ W.heap.size + 1 + 1 = W.heap.size := by omega
    go_region_held3 (fun w' => w'.cell? ⟨W.heap.size, 1, none⟩ = some (.int .u64 (bl : Int)) ∧ w'.cell? ⟨W.heap.size + 1, 0, none⟩ = some (.int .u64 (ah : Int)) ∧ w'.cell? ⟨W.heap.size + 1, 1, none⟩ = some (.int .u64 (al : Int))) (go_keep) (first | (go_at_call_of 62 (Value.int .u64 (ah : Int)); refine (H1.out _).mono ?_; rintro e w1 ⟨rfl, hb1⟩; have B_w1 : Box3 W.heap.size bh bl ah al w1 := (by first | exact B5.drew.below hb1 | exact B_w1.below hb1 | exact B_w2.below hb1); have D_w1 : Below W.heap.size W w1 := (by first | exact D5.drew.trans (hb1.mono D5.size) | exact D_w1.trans (hb1.mono D_w1.size) | exact D_w2.trans (hb1.mono D_w2.size)); obtain ⟨_, _, _, _, _, _, _, _, _⟩ := B_w1.facts) | (go_at_call_of 62 (Value.int .u64 (al : Int)); refine (H0.out _).mono ?_; rintro e w2 ⟨rfl, hb2⟩; have B_w2 : Box3 W.heap.size bh bl ah al w2 := (by first | exact B5.drew.below hb2 | exact B_w1.below hb2 | exact B_w2.below hb2); have D_w2 : Below W.heap.size W w2 := (by first | exact D5.drew.trans (hb2.mono D5.size) | exact D_w1.trans (hb2.mono D_w1.size) | exact D_w2.trans (hb2.mono D_w2.size)); obtain ⟨_, _, _, _, _, _, _, _, _⟩ := B_w2.facts))
    all_goals
      go_wp2
      refine bodyPost_ret (v := .agg #[.int .u64 (r1 : Nat), .int .u64 (r0 : Nat)]) (by simp [results, Try.results44, go_sem, *]) rfl ⟨rfl, ?_⟩
      first | exact (D_w2.setCell (by simp <;> omega) _).setCell (by simp <;> omega) _ | exact (D_w1.setCell (by simp <;> omega) _).setCell (by simp <;> omega) _
end Go.Proofs.Ytbmjceiogfhffab
