/- Contract of tower.product over the seat's translation. -/
import Derived.Test.YtbmjceiogfhffabTwF
import Derived.Deep.RegionWith
import Derived.Deep.DeepCutAuto
import Derived.Deep.RegionHeld3
namespace Go.Proofs.Ytbmjceiogfhffab
open Go.RowKit
open Tw (px)

/-- Two elements and a place for a third lie in three blocks. -/
def Box3 (X : Nat) (ah al bh bl : Nat) (w : World) : Prop := w.heap[X]? = some (.cells #[.int .u64 (ah : Int), .int .u64 (al : Int)] 62) ∧ w.heap[X + 1]? = some (.cells #[.int .u64 (bh : Int), .int .u64 (bl : Int)] 62) ∧ w.heap[X + 1 + 1]? = some (.cells #[.int .u64 0, .int .u64 0] 62)
theorem heap_keep {w w1 : World} {g : Nat} {o : Obj} (h : w.heap[g]? = some o) (k : Below w.heap.size w w1) : w1.heap[g]? = some o := by
  have hl : g < w.heap.size := by
    rcases Nat.lt_or_ge g w.heap.size with h1 | h1
    · exact h1
    · rw [Array.getElem?_eq_none h1] at h; cases h
  rw [k.block g hl]; exact h
theorem Box3.below {X ah al bh bl : Nat} {w w1 : World} (h : Box3 X ah al bh bl w) (k : Below w.heap.size w w1) : Box3 X ah al bh bl w1 :=
  ⟨heap_keep h.1 k, heap_keep h.2.1 k, heap_keep h.2.2 k⟩
theorem Box3.facts {X ah al bh bl : Nat} {w : World} (h : Box3 X ah al bh bl w) :
    w.cell? ⟨X, 0, none⟩ = some (.int .u64 (ah : Int)) ∧ w.cell? ⟨X, 1, none⟩ = some (.int .u64 (al : Int)) ∧ w.cell? ⟨X + 1, 0, none⟩ = some (.int .u64 (bh : Int)) ∧ w.cell? ⟨X + 1, 1, none⟩ = some (.int .u64 (bl : Int)) ∧ w.cell? ⟨X + 1 + 1, 0, none⟩ = some (.int .u64 0) ∧ w.cell? ⟨X + 1 + 1, 1, none⟩ = some (.int .u64 0) ∧ (∀ o, w.frozen? ⟨X, o, none⟩ = false) ∧ (∀ o, w.frozen? ⟨X + 1, o, none⟩ = false) ∧ (∀ o, w.frozen? ⟨X + 1 + 1, o, none⟩ = false) := by
  obtain ⟨h1, h2, h3⟩ := h
  simp [World.cell?, World.frozen?, h1, h2, h3]
theorem Box3.drew {X ah al bh bl : Nat} {w : World} (h : Box3 X ah al bh bl w) : Box3 X ah al bh bl w.drew := h
theorem Box3.lt {X ah al bh bl : Nat} {w : World} (h : Box3 X ah al bh bl w) : X + 1 + 1 < w.heap.size := by
  rcases Nat.lt_or_ge (X + 1 + 1) w.heap.size with h1 | h1
  · exact h1
  · have := h.2.2; rw [Array.getElem?_eq_none h1] at this; cases this
theorem push_old (A : Array Obj) (o : Obj) (i : Nat) (h : i < A.size) : (A.push o)[i]? = A[i]? := by rw [Array.getElem?_push, if_neg (by omega)]
theorem push_new (A : Array Obj) (o : Obj) (i : Nat) (h : i = A.size) : (A.push o)[i]? = some o := by rw [Array.getElem?_push, if_pos h]
theorem box3_new (W : World) (ah al bh bl : Nat) (o4 o5 : Obj) (n : Nat) : Box3 W.heap.size ah al bh bl ((((((W.alloc (Obj.cells #[.int .u64 (ah : Int), .int .u64 (al : Int)] 62)).alloc (Obj.cells #[.int .u64 (bh : Int), .int .u64 (bl : Int)] 62)).alloc (Obj.cells #[.int .u64 0, .int .u64 0] 62)).alloc o4).alloc o5).drewN n) := by
  refine ⟨?_, ?_, ?_⟩
  · show (((((W.heap.push _).push _).push _).push o4).push o5)[W.heap.size]? = _
    rw [push_old _ _ _ (by simp <;> omega), push_old _ _ _ (by simp <;> omega), push_old _ _ _ (by simp <;> omega), push_old _ _ _ (by simp <;> omega)]
    exact push_new _ _ _ rfl
  · show (((((W.heap.push _).push _).push _).push o4).push o5)[W.heap.size + 1]? = _
    rw [push_old _ _ _ (by simp <;> omega), push_old _ _ _ (by simp <;> omega), push_old _ _ _ (by simp <;> omega)]
    exact push_new _ _ _ (by simp)
  · show (((((W.heap.push _).push _).push _).push o4).push o5)[W.heap.size + 1 + 1]? = _
    rw [push_old _ _ _ (by simp <;> omega), push_old _ _ _ (by simp <;> omega)]
    exact push_new _ _ _ (by simp)
theorem below_new (W : World) (o1 o2 o3 o4 o5 : Obj) (n : Nat) : Below W.heap.size W (((((((W.alloc o1).alloc o2).alloc o3).alloc o4).alloc o5)).drewN n) :=
  below_drewN ((((((Below.refl _ _).alloc (Nat.le_refl _) _).alloc (by simp <;> omega) _).alloc (by simp <;> omega) _).alloc (by simp <;> omega) _).alloc (by simp <;> omega) _) n

set_option maxHeartbeats 2000000 in
set_option maxRecDepth 100000 in
theorem prod_low (ah al bh bl r1 r0 : Nat) (la lb : Int) (hle : ¬ lb < la) (h7 : la < 7)
    (HA : Hid (∀ W, Calls Try.prog 56 #[.agg #[.int .u64 (ah : Int), .int .u64 (al : Int)]] W fun e w' => e = .returned (.int .i64 la) ∧ w' = W.alloc (Obj.cells #[.int .u64 (ah : Int), .int .u64 (al : Int)] 62)))
    (HB : Hid (∀ W, Calls Try.prog 56 #[.agg #[.int .u64 (bh : Int), .int .u64 (bl : Int)]] W fun e w' => e = .returned (.int .i64 lb) ∧ w' = W.alloc (Obj.cells #[.int .u64 (bh : Int), .int .u64 (bl : Int)] 62)))
    (H1 : Hid (∀ W, Calls Try.prog 62 #[.int .i64 la, .int .u64 (bh : Int), .int .u64 (al : Int)] W fun e w' => e = .returned (.int .u64 (r1 : Nat)) ∧ Below W.heap.size W w'))
    (H0 : Hid (∀ W, Calls Try.prog 62 #[.int .i64 la, .int .u64 (bl : Int), .int .u64 (al : Int)] W fun e w' => e = .returned (.int .u64 (r0 : Nat)) ∧ Below W.heap.size W w')) (W : World) :
    Calls Try.prog 44 #[.agg #[.int .u64 (ah : Int), .int .u64 (al : Int)], .agg #[.int .u64 (bh : Int), .int .u64 (bl : Int)]] W fun e w' => e = .returned (.agg #[.int .u64 (r1 : Nat), .int .u64 (r0 : Nat)]) ∧ Below W.heap.size W w' := by
  go_enter Try.func44, Try.ntmps44
  go_upto_region 1 with fail
  go_cut [5, 6] (fun s5 s6 w => s5 = .int .i64 la ∧ s6 = .int .i64 lb ∧ Box3 W.heap.size ah al bh bl w ∧ Below W.heap.size W w)
  case first =>
    go_region_with (first | (go_at_call_of 56 (Value.int .u64 (ah : Int)); refine (HA.out _).mono ?_; rintro e w' ⟨rfl, rfl⟩) | (go_at_call_of 56 (Value.int .u64 (bh : Int)); refine (HB.out _).mono ?_; rintro e w' ⟨rfl, rfl⟩))
    all_goals
      go_wp2_with fail
      go_meet
      exact ⟨rfl, rfl, box3_new W ah al bh bl _ _ 1, below_new W _ _ _ _ _ 1⟩
  case rest =>
    obtain ⟨rfl, rfl, B, hbw⟩ := hcut
    obtain ⟨_, _, _, _, _, _, _, _, _⟩ := B.facts
    go_wp2_with fail
    clear hle h7 HA HB
    have hne1 : ¬ W.heap.size = W.heap.size + 1 + 1 := by omega
    have hne2 : ¬ W.heap.size + 1 + 1 = W.heap.size := by omega
    go_region_held3 (fun w' => w'.cell? ⟨W.heap.size, 1, none⟩ = some (.int .u64 (al : Int)) ∧ w'.cell? ⟨W.heap.size + 1, 0, none⟩ = some (.int .u64 (bh : Int)) ∧ w'.cell? ⟨W.heap.size + 1, 1, none⟩ = some (.int .u64 (bl : Int))) (go_keep) (first | (go_at_call_of 62 (Value.int .u64 (bh : Int)); refine (H1.out _).mono ?_; rintro e w1 ⟨rfl, hb1⟩; have B_w1 : Box3 W.heap.size ah al bh bl w1 := (by first | exact B.drew.below hb1 | exact B_w1.below hb1 | exact B_w2.below hb1); have D_w1 : Below W.heap.size W w1 := (by first | exact hbw.drew.trans (hb1.mono hbw.size) | exact D_w1.trans (hb1.mono D_w1.size) | exact D_w2.trans (hb1.mono D_w2.size)); obtain ⟨_, _, _, _, _, _, _, _, _⟩ := B_w1.facts) | (go_at_call_of 62 (Value.int .u64 (bl : Int)); refine (H0.out _).mono ?_; rintro e w2 ⟨rfl, hb2⟩; have B_w2 : Box3 W.heap.size ah al bh bl w2 := (by first | exact B.drew.below hb2 | exact B_w1.below hb2 | exact B_w2.below hb2); have D_w2 : Below W.heap.size W w2 := (by first | exact hbw.drew.trans (hb2.mono hbw.size) | exact D_w1.trans (hb2.mono D_w1.size) | exact D_w2.trans (hb2.mono D_w2.size)); obtain ⟨_, _, _, _, _, _, _, _, _⟩ := B_w2.facts))
    all_goals
      go_wp2
      refine bodyPost_ret (v := .agg #[.int .u64 (r1 : Nat), .int .u64 (r0 : Nat)]) (by simp [results, Try.results44, go_sem, *]) rfl ⟨rfl, ?_⟩
      first | exact (D_w2.setCell (by simp <;> omega) _).setCell (by simp <;> omega) _ | exact (D_w1.setCell (by simp <;> omega) _).setCell (by simp <;> omega) _
end Go.Proofs.Ytbmjceiogfhffab
