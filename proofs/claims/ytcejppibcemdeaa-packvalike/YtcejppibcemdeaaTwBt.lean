/- Contract of tower.Bits over the seat's translation: the walks, level by level. -/
import Derived.Test.YtcejppibcemdeaaRfE
import Derived.Deep.OwnRows
namespace Go.Proofs.Ytcejppibcemdeaa
open Go.RowKit

theorem info_bool : ∃ i, Try.prog.info? 4 = some i ∧ i.zero = some (.bool false) ∧ i.size = 1 ∧ i.bytes = 1 := by
  have h : (Try.prog.info? 4).map (fun i => (i.zero, i.size, i.bytes)) = some (some (.bool false), 1, 1) := by kernel_rfl
  obtain ⟨i, hi, he⟩ := Option.map_eq_some_iff.1 h
  simp only [Prod.mk.injEq] at he
  exact ⟨i, hi, he.1, he.2.1, he.2.2⟩
theorem rowIs_below {w w' : World} {b : Nat} {t : TypeId} {n : Nat} {f : Nat → Value} (h : w.rowIs b t n f) (hb : Below w.heap.size w w') : w'.rowIs b t n f := h.of_block (hb.block b h.lt)
theorem row_step {w : World} {g : Nat} {t : TypeId} {n j : Nat} {hb : Nat → Bool} {b : Bool} (h : w.rowIs g t n fun i => .bool (decide (i < j) && hb i)) (e : hb j = b) : (w.setCell ⟨g, j, none⟩ (.bool b)).rowIs g t n fun i => .bool (decide (i < j + 1) && hb i) :=
  (h.set j (.bool b)).congr fun i _ => by
    show (if i = j then Value.bool b else Value.bool (decide (i < j) && hb i)) = _
    by_cases h1 : i = j
    · subst h1; rw [if_pos rfl, e, show decide (i < i + 1) = true by simp]; rfl
    · rw [if_neg h1]
      have : decide (i < j + 1) = decide (i < j) := by rw [decide_eq_decide]; omega
      rw [this]
set_option maxHeartbeats 2000000 in
set_option maxRecDepth 100000 in
theorem bits0 (ah al : Nat) (hb : Nat → Bool) (HO : Ret 33 #[.int .i64 0, .agg #[.int .u64 (ah : Int), .int .u64 (al : Int)]] (.bool true))
    (H1 : Hid (∀ j : Nat, j < 64 → bits .and .u64 ((al : Int) / 2 ^ j) 1 = if hb j = true then 1 else 0)) (W : World) :
    Calls Try.prog 55 #[.int .i64 0, .agg #[.int .u64 (ah : Int), .int .u64 (al : Int)]] W fun e w' => ∃ g, e = .returned (.slice (some ⟨g, 0, none⟩) 1 1) ∧ (w'.rowIs g 4 1 fun i => .bool (hb i)) ∧ Below W.heap.size W w' := by
  go_enter Try.func55, Try.ntmps55
  go_wp2_with fail
  refine (HO.go _).mono ?_
  rintro e w1 ⟨rfl, hb1⟩
  have E : Hid (El w1 W.heap.size ah al) := El.below ⟨by simp [go_sem], by simp [go_sem]⟩ hb1
  have D : Hid (Below W.heap.size W w1) := ((Below.refl _ _).alloc (Nat.le_refl _) _).trans (hb1.mono (by simp <;> omega))
  have hg : W.heap.size ≤ w1.heap.size := D.out.size
  have hne : ¬ w1.heap.size = W.heap.size := by have := E.out.lt; omega
  clear hb1
  obtain ⟨i0, hi, hz0, hz1, hz2⟩ := info_bool
  have HI : Hid (Try.prog.info? 4 = some i0 ∧ i0.zero = some (.bool false) ∧ i0.size = 1 ∧ i0.bytes = 1) := ⟨hi, hz0, hz1, hz2⟩
  clear hi hz0 hz1 hz2
  go_wp2_with (at_make; refine wpList_make_row _ rfl _ _ 80 rfl 4 i0 (.bool false) Try.underlying80 HI.out.1 HI.out.2.1 HI.out.2.2.1 rfl .i64 .i64 1 rfl rfl ?_ ?_ ?_; rw [HI.out.2.2.2]; decide; decide)
  go_loopw [16] (fun u wr => ∃ j : Nat, j ≤ 1 ∧ u = .int .i64 j ∧ (wr.rowIs w1.heap.size 4 1 fun i => .bool (decide (i < j) && hb i)) ∧ El wr W.heap.size ah al ∧ Below W.heap.size W wr) (fun u _ => 1 - (intOf u).toNat)
  case atStart =>
    refine ⟨0, Nat.zero_le _, rfl, (World.rowIs_made w1 (.bool false) 1 4).congr fun i _ => by simp, E.out.alloc _, D.out.alloc D.out.size _⟩
  case round =>
    obtain ⟨j, hj, rfl, hR, hE, hD⟩ := hrel
    by_cases hlt : j < 1
    · have HR : Hid (wr.rowIs w1.heap.size 4 1 fun i => .bool (decide (i < j) && hb i)) := hR
      have HD : Hid (Below W.heap.size W wr) := hD
      have e1 := hE.hi
      have e0 := hE.lo
      have c := hR.cell hlt
      have f := hR.frozen j
      clear hR hE hD E D HI
      have hs : (j : Int) < 64 := by omega
      rcases hbj : hb j with _ | _
      · have fb1 : bits .and .u64 ((al : Int) / 2 ^ j) 1 = 0 := by have := H1.out j (by omega); rw [hbj] at this; exact this
        clear H1
        go_wp2
        exact ⟨⟨j + 1, hlt, by simp, row_step HR.out hbj, ⟨by simp [go_sem, e1], by simp [go_sem, e0]⟩, HD.out.setCell hg _⟩, by simp [intOf]; omega⟩
      · have fb1 : bits .and .u64 ((al : Int) / 2 ^ j) 1 = 1 := by have := H1.out j (by omega); rw [hbj] at this; exact this
        clear H1
        go_wp2
        exact ⟨⟨j + 1, hlt, by simp, row_step HR.out hbj, ⟨by simp [go_sem, e1], by simp [go_sem, e0]⟩, HD.out.setCell hg _⟩, by simp [intOf]; omega⟩
    · obtain rfl : j = 1 := by omega
      have HR : Hid (wr.rowIs w1.heap.size 4 1 fun i => .bool (hb i)) := hR.congr fun i hi => by simp [hi]
      have HD : Hid (Below W.heap.size W wr) := hD
      clear hR hE hD E D HI H1
      go_wp2
      go_ret
      exact ⟨_, rfl, HR.out, HD.out⟩
set_option maxHeartbeats 2000000 in
set_option maxRecDepth 100000 in
theorem bits1 (ah al : Nat) (hb : Nat → Bool) (HO : Ret 33 #[.int .i64 1, .agg #[.int .u64 (ah : Int), .int .u64 (al : Int)]] (.bool true))
    (H1 : Hid (∀ j : Nat, j < 64 → bits .and .u64 ((al : Int) / 2 ^ j) 1 = if hb j = true then 1 else 0)) (W : World) :
    Calls Try.prog 55 #[.int .i64 1, .agg #[.int .u64 (ah : Int), .int .u64 (al : Int)]] W fun e w' => ∃ g, e = .returned (.slice (some ⟨g, 0, none⟩) 2 2) ∧ (w'.rowIs g 4 2 fun i => .bool (hb i)) ∧ Below W.heap.size W w' := by
  go_enter Try.func55, Try.ntmps55
  go_wp2_with fail
  refine (HO.go _).mono ?_
  rintro e w1 ⟨rfl, hb1⟩
  have E : Hid (El w1 W.heap.size ah al) := El.below ⟨by simp [go_sem], by simp [go_sem]⟩ hb1
  have D : Hid (Below W.heap.size W w1) := ((Below.refl _ _).alloc (Nat.le_refl _) _).trans (hb1.mono (by simp <;> omega))
  have hg : W.heap.size ≤ w1.heap.size := D.out.size
  have hne : ¬ w1.heap.size = W.heap.size := by have := E.out.lt; omega
  clear hb1
  obtain ⟨i0, hi, hz0, hz1, hz2⟩ := info_bool
  have HI : Hid (Try.prog.info? 4 = some i0 ∧ i0.zero = some (.bool false) ∧ i0.size = 1 ∧ i0.bytes = 1) := ⟨hi, hz0, hz1, hz2⟩
  clear hi hz0 hz1 hz2
  go_wp2_with (at_make; refine wpList_make_row _ rfl _ _ 80 rfl 4 i0 (.bool false) Try.underlying80 HI.out.1 HI.out.2.1 HI.out.2.2.1 rfl .i64 .i64 2 rfl rfl ?_ ?_ ?_; rw [HI.out.2.2.2]; decide; decide)
  go_loopw [16] (fun u wr => ∃ j : Nat, j ≤ 2 ∧ u = .int .i64 j ∧ (wr.rowIs w1.heap.size 4 2 fun i => .bool (decide (i < j) && hb i)) ∧ El wr W.heap.size ah al ∧ Below W.heap.size W wr) (fun u _ => 2 - (intOf u).toNat)
  case atStart =>
    refine ⟨0, Nat.zero_le _, rfl, (World.rowIs_made w1 (.bool false) 2 4).congr fun i _ => by simp, E.out.alloc _, D.out.alloc D.out.size _⟩
  case round =>
    obtain ⟨j, hj, rfl, hR, hE, hD⟩ := hrel
    by_cases hlt : j < 2
    · have HR : Hid (wr.rowIs w1.heap.size 4 2 fun i => .bool (decide (i < j) && hb i)) := hR
      have HD : Hid (Below W.heap.size W wr) := hD
      have e1 := hE.hi
      have e0 := hE.lo
      have c := hR.cell hlt
      have f := hR.frozen j
      clear hR hE hD E D HI
      have hs : (j : Int) < 64 := by omega
      rcases hbj : hb j with _ | _
      · have fb1 : bits .and .u64 ((al : Int) / 2 ^ j) 1 = 0 := by have := H1.out j (by omega); rw [hbj] at this; exact this
        clear H1
        go_wp2
        exact ⟨⟨j + 1, hlt, by simp, row_step HR.out hbj, ⟨by simp [go_sem, e1], by simp [go_sem, e0]⟩, HD.out.setCell hg _⟩, by simp [intOf]; omega⟩
      · have fb1 : bits .and .u64 ((al : Int) / 2 ^ j) 1 = 1 := by have := H1.out j (by omega); rw [hbj] at this; exact this
        clear H1
        go_wp2
        exact ⟨⟨j + 1, hlt, by simp, row_step HR.out hbj, ⟨by simp [go_sem, e1], by simp [go_sem, e0]⟩, HD.out.setCell hg _⟩, by simp [intOf]; omega⟩
    · obtain rfl : j = 2 := by omega
      have HR : Hid (wr.rowIs w1.heap.size 4 2 fun i => .bool (hb i)) := hR.congr fun i hi => by simp [hi]
      have HD : Hid (Below W.heap.size W wr) := hD
      clear hR hE hD E D HI H1
      go_wp2
      go_ret
      exact ⟨_, rfl, HR.out, HD.out⟩
set_option maxHeartbeats 2000000 in
set_option maxRecDepth 100000 in
theorem bits2 (ah al : Nat) (hb : Nat → Bool) (HO : Ret 33 #[.int .i64 2, .agg #[.int .u64 (ah : Int), .int .u64 (al : Int)]] (.bool true))
    (H1 : Hid (∀ j : Nat, j < 64 → bits .and .u64 ((al : Int) / 2 ^ j) 1 = if hb j = true then 1 else 0)) (W : World) :
    Calls Try.prog 55 #[.int .i64 2, .agg #[.int .u64 (ah : Int), .int .u64 (al : Int)]] W fun e w' => ∃ g, e = .returned (.slice (some ⟨g, 0, none⟩) 4 4) ∧ (w'.rowIs g 4 4 fun i => .bool (hb i)) ∧ Below W.heap.size W w' := by
  go_enter Try.func55, Try.ntmps55
  go_wp2_with fail
  refine (HO.go _).mono ?_
  rintro e w1 ⟨rfl, hb1⟩
  have E : Hid (El w1 W.heap.size ah al) := El.below ⟨by simp [go_sem], by simp [go_sem]⟩ hb1
  have D : Hid (Below W.heap.size W w1) := ((Below.refl _ _).alloc (Nat.le_refl _) _).trans (hb1.mono (by simp <;> omega))
  have hg : W.heap.size ≤ w1.heap.size := D.out.size
  have hne : ¬ w1.heap.size = W.heap.size := by have := E.out.lt; omega
  clear hb1
  obtain ⟨i0, hi, hz0, hz1, hz2⟩ := info_bool
  have HI : Hid (Try.prog.info? 4 = some i0 ∧ i0.zero = some (.bool false) ∧ i0.size = 1 ∧ i0.bytes = 1) := ⟨hi, hz0, hz1, hz2⟩
  clear hi hz0 hz1 hz2
  go_wp2_with (at_make; refine wpList_make_row _ rfl _ _ 80 rfl 4 i0 (.bool false) Try.underlying80 HI.out.1 HI.out.2.1 HI.out.2.2.1 rfl .i64 .i64 4 rfl rfl ?_ ?_ ?_; rw [HI.out.2.2.2]; decide; decide)
  go_loopw [16] (fun u wr => ∃ j : Nat, j ≤ 4 ∧ u = .int .i64 j ∧ (wr.rowIs w1.heap.size 4 4 fun i => .bool (decide (i < j) && hb i)) ∧ El wr W.heap.size ah al ∧ Below W.heap.size W wr) (fun u _ => 4 - (intOf u).toNat)
  case atStart =>
    refine ⟨0, Nat.zero_le _, rfl, (World.rowIs_made w1 (.bool false) 4 4).congr fun i _ => by simp, E.out.alloc _, D.out.alloc D.out.size _⟩
  case round =>
    obtain ⟨j, hj, rfl, hR, hE, hD⟩ := hrel
    by_cases hlt : j < 4
    · have HR : Hid (wr.rowIs w1.heap.size 4 4 fun i => .bool (decide (i < j) && hb i)) := hR
      have HD : Hid (Below W.heap.size W wr) := hD
      have e1 := hE.hi
      have e0 := hE.lo
      have c := hR.cell hlt
      have f := hR.frozen j
      clear hR hE hD E D HI
      have hs : (j : Int) < 64 := by omega
      rcases hbj : hb j with _ | _
      · have fb1 : bits .and .u64 ((al : Int) / 2 ^ j) 1 = 0 := by have := H1.out j (by omega); rw [hbj] at this; exact this
        clear H1
        go_wp2
        exact ⟨⟨j + 1, hlt, by simp, row_step HR.out hbj, ⟨by simp [go_sem, e1], by simp [go_sem, e0]⟩, HD.out.setCell hg _⟩, by simp [intOf]; omega⟩
      · have fb1 : bits .and .u64 ((al : Int) / 2 ^ j) 1 = 1 := by have := H1.out j (by omega); rw [hbj] at this; exact this
        clear H1
        go_wp2
        exact ⟨⟨j + 1, hlt, by simp, row_step HR.out hbj, ⟨by simp [go_sem, e1], by simp [go_sem, e0]⟩, HD.out.setCell hg _⟩, by simp [intOf]; omega⟩
    · obtain rfl : j = 4 := by omega
      have HR : Hid (wr.rowIs w1.heap.size 4 4 fun i => .bool (hb i)) := hR.congr fun i hi => by simp [hi]
      have HD : Hid (Below W.heap.size W wr) := hD
      clear hR hE hD E D HI H1
      go_wp2
      go_ret
      exact ⟨_, rfl, HR.out, HD.out⟩
set_option maxHeartbeats 2000000 in
set_option maxRecDepth 100000 in
theorem bits3 (ah al : Nat) (hb : Nat → Bool) (HO : Ret 33 #[.int .i64 3, .agg #[.int .u64 (ah : Int), .int .u64 (al : Int)]] (.bool true))
    (H1 : Hid (∀ j : Nat, j < 64 → bits .and .u64 ((al : Int) / 2 ^ j) 1 = if hb j = true then 1 else 0)) (W : World) :
    Calls Try.prog 55 #[.int .i64 3, .agg #[.int .u64 (ah : Int), .int .u64 (al : Int)]] W fun e w' => ∃ g, e = .returned (.slice (some ⟨g, 0, none⟩) 8 8) ∧ (w'.rowIs g 4 8 fun i => .bool (hb i)) ∧ Below W.heap.size W w' := by
  go_enter Try.func55, Try.ntmps55
  go_wp2_with fail
  refine (HO.go _).mono ?_
  rintro e w1 ⟨rfl, hb1⟩
  have E : Hid (El w1 W.heap.size ah al) := El.below ⟨by simp [go_sem], by simp [go_sem]⟩ hb1
  have D : Hid (Below W.heap.size W w1) := ((Below.refl _ _).alloc (Nat.le_refl _) _).trans (hb1.mono (by simp <;> omega))
  have hg : W.heap.size ≤ w1.heap.size := D.out.size
  have hne : ¬ w1.heap.size = W.heap.size := by have := E.out.lt; omega
  clear hb1
  obtain ⟨i0, hi, hz0, hz1, hz2⟩ := info_bool
  have HI : Hid (Try.prog.info? 4 = some i0 ∧ i0.zero = some (.bool false) ∧ i0.size = 1 ∧ i0.bytes = 1) := ⟨hi, hz0, hz1, hz2⟩
  clear hi hz0 hz1 hz2
  go_wp2_with (at_make; refine wpList_make_row _ rfl _ _ 80 rfl 4 i0 (.bool false) Try.underlying80 HI.out.1 HI.out.2.1 HI.out.2.2.1 rfl .i64 .i64 8 rfl rfl ?_ ?_ ?_; rw [HI.out.2.2.2]; decide; decide)
  go_loopw [16] (fun u wr => ∃ j : Nat, j ≤ 8 ∧ u = .int .i64 j ∧ (wr.rowIs w1.heap.size 4 8 fun i => .bool (decide (i < j) && hb i)) ∧ El wr W.heap.size ah al ∧ Below W.heap.size W wr) (fun u _ => 8 - (intOf u).toNat)
  case atStart =>
    refine ⟨0, Nat.zero_le _, rfl, (World.rowIs_made w1 (.bool false) 8 4).congr fun i _ => by simp, E.out.alloc _, D.out.alloc D.out.size _⟩
  case round =>
    obtain ⟨j, hj, rfl, hR, hE, hD⟩ := hrel
    by_cases hlt : j < 8
    · have HR : Hid (wr.rowIs w1.heap.size 4 8 fun i => .bool (decide (i < j) && hb i)) := hR
      have HD : Hid (Below W.heap.size W wr) := hD
      have e1 := hE.hi
      have e0 := hE.lo
      have c := hR.cell hlt
      have f := hR.frozen j
      clear hR hE hD E D HI
      have hs : (j : Int) < 64 := by omega
      rcases hbj : hb j with _ | _
      · have fb1 : bits .and .u64 ((al : Int) / 2 ^ j) 1 = 0 := by have := H1.out j (by omega); rw [hbj] at this; exact this
        clear H1
        go_wp2
        exact ⟨⟨j + 1, hlt, by simp, row_step HR.out hbj, ⟨by simp [go_sem, e1], by simp [go_sem, e0]⟩, HD.out.setCell hg _⟩, by simp [intOf]; omega⟩
      · have fb1 : bits .and .u64 ((al : Int) / 2 ^ j) 1 = 1 := by have := H1.out j (by omega); rw [hbj] at this; exact this
        clear H1
        go_wp2
        exact ⟨⟨j + 1, hlt, by simp, row_step HR.out hbj, ⟨by simp [go_sem, e1], by simp [go_sem, e0]⟩, HD.out.setCell hg _⟩, by simp [intOf]; omega⟩
    · obtain rfl : j = 8 := by omega
      have HR : Hid (wr.rowIs w1.heap.size 4 8 fun i => .bool (hb i)) := hR.congr fun i hi => by simp [hi]
      have HD : Hid (Below W.heap.size W wr) := hD
      clear hR hE hD E D HI H1
      go_wp2
      go_ret
      exact ⟨_, rfl, HR.out, HD.out⟩
set_option maxHeartbeats 2000000 in
set_option maxRecDepth 100000 in
theorem bits4 (ah al : Nat) (hb : Nat → Bool) (HO : Ret 33 #[.int .i64 4, .agg #[.int .u64 (ah : Int), .int .u64 (al : Int)]] (.bool true))
    (H1 : Hid (∀ j : Nat, j < 64 → bits .and .u64 ((al : Int) / 2 ^ j) 1 = if hb j = true then 1 else 0)) (W : World) :
    Calls Try.prog 55 #[.int .i64 4, .agg #[.int .u64 (ah : Int), .int .u64 (al : Int)]] W fun e w' => ∃ g, e = .returned (.slice (some ⟨g, 0, none⟩) 16 16) ∧ (w'.rowIs g 4 16 fun i => .bool (hb i)) ∧ Below W.heap.size W w' := by
  go_enter Try.func55, Try.ntmps55
  go_wp2_with fail
  refine (HO.go _).mono ?_
  rintro e w1 ⟨rfl, hb1⟩
  have E : Hid (El w1 W.heap.size ah al) := El.below ⟨by simp [go_sem], by simp [go_sem]⟩ hb1
  have D : Hid (Below W.heap.size W w1) := ((Below.refl _ _).alloc (Nat.le_refl _) _).trans (hb1.mono (by simp <;> omega))
  have hg : W.heap.size ≤ w1.heap.size := D.out.size
  have hne : ¬ w1.heap.size = W.heap.size := by have := E.out.lt; omega
  clear hb1
  obtain ⟨i0, hi, hz0, hz1, hz2⟩ := info_bool
  have HI : Hid (Try.prog.info? 4 = some i0 ∧ i0.zero = some (.bool false) ∧ i0.size = 1 ∧ i0.bytes = 1) := ⟨hi, hz0, hz1, hz2⟩
  clear hi hz0 hz1 hz2
  go_wp2_with (at_make; refine wpList_make_row _ rfl _ _ 80 rfl 4 i0 (.bool false) Try.underlying80 HI.out.1 HI.out.2.1 HI.out.2.2.1 rfl .i64 .i64 16 rfl rfl ?_ ?_ ?_; rw [HI.out.2.2.2]; decide; decide)
  go_loopw [16] (fun u wr => ∃ j : Nat, j ≤ 16 ∧ u = .int .i64 j ∧ (wr.rowIs w1.heap.size 4 16 fun i => .bool (decide (i < j) && hb i)) ∧ El wr W.heap.size ah al ∧ Below W.heap.size W wr) (fun u _ => 16 - (intOf u).toNat)
  case atStart =>
    refine ⟨0, Nat.zero_le _, rfl, (World.rowIs_made w1 (.bool false) 16 4).congr fun i _ => by simp, E.out.alloc _, D.out.alloc D.out.size _⟩
  case round =>
    obtain ⟨j, hj, rfl, hR, hE, hD⟩ := hrel
    by_cases hlt : j < 16
    · have HR : Hid (wr.rowIs w1.heap.size 4 16 fun i => .bool (decide (i < j) && hb i)) := hR
      have HD : Hid (Below W.heap.size W wr) := hD
      have e1 := hE.hi
      have e0 := hE.lo
      have c := hR.cell hlt
      have f := hR.frozen j
      clear hR hE hD E D HI
      have hs : (j : Int) < 64 := by omega
      rcases hbj : hb j with _ | _
      · have fb1 : bits .and .u64 ((al : Int) / 2 ^ j) 1 = 0 := by have := H1.out j (by omega); rw [hbj] at this; exact this
        clear H1
        go_wp2
        exact ⟨⟨j + 1, hlt, by simp, row_step HR.out hbj, ⟨by simp [go_sem, e1], by simp [go_sem, e0]⟩, HD.out.setCell hg _⟩, by simp [intOf]; omega⟩
      · have fb1 : bits .and .u64 ((al : Int) / 2 ^ j) 1 = 1 := by have := H1.out j (by omega); rw [hbj] at this; exact this
        clear H1
        go_wp2
        exact ⟨⟨j + 1, hlt, by simp, row_step HR.out hbj, ⟨by simp [go_sem, e1], by simp [go_sem, e0]⟩, HD.out.setCell hg _⟩, by simp [intOf]; omega⟩
    · obtain rfl : j = 16 := by omega
      have HR : Hid (wr.rowIs w1.heap.size 4 16 fun i => .bool (hb i)) := hR.congr fun i hi => by simp [hi]
      have HD : Hid (Below W.heap.size W wr) := hD
      clear hR hE hD E D HI H1
      go_wp2
      go_ret
      exact ⟨_, rfl, HR.out, HD.out⟩
set_option maxHeartbeats 2000000 in
set_option maxRecDepth 100000 in
theorem bits5 (ah al : Nat) (hb : Nat → Bool) (HO : Ret 33 #[.int .i64 5, .agg #[.int .u64 (ah : Int), .int .u64 (al : Int)]] (.bool true))
    (H1 : Hid (∀ j : Nat, j < 64 → bits .and .u64 ((al : Int) / 2 ^ j) 1 = if hb j = true then 1 else 0)) (W : World) :
    Calls Try.prog 55 #[.int .i64 5, .agg #[.int .u64 (ah : Int), .int .u64 (al : Int)]] W fun e w' => ∃ g, e = .returned (.slice (some ⟨g, 0, none⟩) 32 32) ∧ (w'.rowIs g 4 32 fun i => .bool (hb i)) ∧ Below W.heap.size W w' := by
  go_enter Try.func55, Try.ntmps55
  go_wp2_with fail
  refine (HO.go _).mono ?_
  rintro e w1 ⟨rfl, hb1⟩
  have E : Hid (El w1 W.heap.size ah al) := El.below ⟨by simp [go_sem], by simp [go_sem]⟩ hb1
  have D : Hid (Below W.heap.size W w1) := ((Below.refl _ _).alloc (Nat.le_refl _) _).trans (hb1.mono (by simp <;> omega))
  have hg : W.heap.size ≤ w1.heap.size := D.out.size
  have hne : ¬ w1.heap.size = W.heap.size := by have := E.out.lt; omega
  clear hb1
  obtain ⟨i0, hi, hz0, hz1, hz2⟩ := info_bool
  have HI : Hid (Try.prog.info? 4 = some i0 ∧ i0.zero = some (.bool false) ∧ i0.size = 1 ∧ i0.bytes = 1) := ⟨hi, hz0, hz1, hz2⟩
  clear hi hz0 hz1 hz2
  go_wp2_with (at_make; refine wpList_make_row _ rfl _ _ 80 rfl 4 i0 (.bool false) Try.underlying80 HI.out.1 HI.out.2.1 HI.out.2.2.1 rfl .i64 .i64 32 rfl rfl ?_ ?_ ?_; rw [HI.out.2.2.2]; decide; decide)
  go_loopw [16] (fun u wr => ∃ j : Nat, j ≤ 32 ∧ u = .int .i64 j ∧ (wr.rowIs w1.heap.size 4 32 fun i => .bool (decide (i < j) && hb i)) ∧ El wr W.heap.size ah al ∧ Below W.heap.size W wr) (fun u _ => 32 - (intOf u).toNat)
  case atStart =>
    refine ⟨0, Nat.zero_le _, rfl, (World.rowIs_made w1 (.bool false) 32 4).congr fun i _ => by simp, E.out.alloc _, D.out.alloc D.out.size _⟩
  case round =>
    obtain ⟨j, hj, rfl, hR, hE, hD⟩ := hrel
    by_cases hlt : j < 32
    · have HR : Hid (wr.rowIs w1.heap.size 4 32 fun i => .bool (decide (i < j) && hb i)) := hR
      have HD : Hid (Below W.heap.size W wr) := hD
      have e1 := hE.hi
      have e0 := hE.lo
      have c := hR.cell hlt
      have f := hR.frozen j
      clear hR hE hD E D HI
      have hs : (j : Int) < 64 := by omega
      rcases hbj : hb j with _ | _
      · have fb1 : bits .and .u64 ((al : Int) / 2 ^ j) 1 = 0 := by have := H1.out j (by omega); rw [hbj] at this; exact this
        clear H1
        go_wp2
        exact ⟨⟨j + 1, hlt, by simp, row_step HR.out hbj, ⟨by simp [go_sem, e1], by simp [go_sem, e0]⟩, HD.out.setCell hg _⟩, by simp [intOf]; omega⟩
      · have fb1 : bits .and .u64 ((al : Int) / 2 ^ j) 1 = 1 := by have := H1.out j (by omega); rw [hbj] at this; exact this
        clear H1
        go_wp2
        exact ⟨⟨j + 1, hlt, by simp, row_step HR.out hbj, ⟨by simp [go_sem, e1], by simp [go_sem, e0]⟩, HD.out.setCell hg _⟩, by simp [intOf]; omega⟩
    · obtain rfl : j = 32 := by omega
      have HR : Hid (wr.rowIs w1.heap.size 4 32 fun i => .bool (hb i)) := hR.congr fun i hi => by simp [hi]
      have HD : Hid (Below W.heap.size W wr) := hD
      clear hR hE hD E D HI H1
      go_wp2
      go_ret
      exact ⟨_, rfl, HR.out, HD.out⟩
set_option maxHeartbeats 2000000 in
set_option maxRecDepth 100000 in
theorem bits6 (ah al : Nat) (hb : Nat → Bool) (HO : Ret 33 #[.int .i64 6, .agg #[.int .u64 (ah : Int), .int .u64 (al : Int)]] (.bool true))
    (H1 : Hid (∀ j : Nat, j < 64 → bits .and .u64 ((al : Int) / 2 ^ j) 1 = if hb j = true then 1 else 0)) (W : World) :
    Calls Try.prog 55 #[.int .i64 6, .agg #[.int .u64 (ah : Int), .int .u64 (al : Int)]] W fun e w' => ∃ g, e = .returned (.slice (some ⟨g, 0, none⟩) 64 64) ∧ (w'.rowIs g 4 64 fun i => .bool (hb i)) ∧ Below W.heap.size W w' := by
  go_enter Try.func55, Try.ntmps55
  go_wp2_with fail
  refine (HO.go _).mono ?_
  rintro e w1 ⟨rfl, hb1⟩
  have E : Hid (El w1 W.heap.size ah al) := El.below ⟨by simp [go_sem], by simp [go_sem]⟩ hb1
  have D : Hid (Below W.heap.size W w1) := ((Below.refl _ _).alloc (Nat.le_refl _) _).trans (hb1.mono (by simp <;> omega))
  have hg : W.heap.size ≤ w1.heap.size := D.out.size
  have hne : ¬ w1.heap.size = W.heap.size := by have := E.out.lt; omega
  clear hb1
  obtain ⟨i0, hi, hz0, hz1, hz2⟩ := info_bool
  have HI : Hid (Try.prog.info? 4 = some i0 ∧ i0.zero = some (.bool false) ∧ i0.size = 1 ∧ i0.bytes = 1) := ⟨hi, hz0, hz1, hz2⟩
  clear hi hz0 hz1 hz2
  go_wp2_with (at_make; refine wpList_make_row _ rfl _ _ 80 rfl 4 i0 (.bool false) Try.underlying80 HI.out.1 HI.out.2.1 HI.out.2.2.1 rfl .i64 .i64 64 rfl rfl ?_ ?_ ?_; rw [HI.out.2.2.2]; decide; decide)
  go_loopw [16] (fun u wr => ∃ j : Nat, j ≤ 64 ∧ u = .int .i64 j ∧ (wr.rowIs w1.heap.size 4 64 fun i => .bool (decide (i < j) && hb i)) ∧ El wr W.heap.size ah al ∧ Below W.heap.size W wr) (fun u _ => 64 - (intOf u).toNat)
  case atStart =>
    refine ⟨0, Nat.zero_le _, rfl, (World.rowIs_made w1 (.bool false) 64 4).congr fun i _ => by simp, E.out.alloc _, D.out.alloc D.out.size _⟩
  case round =>
    obtain ⟨j, hj, rfl, hR, hE, hD⟩ := hrel
    by_cases hlt : j < 64
    · have HR : Hid (wr.rowIs w1.heap.size 4 64 fun i => .bool (decide (i < j) && hb i)) := hR
      have HD : Hid (Below W.heap.size W wr) := hD
      have e1 := hE.hi
      have e0 := hE.lo
      have c := hR.cell hlt
      have f := hR.frozen j
      clear hR hE hD E D HI
      have hs : (j : Int) < 64 := by omega
      rcases hbj : hb j with _ | _
      · have fb1 : bits .and .u64 ((al : Int) / 2 ^ j) 1 = 0 := by have := H1.out j (by omega); rw [hbj] at this; exact this
        clear H1
        go_wp2
        exact ⟨⟨j + 1, hlt, by simp, row_step HR.out hbj, ⟨by simp [go_sem, e1], by simp [go_sem, e0]⟩, HD.out.setCell hg _⟩, by simp [intOf]; omega⟩
      · have fb1 : bits .and .u64 ((al : Int) / 2 ^ j) 1 = 1 := by have := H1.out j (by omega); rw [hbj] at this; exact this
        clear H1
        go_wp2
        exact ⟨⟨j + 1, hlt, by simp, row_step HR.out hbj, ⟨by simp [go_sem, e1], by simp [go_sem, e0]⟩, HD.out.setCell hg _⟩, by simp [intOf]; omega⟩
    · obtain rfl : j = 64 := by omega
      have HR : Hid (wr.rowIs w1.heap.size 4 64 fun i => .bool (hb i)) := hR.congr fun i hi => by simp [hi]
      have HD : Hid (Below W.heap.size W wr) := hD
      clear hR hE hD E D HI H1
      go_wp2
      go_ret
      exact ⟨_, rfl, HR.out, HD.out⟩
set_option maxHeartbeats 2000000 in
set_option maxRecDepth 100000 in
theorem bits7 (ah al : Nat) (hb : Nat → Bool) (HO : Ret 33 #[.int .i64 7, .agg #[.int .u64 (ah : Int), .int .u64 (al : Int)]] (.bool true))
    (H1 : Hid (∀ j : Nat, j < 64 → bits .and .u64 ((al : Int) / 2 ^ j) 1 = if hb j = true then 1 else 0)) (H2 : Hid (∀ j : Nat, ¬ j < 64 → j < 128 → bits .and .u64 ((ah : Int) / 2 ^ (j - 64)) 1 = if hb j = true then 1 else 0)) (W : World) :
    Calls Try.prog 55 #[.int .i64 7, .agg #[.int .u64 (ah : Int), .int .u64 (al : Int)]] W fun e w' => ∃ g, e = .returned (.slice (some ⟨g, 0, none⟩) 128 128) ∧ (w'.rowIs g 4 128 fun i => .bool (hb i)) ∧ Below W.heap.size W w' := by
  go_enter Try.func55, Try.ntmps55
  go_wp2_with fail
  refine (HO.go _).mono ?_
  rintro e w1 ⟨rfl, hb1⟩
  have E : Hid (El w1 W.heap.size ah al) := El.below ⟨by simp [go_sem], by simp [go_sem]⟩ hb1
  have D : Hid (Below W.heap.size W w1) := ((Below.refl _ _).alloc (Nat.le_refl _) _).trans (hb1.mono (by simp <;> omega))
  have hg : W.heap.size ≤ w1.heap.size := D.out.size
  have hne : ¬ w1.heap.size = W.heap.size := by have := E.out.lt; omega
  clear hb1
  obtain ⟨i0, hi, hz0, hz1, hz2⟩ := info_bool
  have HI : Hid (Try.prog.info? 4 = some i0 ∧ i0.zero = some (.bool false) ∧ i0.size = 1 ∧ i0.bytes = 1) := ⟨hi, hz0, hz1, hz2⟩
  clear hi hz0 hz1 hz2
  go_wp2_with (at_make; refine wpList_make_row _ rfl _ _ 80 rfl 4 i0 (.bool false) Try.underlying80 HI.out.1 HI.out.2.1 HI.out.2.2.1 rfl .i64 .i64 128 rfl rfl ?_ ?_ ?_; rw [HI.out.2.2.2]; decide; decide)
  go_loopw [16] (fun u wr => ∃ j : Nat, j ≤ 128 ∧ u = .int .i64 j ∧ (wr.rowIs w1.heap.size 4 128 fun i => .bool (decide (i < j) && hb i)) ∧ El wr W.heap.size ah al ∧ Below W.heap.size W wr) (fun u _ => 128 - (intOf u).toNat)
  case atStart =>
    refine ⟨0, Nat.zero_le _, rfl, (World.rowIs_made w1 (.bool false) 128 4).congr fun i _ => by simp, E.out.alloc _, D.out.alloc D.out.size _⟩
  case round =>
    obtain ⟨j, hj, rfl, hR, hE, hD⟩ := hrel
    by_cases hlt : j < 128
    · have HR : Hid (wr.rowIs w1.heap.size 4 128 fun i => .bool (decide (i < j) && hb i)) := hR
      have HD : Hid (Below W.heap.size W wr) := hD
      have e1 := hE.hi
      have e0 := hE.lo
      have c := hR.cell hlt
      have f := hR.frozen j
      clear hR hE hD E D HI
      by_cases hs0 : j < 64
      · have hs : (j : Int) < 64 := by omega
        rcases hbj : hb j with _ | _
        · have fb1 : bits .and .u64 ((al : Int) / 2 ^ j) 1 = 0 := by have := H1.out j hs0; rw [hbj] at this; exact this
          clear H1 H2
          go_wp2
          exact ⟨⟨j + 1, hlt, by simp, row_step HR.out hbj, ⟨by simp [go_sem, e1], by simp [go_sem, e0]⟩, HD.out.setCell hg _⟩, by simp [intOf]; omega⟩
        · have fb1 : bits .and .u64 ((al : Int) / 2 ^ j) 1 = 1 := by have := H1.out j hs0; rw [hbj] at this; exact this
          clear H1 H2
          go_wp2
          exact ⟨⟨j + 1, hlt, by simp, row_step HR.out hbj, ⟨by simp [go_sem, e1], by simp [go_sem, e0]⟩, HD.out.setCell hg _⟩, by simp [intOf]; omega⟩
      · have hs : ¬ (j : Int) < 64 := by omega
        have hs2 : (64 : Int) ≤ (j : Int) := by omega
        rcases hbj : hb j with _ | _
        · have fb1 : bits .and .u64 ((ah : Int) / 2 ^ (j - 64)) 1 = 0 := by have := H2.out j hs0 hlt; rw [hbj] at this; exact this
          clear H1 H2
          go_wp2
          exact ⟨⟨j + 1, hlt, by simp, row_step HR.out hbj, ⟨by simp [go_sem, e1], by simp [go_sem, e0]⟩, HD.out.setCell hg _⟩, by simp [intOf]; omega⟩
        · have fb1 : bits .and .u64 ((ah : Int) / 2 ^ (j - 64)) 1 = 1 := by have := H2.out j hs0 hlt; rw [hbj] at this; exact this
          clear H1 H2
          go_wp2
          exact ⟨⟨j + 1, hlt, by simp, row_step HR.out hbj, ⟨by simp [go_sem, e1], by simp [go_sem, e0]⟩, HD.out.setCell hg _⟩, by simp [intOf]; omega⟩
    · obtain rfl : j = 128 := by omega
      have HR : Hid (wr.rowIs w1.heap.size 4 128 fun i => .bool (hb i)) := hR.congr fun i hi => by simp [hi]
      have HD : Hid (Below W.heap.size W wr) := hD
      clear hR hE hD E D HI H1 H2
      go_wp2
      go_ret
      exact ⟨_, rfl, HR.out, HD.out⟩
end Go.Proofs.Ytcejppibcemdeaa
