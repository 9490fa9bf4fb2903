/- Contracts of tower.MulX, Split and Join over the seat's translation. -/
import Derived.Test.YtccaobfhldfamaaTwBl
namespace Go.Proofs.Ytccaobfhldfamaa
open Go.RowKit
open Tw (px)

theorem of_ret (l : Int) (ah al : Nat) (h2 : al < 2 ^ 64) : Ret 27 #[.int .i64 l, .agg #[.int .u64 (ah : Int), .int .u64 (al : Int)]] (.bool (ofB l ah al)) := fun W => of_any l ah al (by omega) (by omega) W

set_option maxHeartbeats 400000 in
theorem join1 (ah al bh bl r : Nat) (HO : Ret 27 #[.int .i64 0, .agg #[.int .u64 (ah : Int), .int .u64 (al : Int)]] (.bool true)) (HO2 : Ret 27 #[.int .i64 0, .agg #[.int .u64 (bh : Int), .int .u64 (bl : Int)]] (.bool true)) (h4 : al < 2) (fr : Hid (bits .or .u64 ((al : Int) * 2) (bl : Int) = (r : Int))) :
    Ret 32 #[.int .i64 1, .agg #[.int .u64 (ah : Int), .int .u64 (al : Int)], .agg #[.int .u64 (bh : Int), .int .u64 (bl : Int)]] (.agg #[.int .u64 0, .int .u64 (r : Int)]) := by
  intro W
  go_enter Try.func32, Try.ntmps32
  go_wp2_with fail
  refine (HO.go _).mono ?_
  rintro e w1 ⟨rfl, hb1⟩
  have A : El w1 W.heap.size ah al := El.below ⟨by simp [go_sem], by simp [go_sem]⟩ hb1
  have B : El w1 (W.heap.size + 1) bh bl := El.below ⟨by simp [go_sem], by simp [go_sem]⟩ hb1
  have R : Ew w1 (W.heap.size + 1 + 1) 0 0 := Ew.below ⟨⟨by simp [go_sem], by simp [go_sem]⟩, by simp [go_sem], by simp [go_sem]⟩ hb1
  have D : Below W.heap.size W w1 := ((((Below.refl _ _).alloc (Nat.le_refl _) _).alloc (by simp) _).alloc (by simp <;> omega) _).trans (hb1.mono (by simp <;> omega))
  have b1 := B.hi
  have b0 := B.lo
  clear hb1
  go_wp2_with fail
  refine (HO2.go _).mono ?_
  rintro e w2 ⟨rfl, hb2⟩
  have A := A.below hb2
  have B := B.below hb2
  have R := R.below hb2
  have D := D.trans (hb2.mono D.size)
  obtain ⟨a1, a0⟩ := A
  obtain ⟨b1, b0⟩ := B
  obtain ⟨⟨r1, r0⟩, f1, f0⟩ := R
  clear hb2
  go_wp2_with fail
  go_region
  all_goals
    go_wp2
    refine bodyPost_ret (v := .agg #[.int .u64 0, .int .u64 (bits .or .u64 ((al : Int) * 2) (bl : Int))]) (by simp [results, Try.results32, go_sem, *]) rfl ⟨by rw [fr.out], ?_⟩
    exact ((D.setCell (by simp <;> omega) _).setCell (by simp <;> omega) _).drew
set_option maxHeartbeats 400000 in
theorem join2 (ah al bh bl r : Nat) (HO : Ret 27 #[.int .i64 1, .agg #[.int .u64 (ah : Int), .int .u64 (al : Int)]] (.bool true)) (HO2 : Ret 27 #[.int .i64 1, .agg #[.int .u64 (bh : Int), .int .u64 (bl : Int)]] (.bool true)) (h4 : al < 4) (fr : Hid (bits .or .u64 ((al : Int) * 4) (bl : Int) = (r : Int))) :
    Ret 32 #[.int .i64 2, .agg #[.int .u64 (ah : Int), .int .u64 (al : Int)], .agg #[.int .u64 (bh : Int), .int .u64 (bl : Int)]] (.agg #[.int .u64 0, .int .u64 (r : Int)]) := by
  intro W
  go_enter Try.func32, Try.ntmps32
  go_wp2_with fail
  refine (HO.go _).mono ?_
  rintro e w1 ⟨rfl, hb1⟩
  have A : El w1 W.heap.size ah al := El.below ⟨by simp [go_sem], by simp [go_sem]⟩ hb1
  have B : El w1 (W.heap.size + 1) bh bl := El.below ⟨by simp [go_sem], by simp [go_sem]⟩ hb1
  have R : Ew w1 (W.heap.size + 1 + 1) 0 0 := Ew.below ⟨⟨by simp [go_sem], by simp [go_sem]⟩, by simp [go_sem], by simp [go_sem]⟩ hb1
  have D : Below W.heap.size W w1 := ((((Below.refl _ _).alloc (Nat.le_refl _) _).alloc (by simp) _).alloc (by simp <;> omega) _).trans (hb1.mono (by simp <;> omega))
  have b1 := B.hi
  have b0 := B.lo
  clear hb1
  go_wp2_with fail
  refine (HO2.go _).mono ?_
  rintro e w2 ⟨rfl, hb2⟩
  have A := A.below hb2
  have B := B.below hb2
  have R := R.below hb2
  have D := D.trans (hb2.mono D.size)
  obtain ⟨a1, a0⟩ := A
  obtain ⟨b1, b0⟩ := B
  obtain ⟨⟨r1, r0⟩, f1, f0⟩ := R
  clear hb2
  go_wp2_with fail
  go_region
  all_goals
    go_wp2
    refine bodyPost_ret (v := .agg #[.int .u64 0, .int .u64 (bits .or .u64 ((al : Int) * 4) (bl : Int))]) (by simp [results, Try.results32, go_sem, *]) rfl ⟨by rw [fr.out], ?_⟩
    exact ((D.setCell (by simp <;> omega) _).setCell (by simp <;> omega) _).drew
set_option maxHeartbeats 400000 in
theorem join3 (ah al bh bl r : Nat) (HO : Ret 27 #[.int .i64 2, .agg #[.int .u64 (ah : Int), .int .u64 (al : Int)]] (.bool true)) (HO2 : Ret 27 #[.int .i64 2, .agg #[.int .u64 (bh : Int), .int .u64 (bl : Int)]] (.bool true)) (h4 : al < 16) (fr : Hid (bits .or .u64 ((al : Int) * 16) (bl : Int) = (r : Int))) :
    Ret 32 #[.int .i64 3, .agg #[.int .u64 (ah : Int), .int .u64 (al : Int)], .agg #[.int .u64 (bh : Int), .int .u64 (bl : Int)]] (.agg #[.int .u64 0, .int .u64 (r : Int)]) := by
  intro W
  go_enter Try.func32, Try.ntmps32
  go_wp2_with fail
  refine (HO.go _).mono ?_
  rintro e w1 ⟨rfl, hb1⟩
  have A : El w1 W.heap.size ah al := El.below ⟨by simp [go_sem], by simp [go_sem]⟩ hb1
  have B : El w1 (W.heap.size + 1) bh bl := El.below ⟨by simp [go_sem], by simp [go_sem]⟩ hb1
  have R : Ew w1 (W.heap.size + 1 + 1) 0 0 := Ew.below ⟨⟨by simp [go_sem], by simp [go_sem]⟩, by simp [go_sem], by simp [go_sem]⟩ hb1
  have D : Below W.heap.size W w1 := ((((Below.refl _ _).alloc (Nat.le_refl _) _).alloc (by simp) _).alloc (by simp <;> omega) _).trans (hb1.mono (by simp <;> omega))
  have b1 := B.hi
  have b0 := B.lo
  clear hb1
  go_wp2_with fail
  refine (HO2.go _).mono ?_
  rintro e w2 ⟨rfl, hb2⟩
  have A := A.below hb2
  have B := B.below hb2
  have R := R.below hb2
  have D := D.trans (hb2.mono D.size)
  obtain ⟨a1, a0⟩ := A
  obtain ⟨b1, b0⟩ := B
  obtain ⟨⟨r1, r0⟩, f1, f0⟩ := R
  clear hb2
  go_wp2_with fail
  go_region
  all_goals
    go_wp2
    refine bodyPost_ret (v := .agg #[.int .u64 0, .int .u64 (bits .or .u64 ((al : Int) * 16) (bl : Int))]) (by simp [results, Try.results32, go_sem, *]) rfl ⟨by rw [fr.out], ?_⟩
    exact ((D.setCell (by simp <;> omega) _).setCell (by simp <;> omega) _).drew
set_option maxHeartbeats 400000 in
theorem join4 (ah al bh bl r : Nat) (HO : Ret 27 #[.int .i64 3, .agg #[.int .u64 (ah : Int), .int .u64 (al : Int)]] (.bool true)) (HO2 : Ret 27 #[.int .i64 3, .agg #[.int .u64 (bh : Int), .int .u64 (bl : Int)]] (.bool true)) (h4 : al < 256) (fr : Hid (bits .or .u64 ((al : Int) * 256) (bl : Int) = (r : Int))) :
    Ret 32 #[.int .i64 4, .agg #[.int .u64 (ah : Int), .int .u64 (al : Int)], .agg #[.int .u64 (bh : Int), .int .u64 (bl : Int)]] (.agg #[.int .u64 0, .int .u64 (r : Int)]) := by
  intro W
  go_enter Try.func32, Try.ntmps32
  go_wp2_with fail
  refine (HO.go _).mono ?_
  rintro e w1 ⟨rfl, hb1⟩
  have A : El w1 W.heap.size ah al := El.below ⟨by simp [go_sem], by simp [go_sem]⟩ hb1
  have B : El w1 (W.heap.size + 1) bh bl := El.below ⟨by simp [go_sem], by simp [go_sem]⟩ hb1
  have R : Ew w1 (W.heap.size + 1 + 1) 0 0 := Ew.below ⟨⟨by simp [go_sem], by simp [go_sem]⟩, by simp [go_sem], by simp [go_sem]⟩ hb1
  have D : Below W.heap.size W w1 := ((((Below.refl _ _).alloc (Nat.le_refl _) _).alloc (by simp) _).alloc (by simp <;> omega) _).trans (hb1.mono (by simp <;> omega))
  have b1 := B.hi
  have b0 := B.lo
  clear hb1
  go_wp2_with fail
  refine (HO2.go _).mono ?_
  rintro e w2 ⟨rfl, hb2⟩
  have A := A.below hb2
  have B := B.below hb2
  have R := R.below hb2
  have D := D.trans (hb2.mono D.size)
  obtain ⟨a1, a0⟩ := A
  obtain ⟨b1, b0⟩ := B
  obtain ⟨⟨r1, r0⟩, f1, f0⟩ := R
  clear hb2
  go_wp2_with fail
  go_region
  all_goals
    go_wp2
    refine bodyPost_ret (v := .agg #[.int .u64 0, .int .u64 (bits .or .u64 ((al : Int) * 256) (bl : Int))]) (by simp [results, Try.results32, go_sem, *]) rfl ⟨by rw [fr.out], ?_⟩
    exact ((D.setCell (by simp <;> omega) _).setCell (by simp <;> omega) _).drew
set_option maxHeartbeats 400000 in
theorem join5 (ah al bh bl r : Nat) (HO : Ret 27 #[.int .i64 4, .agg #[.int .u64 (ah : Int), .int .u64 (al : Int)]] (.bool true)) (HO2 : Ret 27 #[.int .i64 4, .agg #[.int .u64 (bh : Int), .int .u64 (bl : Int)]] (.bool true)) (h4 : al < 65536) (fr : Hid (bits .or .u64 ((al : Int) * 65536) (bl : Int) = (r : Int))) :
    Ret 32 #[.int .i64 5, .agg #[.int .u64 (ah : Int), .int .u64 (al : Int)], .agg #[.int .u64 (bh : Int), .int .u64 (bl : Int)]] (.agg #[.int .u64 0, .int .u64 (r : Int)]) := by
  intro W
  go_enter Try.func32, Try.ntmps32
  go_wp2_with fail
  refine (HO.go _).mono ?_
  rintro e w1 ⟨rfl, hb1⟩
  have A : El w1 W.heap.size ah al := El.below ⟨by simp [go_sem], by simp [go_sem]⟩ hb1
  have B : El w1 (W.heap.size + 1) bh bl := El.below ⟨by simp [go_sem], by simp [go_sem]⟩ hb1
  have R : Ew w1 (W.heap.size + 1 + 1) 0 0 := Ew.below ⟨⟨by simp [go_sem], by simp [go_sem]⟩, by simp [go_sem], by simp [go_sem]⟩ hb1
  have D : Below W.heap.size W w1 := ((((Below.refl _ _).alloc (Nat.le_refl _) _).alloc (by simp) _).alloc (by simp <;> omega) _).trans (hb1.mono (by simp <;> omega))
  have b1 := B.hi
  have b0 := B.lo
  clear hb1
  go_wp2_with fail
  refine (HO2.go _).mono ?_
  rintro e w2 ⟨rfl, hb2⟩
  have A := A.below hb2
  have B := B.below hb2
  have R := R.below hb2
  have D := D.trans (hb2.mono D.size)
  obtain ⟨a1, a0⟩ := A
  obtain ⟨b1, b0⟩ := B
  obtain ⟨⟨r1, r0⟩, f1, f0⟩ := R
  clear hb2
  go_wp2_with fail
  go_region
  all_goals
    go_wp2
    refine bodyPost_ret (v := .agg #[.int .u64 0, .int .u64 (bits .or .u64 ((al : Int) * 65536) (bl : Int))]) (by simp [results, Try.results32, go_sem, *]) rfl ⟨by rw [fr.out], ?_⟩
    exact ((D.setCell (by simp <;> omega) _).setCell (by simp <;> omega) _).drew
set_option maxHeartbeats 400000 in
theorem join6 (ah al bh bl r : Nat) (HO : Ret 27 #[.int .i64 5, .agg #[.int .u64 (ah : Int), .int .u64 (al : Int)]] (.bool true)) (HO2 : Ret 27 #[.int .i64 5, .agg #[.int .u64 (bh : Int), .int .u64 (bl : Int)]] (.bool true)) (h4 : al < 4294967296) (fr : Hid (bits .or .u64 ((al : Int) * 4294967296) (bl : Int) = (r : Int))) :
    Ret 32 #[.int .i64 6, .agg #[.int .u64 (ah : Int), .int .u64 (al : Int)], .agg #[.int .u64 (bh : Int), .int .u64 (bl : Int)]] (.agg #[.int .u64 0, .int .u64 (r : Int)]) := by
  intro W
  go_enter Try.func32, Try.ntmps32
  go_wp2_with fail
  refine (HO.go _).mono ?_
  rintro e w1 ⟨rfl, hb1⟩
  have A : El w1 W.heap.size ah al := El.below ⟨by simp [go_sem], by simp [go_sem]⟩ hb1
  have B : El w1 (W.heap.size + 1) bh bl := El.below ⟨by simp [go_sem], by simp [go_sem]⟩ hb1
  have R : Ew w1 (W.heap.size + 1 + 1) 0 0 := Ew.below ⟨⟨by simp [go_sem], by simp [go_sem]⟩, by simp [go_sem], by simp [go_sem]⟩ hb1
  have D : Below W.heap.size W w1 := ((((Below.refl _ _).alloc (Nat.le_refl _) _).alloc (by simp) _).alloc (by simp <;> omega) _).trans (hb1.mono (by simp <;> omega))
  have b1 := B.hi
  have b0 := B.lo
  clear hb1
  go_wp2_with fail
  refine (HO2.go _).mono ?_
  rintro e w2 ⟨rfl, hb2⟩
  have A := A.below hb2
  have B := B.below hb2
  have R := R.below hb2
  have D := D.trans (hb2.mono D.size)
  obtain ⟨a1, a0⟩ := A
  obtain ⟨b1, b0⟩ := B
  obtain ⟨⟨r1, r0⟩, f1, f0⟩ := R
  clear hb2
  go_wp2_with fail
  go_region
  all_goals
    go_wp2
    refine bodyPost_ret (v := .agg #[.int .u64 0, .int .u64 (bits .or .u64 ((al : Int) * 4294967296) (bl : Int))]) (by simp [results, Try.results32, go_sem, *]) rfl ⟨by rw [fr.out], ?_⟩
    exact ((D.setCell (by simp <;> omega) _).setCell (by simp <;> omega) _).drew
set_option maxHeartbeats 400000 in
theorem join7 (ah al bh bl : Nat) (HO : Ret 27 #[.int .i64 6, .agg #[.int .u64 (ah : Int), .int .u64 (al : Int)]] (.bool true)) (HO2 : Ret 27 #[.int .i64 6, .agg #[.int .u64 (bh : Int), .int .u64 (bl : Int)]] (.bool true)) :
    Ret 32 #[.int .i64 7, .agg #[.int .u64 (ah : Int), .int .u64 (al : Int)], .agg #[.int .u64 (bh : Int), .int .u64 (bl : Int)]] (.agg #[.int .u64 (al : Int), .int .u64 (bl : Int)]) := by
  intro W
  go_enter Try.func32, Try.ntmps32
  go_wp2_with fail
  refine (HO.go _).mono ?_
  rintro e w1 ⟨rfl, hb1⟩
  have A : El w1 W.heap.size ah al := El.below ⟨by simp [go_sem], by simp [go_sem]⟩ hb1
  have B : El w1 (W.heap.size + 1) bh bl := El.below ⟨by simp [go_sem], by simp [go_sem]⟩ hb1
  have R : Ew w1 (W.heap.size + 1 + 1) 0 0 := Ew.below ⟨⟨by simp [go_sem], by simp [go_sem]⟩, by simp [go_sem], by simp [go_sem]⟩ hb1
  have D : Below W.heap.size W w1 := ((((Below.refl _ _).alloc (Nat.le_refl _) _).alloc (by simp) _).alloc (by simp <;> omega) _).trans (hb1.mono (by simp <;> omega))
  have b1 := B.hi
  have b0 := B.lo
  clear hb1
  go_wp2_with fail
  refine (HO2.go _).mono ?_
  rintro e w2 ⟨rfl, hb2⟩
  have A := A.below hb2
  have B := B.below hb2
  have R := R.below hb2
  have D := D.trans (hb2.mono D.size)
  obtain ⟨a1, a0⟩ := A
  obtain ⟨b1, b0⟩ := B
  obtain ⟨⟨r1, r0⟩, f1, f0⟩ := R
  clear hb2
  go_wp2
  refine bodyPost_ret (v := .agg #[.int .u64 (al : Int), .int .u64 (bl : Int)]) (by simp [results, Try.results32, go_sem, *]) rfl ⟨rfl, ?_⟩
  exact (D.setCell (by simp <;> omega) _).setCell (by simp <;> omega) _
end Go.Proofs.Ytccaobfhldfamaa
