/- Contracts of steepleref02.Mul and X over the seat's translation. -/
import Derived.Test.YtdjndcgocmmmcaaRfE
import Derived.Test.YtdjndcgocmmmcaaTwMx
namespace Go.Proofs.Ytdjndcgocmmmcaa
open Go.RowKit
open Tw (pm)

/-- Two elements and a room, as Mul lays them. -/
structure Mst (W w : World) (ah al bh bl : Nat) : Prop where
  a : Ew w W.heap.size ah al
  b : Ew w (W.heap.size + 1) bh bl
  r : Ew w (W.heap.size + 1 + 1) 0 0
  d : Below W.heap.size W w
theorem Mst.below {W w w' : World} {ah al bh bl : Nat} (h : Mst W w ah al bh bl) (hb : Below w.heap.size w w') : Mst W w' ah al bh bl :=
  ⟨h.a.below hb, h.b.below hb, h.r.below hb, h.d.trans (hb.mono h.d.size)⟩
theorem mst_new (W : World) (ah al bh bl : Nat) : Mst W (((W.alloc (Obj.cells #[.int .u64 (ah : Int), .int .u64 (al : Int)] 25)).alloc (Obj.cells #[.int .u64 (bh : Int), .int .u64 (bl : Int)] 25)).alloc (Obj.cells #[.int .u64 0, .int .u64 0] 25)) ah al bh bl :=
  ⟨⟨⟨by simp [go_sem], by simp [go_sem]⟩, by simp [go_sem], by simp [go_sem]⟩, ⟨⟨by simp [go_sem], by simp [go_sem]⟩, by simp [go_sem], by simp [go_sem]⟩, ⟨⟨by simp [go_sem], by simp [go_sem]⟩, by simp [go_sem], by simp [go_sem]⟩, by go_grown⟩
set_option maxHeartbeats 1000000 in
theorem rmul_no1 (l : Int) (ah al bh bl : Nat) (HO : Ret 24 #[.int .i64 l, .agg #[.int .u64 (ah : Int), .int .u64 (al : Int)]] (.bool false)) :
    Ret 15 #[.int .i64 l, .agg #[.int .u64 (ah : Int), .int .u64 (al : Int)], .agg #[.int .u64 (bh : Int), .int .u64 (bl : Int)]] (.agg #[.int .u64 0, .int .u64 0]) := by
  intro W
  go_enter Try.func15, Try.ntmps15
  go_wp2_with fail
  refine (HO.go _).mono ?_
  rintro e w1 ⟨rfl, hb1⟩
  have B := (mst_new W ah al bh bl).below hb1
  clear hb1
  obtain ⟨⟨r1, r0⟩, f1, f0⟩ := B.r
  have D : Hid (Below W.heap.size W w1) := B.d
  clear B
  go_wp2
  refine bodyPost_ret (v := .agg #[.int .u64 0, .int .u64 0]) (by simp [results, Try.results15, go_sem, *]) rfl ⟨rfl, ?_⟩
  exact below2 D.out (by omega) _ _
set_option maxHeartbeats 1000000 in
theorem rmul_no2 (l : Int) (ah al bh bl : Nat) (HO : Ret 24 #[.int .i64 l, .agg #[.int .u64 (ah : Int), .int .u64 (al : Int)]] (.bool true)) (HO2 : Ret 24 #[.int .i64 l, .agg #[.int .u64 (bh : Int), .int .u64 (bl : Int)]] (.bool false)) :
    Ret 15 #[.int .i64 l, .agg #[.int .u64 (ah : Int), .int .u64 (al : Int)], .agg #[.int .u64 (bh : Int), .int .u64 (bl : Int)]] (.agg #[.int .u64 0, .int .u64 0]) := by
  intro W
  go_enter Try.func15, Try.ntmps15
  go_wp2_with fail
  refine (HO.go _).mono ?_
  rintro e w1 ⟨rfl, hb1⟩
  have B := (mst_new W ah al bh bl).below hb1
  clear hb1
  have HB : Hid (Mst W w1 ah al bh bl) := B
  have b1 := B.b.hi
  have b0 := B.b.lo
  clear B
  go_wp2_with fail
  refine (HO2.go _).mono ?_
  rintro e w2 ⟨rfl, hb2⟩
  have B := HB.out.below hb2
  clear hb2 b1 b0 HB
  obtain ⟨⟨r1, r0⟩, f1, f0⟩ := B.r
  have D : Hid (Below W.heap.size W w2) := B.d
  clear B
  go_wp2
  refine bodyPost_ret (v := .agg #[.int .u64 0, .int .u64 0]) (by simp [results, Try.results15, go_sem, *]) rfl ⟨rfl, ?_⟩
  exact below2 D.out (by omega) _ _
set_option maxHeartbeats 1000000 in
theorem rmul_ok (l : Int) (ah al bh bl rh rl : Nat) (HO : Ret 24 #[.int .i64 l, .agg #[.int .u64 (ah : Int), .int .u64 (al : Int)]] (.bool true)) (HO2 : Ret 24 #[.int .i64 l, .agg #[.int .u64 (bh : Int), .int .u64 (bl : Int)]] (.bool true))
    (HP : Ret 41 #[.agg #[.int .u64 (ah : Int), .int .u64 (al : Int)], .agg #[.int .u64 (bh : Int), .int .u64 (bl : Int)]] (.agg #[.int .u64 (rh : Int), .int .u64 (rl : Int)])) :
    Ret 15 #[.int .i64 l, .agg #[.int .u64 (ah : Int), .int .u64 (al : Int)], .agg #[.int .u64 (bh : Int), .int .u64 (bl : Int)]] (.agg #[.int .u64 (rh : Int), .int .u64 (rl : Int)]) := by
  intro W
  go_enter Try.func15, Try.ntmps15
  go_wp2_with fail
  refine (HO.go _).mono ?_
  rintro e w1 ⟨rfl, hb1⟩
  have B := (mst_new W ah al bh bl).below hb1
  clear hb1
  have HB : Hid (Mst W w1 ah al bh bl) := B
  have b1 := B.b.hi
  have b0 := B.b.lo
  clear B
  go_wp2_with fail
  refine (HO2.go _).mono ?_
  rintro e w2 ⟨rfl, hb2⟩
  have B := HB.out.below hb2
  clear hb2 b1 b0 HB
  have HB : Hid (Mst W w2 ah al bh bl) := B
  have b1 := B.b.hi
  have b0 := B.b.lo
  have a1 := B.a.hi
  have a0 := B.a.lo
  clear B
  go_wp2_with fail
  refine (HP.go _).mono ?_
  rintro e w3 ⟨rfl, hb3⟩
  have B := HB.out.below hb3
  clear hb3 b1 b0 a1 a0 HB
  obtain ⟨⟨r1, r0⟩, f1, f0⟩ := B.r
  have D : Hid (Below W.heap.size W w3) := B.d
  clear B
  go_wp2
  refine bodyPost_ret (v := .agg #[.int .u64 (rh : Int), .int .u64 (rl : Int)]) (by simp [results, Try.results15, go_sem, *]) rfl ⟨rfl, ?_⟩
  exact below2 D.out (by omega) _ _
/-- The document's Mul, whatever the level and the elements. -/
theorem rmul_any (l : Int) (a b : Nat × Nat) (h1 : a.1 < 2 ^ 64) (h2 : a.2 < 2 ^ 64) (h3 : b.1 < 2 ^ 64) (h4 : b.2 < 2 ^ 64) :
    Ret 15 #[.int .i64 l, .agg #[.int .u64 (a.1 : Int), .int .u64 (a.2 : Int)], .agg #[.int .u64 (b.1 : Int), .int .u64 (b.2 : Int)]] (.agg #[.int .u64 ((mulv l a b).1 : Int), .int .u64 ((mulv l a b).2 : Int)]) := by
  have HA := rof_any l a.1 a.2 h1 h2
  have HB := rof_any l b.1 b.2 h3 h4
  cases ha : ofB l a.1 a.2
  · rw [ha] at HA; rw [mulv_no1 ha]; exact rmul_no1 l _ _ _ _ HA
  · rw [ha] at HA
    cases hb : ofB l b.1 b.2
    · rw [hb] at HB; rw [mulv_no2 hb]; exact rmul_no2 l _ _ _ _ HA HB
    · rw [hb] at HB; rw [mulv_of ha hb]; exact rmul_ok l _ _ _ _ _ _ HA HB (rproduct_any a.1 a.2 b.1 b.2 h1 h2 h3 h4)
set_option maxHeartbeats 1000000 in
theorem rx_any (l : Int) : Ret 8 #[.int .i64 l] (.agg #[.int .u64 ((xv l).1 : Int), .int .u64 ((xv l).2 : Int)]) := by
  cases hl : levelB l
  · have e : xv l = (0, 0) := by unfold xv; rw [if_neg (by rw [hl]; decide)]
    rw [e]
    intro W
    by_cases h0 : 0 ≤ l
    · have h7 : ¬ l ≤ 7 := by intro h7; simp [levelB, h0, h7] at hl
      clear hl e
      go_enter Try.func8, Try.ntmps8
      go_wp2
      refine bodyPost_ret (v := .agg #[.int .u64 0, .int .u64 0]) (by simp [results, Try.results8, go_sem]) rfl ⟨rfl, ?_⟩
      go_grown
    · clear hl e
      go_enter Try.func8, Try.ntmps8
      go_wp2
      refine bodyPost_ret (v := .agg #[.int .u64 0, .int .u64 0]) (by simp [results, Try.results8, go_sem]) rfl ⟨rfl, ?_⟩
      go_grown
  · rcases level_cases l hl with rfl | rfl | rfl | rfl | rfl | rfl | rfl | rfl
    all_goals
      clear hl
      intro W
      go_enter Try.func8, Try.ntmps8
      go_wp2
      refine bodyPost_ret (by simp [results, Try.results8, go_sem]; decide) rfl ⟨rfl, ?_⟩
      go_grown
end Go.Proofs.Ytdjndcgocmmmcaa
