/- Contracts of steepleref02.Pow and Inv over the seat's translation: the walks. -/
import Derived.Test.YtnecjkdlmecgdaaPWvP
namespace Go.Proofs.Ytnecjkdlmecgdaa
open Go.RowKit

/-- An element, a room, and one that changes. -/
structure Qst (W w : World) (p ah al oh ol : Nat) : Prop where
  a : Ew w W.heap.size ah al
  r : Ew w (W.heap.size + 1) 0 0
  o : Ew w p oh ol
  d : Below W.heap.size W w
theorem Qst.below {W w w' : World} {p ah al oh ol : Nat} (h : Qst W w p ah al oh ol) (hb : Below w.heap.size w w') : Qst W w' p ah al oh ol :=
  ⟨h.a.below hb, h.r.below hb, h.o.below hb, h.d.trans (hb.mono h.d.size)⟩
theorem Qst.put {W w : World} {p ah al oh ol : Nat} (h : Qst W w p ah al oh ol) (hp : W.heap.size + 1 < p) (u v : Nat) : Qst W ((w.setCell ⟨p, 0, none⟩ (.int .u64 (u : Int))).setCell ⟨p, 1, none⟩ (.int .u64 (v : Int))) p ah al u v :=
  ⟨h.a.other (by omega) _ _, h.r.other (by omega) _ _, h.o.set _ _, below2 h.d (by omega) _ _⟩
set_option maxHeartbeats 1000000 in
theorem rinv_no (l : Int) (ah al : Nat) (HO : Ret 16 #[.int .i64 l, .agg #[.int .u64 (ah : Int), .int .u64 (al : Int)]] (.bool false)) :
    Ret 53 #[.int .i64 l, .agg #[.int .u64 (ah : Int), .int .u64 (al : Int)]] (.agg #[.int .u64 0, .int .u64 0]) := by
  intro W
  go_enter Try.func53, Try.ntmps53
  go_wp2_with fail
  refine (HO.go _).mono ?_
  rintro e w1 ⟨rfl, hb1⟩
  have R : Ew w1 (W.heap.size + 1) 0 0 := Ew.below ⟨⟨by simp [go_sem], by simp [go_sem]⟩, by simp [go_sem], by simp [go_sem]⟩ hb1
  have D : Below W.heap.size W w1 := (((Below.refl _ _).alloc (Nat.le_refl _) _).alloc (by simp) _).trans (hb1.mono (by simp <;> omega))
  obtain ⟨⟨r1, r0⟩, f1, f0⟩ := R
  clear hb1
  go_wp2
  refine bodyPost_ret (v := .agg #[.int .u64 0, .int .u64 0]) (by simp [results, Try.results53, go_sem, *]) rfl ⟨rfl, ?_⟩
  exact below2 D (by omega) _ _
set_option maxHeartbeats 1000000 in
theorem rinv_zero (ah al : Nat) (HO : Ret 16 #[.int .i64 0, .agg #[.int .u64 (ah : Int), .int .u64 (al : Int)]] (.bool true)) :
    Ret 53 #[.int .i64 0, .agg #[.int .u64 (ah : Int), .int .u64 (al : Int)]] (.agg #[.int .u64 (ah : Int), .int .u64 (al : Int)]) := by
  intro W
  go_enter Try.func53, Try.ntmps53
  go_wp2_with fail
  refine (HO.go _).mono ?_
  rintro e w1 ⟨rfl, hb1⟩
  have A : Ew w1 W.heap.size ah al := Ew.below ⟨⟨by simp [go_sem], by simp [go_sem]⟩, by simp [go_sem], by simp [go_sem]⟩ hb1
  have R : Ew w1 (W.heap.size + 1) 0 0 := Ew.below ⟨⟨by simp [go_sem], by simp [go_sem]⟩, by simp [go_sem], by simp [go_sem]⟩ hb1
  have D : Below W.heap.size W w1 := (((Below.refl _ _).alloc (Nat.le_refl _) _).alloc (by simp) _).trans (hb1.mono (by simp <;> omega))
  have hlt := R.toEl.lt
  have hlt2 := A.toEl.lt
  obtain ⟨⟨r1, r0⟩, f1, f0⟩ := R
  obtain ⟨⟨a1, a0⟩, _, _⟩ := A
  have D2 : Hid (Below W.heap.size W w1) := D
  clear hb1 D
  go_wp2
  refine bodyPost_ret (v := .agg #[.int .u64 (ah : Int), .int .u64 (al : Int)]) (by simp [results, Try.results53, go_sem, *]) rfl ⟨rfl, ?_⟩
  have D3 := below2 (p := W.heap.size + 1) D2.out (by omega) (.int .u64 (ah : Int)) (.int .u64 (al : Int))
  exact D3.alloc D3.size _
/-- What lies in memory while the inverse is reckoned. -/
structure Ist (W w : World) (q k : Nat) (K : Int) (oh ol sh sl : Nat) : Prop where
  r : Ew w (W.heap.size + 1) 0 0
  c : w.cell? ⟨q, k, none⟩ = some (.int .i64 K)
  o : Ew w (q + 1) oh ol
  s : Ew w (q + 1 + 1) sh sl
  d : Below W.heap.size W w
theorem Ist.below {W w w' : World} {q k oh ol sh sl : Nat} {K : Int} (h : Ist W w q k K oh ol sh sl) (hb : Below w.heap.size w w') : Ist W w' q k K oh ol sh sl :=
  ⟨h.r.below hb, keepc hb h.c, h.o.below hb, h.s.below hb, h.d.trans (hb.mono h.d.size)⟩
theorem cell_set2 {w : World} {q k p : Nat} {v x y : Value} (h : w.cell? ⟨q, k, none⟩ = some v) (hn : p ≠ q) : ((w.setCell ⟨p, 0, none⟩ x).setCell ⟨p, 1, none⟩ y).cell? ⟨q, k, none⟩ = some v := by
  simp [go_sem, h]
theorem Ist.putS {W w : World} {q k oh ol sh sl : Nat} {K : Int} (h : Ist W w q k K oh ol sh sl) (hq : W.heap.size + 1 < q) (u v : Nat) : Ist W ((w.setCell ⟨q + 1 + 1, 0, none⟩ (.int .u64 (u : Int))).setCell ⟨q + 1 + 1, 1, none⟩ (.int .u64 (v : Int))) q k K oh ol u v :=
  ⟨h.r.other (by omega) _ _, cell_set2 h.c (by omega), h.o.other (by omega) _ _, h.s.set _ _, below2 h.d (by omega) _ _⟩
theorem Ist.putO {W w : World} {q k oh ol sh sl : Nat} {K : Int} (h : Ist W w q k K oh ol sh sl) (hq : W.heap.size + 1 < q) (u v : Nat) : Ist W ((w.setCell ⟨q + 1, 0, none⟩ (.int .u64 (u : Int))).setCell ⟨q + 1, 1, none⟩ (.int .u64 (v : Int))) q k K u v sh sl :=
  ⟨h.r.other (by omega) _ _, cell_set2 h.c (by omega), h.o.set _ _, h.s.other (by omega) _ _, below2 h.d (by omega) _ _⟩
set_option maxHeartbeats 4000000 in
set_option maxRecDepth 100000 in
theorem rinv1 (ah al : Nat) (ov sv : Nat → Nat × Nat)
    (HO : Ret 16 #[.int .i64 1, .agg #[.int .u64 (ah : Int), .int .u64 (al : Int)]] (.bool true)) (O0 : Hid (ov 1 = (0, 1))) (S0 : Hid (sv 1 = (ah, al)))
    (HS : Hid (∀ i : Nat, 1 ≤ i → Ret 52 #[.agg #[.int .u64 ((sv i).1 : Int), .int .u64 ((sv i).2 : Int)], .agg #[.int .u64 ((sv i).1 : Int), .int .u64 ((sv i).2 : Int)]] (.agg #[.int .u64 ((sv (i + 1)).1 : Int), .int .u64 ((sv (i + 1)).2 : Int)])))
    (HP : Hid (∀ i : Nat, 1 ≤ i → Ret 52 #[.agg #[.int .u64 ((ov i).1 : Int), .int .u64 ((ov i).2 : Int)], .agg #[.int .u64 ((sv (i + 1)).1 : Int), .int .u64 ((sv (i + 1)).2 : Int)]] (.agg #[.int .u64 ((ov (i + 1)).1 : Int), .int .u64 ((ov (i + 1)).2 : Int)]))) :
    Ret 53 #[.int .i64 1, .agg #[.int .u64 (ah : Int), .int .u64 (al : Int)]] (.agg #[.int .u64 ((ov 2).1 : Int), .int .u64 ((ov 2).2 : Int)]) := by
  intro W
  go_enter Try.func53, Try.ntmps53
  go_wp2_with fail
  refine (HO.go _).mono ?_
  rintro e w1 ⟨rfl, hb1⟩
  have A : Ew w1 W.heap.size ah al := Ew.below ⟨⟨by simp [go_sem], by simp [go_sem]⟩, by simp [go_sem], by simp [go_sem]⟩ hb1
  have R : Hid (Ew w1 (W.heap.size + 1) 0 0) := Ew.below ⟨⟨by simp [go_sem], by simp [go_sem]⟩, by simp [go_sem], by simp [go_sem]⟩ hb1
  have D : Hid (Below W.heap.size W w1) := (((Below.refl _ _).alloc (Nat.le_refl _) _).alloc (by simp) _).trans (hb1.mono (by simp <;> omega))
  have hp : W.heap.size + 1 < w1.heap.size := R.out.toEl.lt
  have hp2 : W.heap.size < w1.heap.size := by omega
  have a1 := A.hi
  have a0 := A.lo
  clear hb1 A
  go_wp2_with fail
  go_loopw [8] (fun u wr => ∃ i : Nat, 1 ≤ i ∧ i ≤ 2 ∧ u = .int .i64 i ∧ Ist W wr w1.heap.size 1 2 (ov i).1 (ov i).2 (sv i).1 (sv i).2) (fun u _ => 2 - (intOf u).toNat)
  case atStart =>
    refine ⟨1, Nat.le_refl _, by decide, rfl, ((R.out.alloc _).alloc _).alloc _, by simp [go_sem], ?_, ?_, (((D.out.alloc D.out.size _).alloc (by simp <;> omega) _).alloc (by simp <;> omega) _)⟩
    · rw [O0.out]; exact ⟨⟨by simp [go_sem], by simp [go_sem]⟩, by simp [go_sem], by simp [go_sem]⟩
    · rw [S0.out]; exact ⟨⟨by simp [go_sem], by simp [go_sem]⟩, by simp [go_sem], by simp [go_sem]⟩
  case round =>
    obtain ⟨i, hi1, hi, rfl, hQ⟩ := hrel
    clear R D a1 a0
    by_cases hi2 : i < 2
    · have HQ : Hid (Ist W wr w1.heap.size 1 2 (ov i).1 (ov i).2 (sv i).1 (sv i).2) := hQ
      have c := hQ.c
      have s1 := hQ.s.hi
      have s0 := hQ.s.lo
      clear hQ
      go_wp2_with fail
      refine ((HS.out i hi1).go _).mono ?_
      rintro e w4 ⟨rfl, hb4⟩
      have HQ4 : Hid (Ist W w4 w1.heap.size 1 2 (ov i).1 (ov i).2 (sv i).1 (sv i).2) := HQ.out.below hb4
      clear hb4 HQ c s1 s0
      obtain ⟨⟨s1, s0⟩, t1, t0⟩ := HQ4.out.s
      have HQ5 : Hid (Ist W ((w4.setCell ⟨w1.heap.size + 1 + 1, 0, none⟩ (.int .u64 ((sv (i + 1)).1 : Int))).setCell ⟨w1.heap.size + 1 + 1, 1, none⟩ (.int .u64 ((sv (i + 1)).2 : Int))) w1.heap.size 1 2 (ov i).1 (ov i).2 (sv (i + 1)).1 (sv (i + 1)).2) := HQ4.out.putS hp _ _
      obtain ⟨⟨o1, o0⟩, _, _⟩ := HQ4.out.o
      clear HQ4
      go_wp2_with fail
      refine ((HP.out i hi1).go _).mono ?_
      rintro e w6 ⟨rfl, hb6⟩
      have HQ6 : Hid (Ist W w6 w1.heap.size 1 2 (ov i).1 (ov i).2 (sv (i + 1)).1 (sv (i + 1)).2) := HQ5.out.below hb6
      clear hb6 HQ5 s1 s0 t1 t0 o1 o0
      obtain ⟨⟨o1, o0⟩, t1, t0⟩ := HQ6.out.o
      go_wp2
      exact ⟨⟨i + 1, by omega, hi2, by simp, HQ6.out.putO hp _ _⟩, by simp [intOf]; omega⟩
    · obtain rfl : i = 2 := by omega
      have HD : Hid (Below W.heap.size W wr) := hQ.d
      have c := hQ.c
      obtain ⟨⟨o1, o0⟩, _, _⟩ := hQ.o
      obtain ⟨⟨r1, r0⟩, t1, t0⟩ := hQ.r
      clear hQ
      go_wp2
      refine bodyPost_ret (v := .agg #[.int .u64 ((ov 2).1 : Int), .int .u64 ((ov 2).2 : Int)]) (by simp [results, Try.results53, go_sem, *]) rfl ⟨rfl, ?_⟩
      exact below2 (p := W.heap.size + 1) HD.out (by omega) _ _
set_option maxHeartbeats 4000000 in
set_option maxRecDepth 100000 in
theorem rinv2 (ah al : Nat) (ov sv : Nat → Nat × Nat)
    (HO : Ret 16 #[.int .i64 2, .agg #[.int .u64 (ah : Int), .int .u64 (al : Int)]] (.bool true)) (O0 : Hid (ov 1 = (0, 1))) (S0 : Hid (sv 1 = (ah, al)))
    (HS : Hid (∀ i : Nat, 1 ≤ i → Ret 52 #[.agg #[.int .u64 ((sv i).1 : Int), .int .u64 ((sv i).2 : Int)], .agg #[.int .u64 ((sv i).1 : Int), .int .u64 ((sv i).2 : Int)]] (.agg #[.int .u64 ((sv (i + 1)).1 : Int), .int .u64 ((sv (i + 1)).2 : Int)])))
    (HP : Hid (∀ i : Nat, 1 ≤ i → Ret 52 #[.agg #[.int .u64 ((ov i).1 : Int), .int .u64 ((ov i).2 : Int)], .agg #[.int .u64 ((sv (i + 1)).1 : Int), .int .u64 ((sv (i + 1)).2 : Int)]] (.agg #[.int .u64 ((ov (i + 1)).1 : Int), .int .u64 ((ov (i + 1)).2 : Int)]))) :
    Ret 53 #[.int .i64 2, .agg #[.int .u64 (ah : Int), .int .u64 (al : Int)]] (.agg #[.int .u64 ((ov 4).1 : Int), .int .u64 ((ov 4).2 : Int)]) := by
  intro W
  go_enter Try.func53, Try.ntmps53
  go_wp2_with fail
  refine (HO.go _).mono ?_
  rintro e w1 ⟨rfl, hb1⟩
  have A : Ew w1 W.heap.size ah al := Ew.below ⟨⟨by simp [go_sem], by simp [go_sem]⟩, by simp [go_sem], by simp [go_sem]⟩ hb1
  have R : Hid (Ew w1 (W.heap.size + 1) 0 0) := Ew.below ⟨⟨by simp [go_sem], by simp [go_sem]⟩, by simp [go_sem], by simp [go_sem]⟩ hb1
  have D : Hid (Below W.heap.size W w1) := (((Below.refl _ _).alloc (Nat.le_refl _) _).alloc (by simp) _).trans (hb1.mono (by simp <;> omega))
  have hp : W.heap.size + 1 < w1.heap.size := R.out.toEl.lt
  have hp2 : W.heap.size < w1.heap.size := by omega
  have a1 := A.hi
  have a0 := A.lo
  clear hb1 A
  go_wp2_with fail
  go_loopw [8] (fun u wr => ∃ i : Nat, 1 ≤ i ∧ i ≤ 4 ∧ u = .int .i64 i ∧ Ist W wr w1.heap.size 2 4 (ov i).1 (ov i).2 (sv i).1 (sv i).2) (fun u _ => 4 - (intOf u).toNat)
  case atStart =>
    refine ⟨1, Nat.le_refl _, by decide, rfl, ((R.out.alloc _).alloc _).alloc _, by simp [go_sem], ?_, ?_, (((D.out.alloc D.out.size _).alloc (by simp <;> omega) _).alloc (by simp <;> omega) _)⟩
    · rw [O0.out]; exact ⟨⟨by simp [go_sem], by simp [go_sem]⟩, by simp [go_sem], by simp [go_sem]⟩
    · rw [S0.out]; exact ⟨⟨by simp [go_sem], by simp [go_sem]⟩, by simp [go_sem], by simp [go_sem]⟩
  case round =>
    obtain ⟨i, hi1, hi, rfl, hQ⟩ := hrel
    clear R D a1 a0
    by_cases hi2 : i < 4
    · have HQ : Hid (Ist W wr w1.heap.size 2 4 (ov i).1 (ov i).2 (sv i).1 (sv i).2) := hQ
      have c := hQ.c
      have s1 := hQ.s.hi
      have s0 := hQ.s.lo
      clear hQ
      go_wp2_with fail
      refine ((HS.out i hi1).go _).mono ?_
      rintro e w4 ⟨rfl, hb4⟩
      have HQ4 : Hid (Ist W w4 w1.heap.size 2 4 (ov i).1 (ov i).2 (sv i).1 (sv i).2) := HQ.out.below hb4
      clear hb4 HQ c s1 s0
      obtain ⟨⟨s1, s0⟩, t1, t0⟩ := HQ4.out.s
      have HQ5 : Hid (Ist W ((w4.setCell ⟨w1.heap.size + 1 + 1, 0, none⟩ (.int .u64 ((sv (i + 1)).1 : Int))).setCell ⟨w1.heap.size + 1 + 1, 1, none⟩ (.int .u64 ((sv (i + 1)).2 : Int))) w1.heap.size 2 4 (ov i).1 (ov i).2 (sv (i + 1)).1 (sv (i + 1)).2) := HQ4.out.putS hp _ _
      obtain ⟨⟨o1, o0⟩, _, _⟩ := HQ4.out.o
      clear HQ4
      go_wp2_with fail
      refine ((HP.out i hi1).go _).mono ?_
      rintro e w6 ⟨rfl, hb6⟩
      have HQ6 : Hid (Ist W w6 w1.heap.size 2 4 (ov i).1 (ov i).2 (sv (i + 1)).1 (sv (i + 1)).2) := HQ5.out.below hb6
      clear hb6 HQ5 s1 s0 t1 t0 o1 o0
      obtain ⟨⟨o1, o0⟩, t1, t0⟩ := HQ6.out.o
      go_wp2
      exact ⟨⟨i + 1, by omega, hi2, by simp, HQ6.out.putO hp _ _⟩, by simp [intOf]; omega⟩
    · obtain rfl : i = 4 := by omega
      have HD : Hid (Below W.heap.size W wr) := hQ.d
      have c := hQ.c
      obtain ⟨⟨o1, o0⟩, _, _⟩ := hQ.o
      obtain ⟨⟨r1, r0⟩, t1, t0⟩ := hQ.r
      clear hQ
      go_wp2
      refine bodyPost_ret (v := .agg #[.int .u64 ((ov 4).1 : Int), .int .u64 ((ov 4).2 : Int)]) (by simp [results, Try.results53, go_sem, *]) rfl ⟨rfl, ?_⟩
      exact below2 (p := W.heap.size + 1) HD.out (by omega) _ _
set_option maxHeartbeats 4000000 in
set_option maxRecDepth 100000 in
theorem rinv3 (ah al : Nat) (ov sv : Nat → Nat × Nat)
    (HO : Ret 16 #[.int .i64 3, .agg #[.int .u64 (ah : Int), .int .u64 (al : Int)]] (.bool true)) (O0 : Hid (ov 1 = (0, 1))) (S0 : Hid (sv 1 = (ah, al)))
    (HS : Hid (∀ i : Nat, 1 ≤ i → Ret 52 #[.agg #[.int .u64 ((sv i).1 : Int), .int .u64 ((sv i).2 : Int)], .agg #[.int .u64 ((sv i).1 : Int), .int .u64 ((sv i).2 : Int)]] (.agg #[.int .u64 ((sv (i + 1)).1 : Int), .int .u64 ((sv (i + 1)).2 : Int)])))
    (HP : Hid (∀ i : Nat, 1 ≤ i → Ret 52 #[.agg #[.int .u64 ((ov i).1 : Int), .int .u64 ((ov i).2 : Int)], .agg #[.int .u64 ((sv (i + 1)).1 : Int), .int .u64 ((sv (i + 1)).2 : Int)]] (.agg #[.int .u64 ((ov (i + 1)).1 : Int), .int .u64 ((ov (i + 1)).2 : Int)]))) :
    Ret 53 #[.int .i64 3, .agg #[.int .u64 (ah : Int), .int .u64 (al : Int)]] (.agg #[.int .u64 ((ov 8).1 : Int), .int .u64 ((ov 8).2 : Int)]) := by
  intro W
  go_enter Try.func53, Try.ntmps53
  go_wp2_with fail
  refine (HO.go _).mono ?_
  rintro e w1 ⟨rfl, hb1⟩
  have A : Ew w1 W.heap.size ah al := Ew.below ⟨⟨by simp [go_sem], by simp [go_sem]⟩, by simp [go_sem], by simp [go_sem]⟩ hb1
  have R : Hid (Ew w1 (W.heap.size + 1) 0 0) := Ew.below ⟨⟨by simp [go_sem], by simp [go_sem]⟩, by simp [go_sem], by simp [go_sem]⟩ hb1
  have D : Hid (Below W.heap.size W w1) := (((Below.refl _ _).alloc (Nat.le_refl _) _).alloc (by simp) _).trans (hb1.mono (by simp <;> omega))
  have hp : W.heap.size + 1 < w1.heap.size := R.out.toEl.lt
  have hp2 : W.heap.size < w1.heap.size := by omega
  have a1 := A.hi
  have a0 := A.lo
  clear hb1 A
  go_wp2_with fail
  go_loopw [8] (fun u wr => ∃ i : Nat, 1 ≤ i ∧ i ≤ 8 ∧ u = .int .i64 i ∧ Ist W wr w1.heap.size 3 8 (ov i).1 (ov i).2 (sv i).1 (sv i).2) (fun u _ => 8 - (intOf u).toNat)
  case atStart =>
    refine ⟨1, Nat.le_refl _, by decide, rfl, ((R.out.alloc _).alloc _).alloc _, by simp [go_sem], ?_, ?_, (((D.out.alloc D.out.size _).alloc (by simp <;> omega) _).alloc (by simp <;> omega) _)⟩
    · rw [O0.out]; exact ⟨⟨by simp [go_sem], by simp [go_sem]⟩, by simp [go_sem], by simp [go_sem]⟩
    · rw [S0.out]; exact ⟨⟨by simp [go_sem], by simp [go_sem]⟩, by simp [go_sem], by simp [go_sem]⟩
  case round =>
    obtain ⟨i, hi1, hi, rfl, hQ⟩ := hrel
    clear R D a1 a0
    by_cases hi2 : i < 8
    · have HQ : Hid (Ist W wr w1.heap.size 3 8 (ov i).1 (ov i).2 (sv i).1 (sv i).2) := hQ
      have c := hQ.c
      have s1 := hQ.s.hi
      have s0 := hQ.s.lo
      clear hQ
      go_wp2_with fail
      refine ((HS.out i hi1).go _).mono ?_
      rintro e w4 ⟨rfl, hb4⟩
      have HQ4 : Hid (Ist W w4 w1.heap.size 3 8 (ov i).1 (ov i).2 (sv i).1 (sv i).2) := HQ.out.below hb4
      clear hb4 HQ c s1 s0
      obtain ⟨⟨s1, s0⟩, t1, t0⟩ := HQ4.out.s
      have HQ5 : Hid (Ist W ((w4.setCell ⟨w1.heap.size + 1 + 1, 0, none⟩ (.int .u64 ((sv (i + 1)).1 : Int))).setCell ⟨w1.heap.size + 1 + 1, 1, none⟩ (.int .u64 ((sv (i + 1)).2 : Int))) w1.heap.size 3 8 (ov i).1 (ov i).2 (sv (i + 1)).1 (sv (i + 1)).2) := HQ4.out.putS hp _ _
      obtain ⟨⟨o1, o0⟩, _, _⟩ := HQ4.out.o
      clear HQ4
      go_wp2_with fail
      refine ((HP.out i hi1).go _).mono ?_
      rintro e w6 ⟨rfl, hb6⟩
      have HQ6 : Hid (Ist W w6 w1.heap.size 3 8 (ov i).1 (ov i).2 (sv (i + 1)).1 (sv (i + 1)).2) := HQ5.out.below hb6
      clear hb6 HQ5 s1 s0 t1 t0 o1 o0
      obtain ⟨⟨o1, o0⟩, t1, t0⟩ := HQ6.out.o
      go_wp2
      exact ⟨⟨i + 1, by omega, hi2, by simp, HQ6.out.putO hp _ _⟩, by simp [intOf]; omega⟩
    · obtain rfl : i = 8 := by omega
      have HD : Hid (Below W.heap.size W wr) := hQ.d
      have c := hQ.c
      obtain ⟨⟨o1, o0⟩, _, _⟩ := hQ.o
      obtain ⟨⟨r1, r0⟩, t1, t0⟩ := hQ.r
      clear hQ
      go_wp2
      refine bodyPost_ret (v := .agg #[.int .u64 ((ov 8).1 : Int), .int .u64 ((ov 8).2 : Int)]) (by simp [results, Try.results53, go_sem, *]) rfl ⟨rfl, ?_⟩
      exact below2 (p := W.heap.size + 1) HD.out (by omega) _ _
set_option maxHeartbeats 4000000 in
set_option maxRecDepth 100000 in
theorem rinv4 (ah al : Nat) (ov sv : Nat → Nat × Nat)
    (HO : Ret 16 #[.int .i64 4, .agg #[.int .u64 (ah : Int), .int .u64 (al : Int)]] (.bool true)) (O0 : Hid (ov 1 = (0, 1))) (S0 : Hid (sv 1 = (ah, al)))
    (HS : Hid (∀ i : Nat, 1 ≤ i → Ret 52 #[.agg #[.int .u64 ((sv i).1 : Int), .int .u64 ((sv i).2 : Int)], .agg #[.int .u64 ((sv i).1 : Int), .int .u64 ((sv i).2 : Int)]] (.agg #[.int .u64 ((sv (i + 1)).1 : Int), .int .u64 ((sv (i + 1)).2 : Int)])))
    (HP : Hid (∀ i : Nat, 1 ≤ i → Ret 52 #[.agg #[.int .u64 ((ov i).1 : Int), .int .u64 ((ov i).2 : Int)], .agg #[.int .u64 ((sv (i + 1)).1 : Int), .int .u64 ((sv (i + 1)).2 : Int)]] (.agg #[.int .u64 ((ov (i + 1)).1 : Int), .int .u64 ((ov (i + 1)).2 : Int)]))) :
    Ret 53 #[.int .i64 4, .agg #[.int .u64 (ah : Int), .int .u64 (al : Int)]] (.agg #[.int .u64 ((ov 16).1 : Int), .int .u64 ((ov 16).2 : Int)]) := by
  intro W
  go_enter Try.func53, Try.ntmps53
  go_wp2_with fail
  refine (HO.go _).mono ?_
  rintro e w1 ⟨rfl, hb1⟩
  have A : Ew w1 W.heap.size ah al := Ew.below ⟨⟨by simp [go_sem], by simp [go_sem]⟩, by simp [go_sem], by simp [go_sem]⟩ hb1
  have R : Hid (Ew w1 (W.heap.size + 1) 0 0) := Ew.below ⟨⟨by simp [go_sem], by simp [go_sem]⟩, by simp [go_sem], by simp [go_sem]⟩ hb1
  have D : Hid (Below W.heap.size W w1) := (((Below.refl _ _).alloc (Nat.le_refl _) _).alloc (by simp) _).trans (hb1.mono (by simp <;> omega))
  have hp : W.heap.size + 1 < w1.heap.size := R.out.toEl.lt
  have hp2 : W.heap.size < w1.heap.size := by omega
  have a1 := A.hi
  have a0 := A.lo
  clear hb1 A
  go_wp2_with fail
  go_loopw [8] (fun u wr => ∃ i : Nat, 1 ≤ i ∧ i ≤ 16 ∧ u = .int .i64 i ∧ Ist W wr w1.heap.size 4 16 (ov i).1 (ov i).2 (sv i).1 (sv i).2) (fun u _ => 16 - (intOf u).toNat)
  case atStart =>
    refine ⟨1, Nat.le_refl _, by decide, rfl, ((R.out.alloc _).alloc _).alloc _, by simp [go_sem], ?_, ?_, (((D.out.alloc D.out.size _).alloc (by simp <;> omega) _).alloc (by simp <;> omega) _)⟩
    · rw [O0.out]; exact ⟨⟨by simp [go_sem], by simp [go_sem]⟩, by simp [go_sem], by simp [go_sem]⟩
    · rw [S0.out]; exact ⟨⟨by simp [go_sem], by simp [go_sem]⟩, by simp [go_sem], by simp [go_sem]⟩
  case round =>
    obtain ⟨i, hi1, hi, rfl, hQ⟩ := hrel
    clear R D a1 a0
    by_cases hi2 : i < 16
    · have HQ : Hid (Ist W wr w1.heap.size 4 16 (ov i).1 (ov i).2 (sv i).1 (sv i).2) := hQ
      have c := hQ.c
      have s1 := hQ.s.hi
      have s0 := hQ.s.lo
      clear hQ
      go_wp2_with fail
      refine ((HS.out i hi1).go _).mono ?_
      rintro e w4 ⟨rfl, hb4⟩
      have HQ4 : Hid (Ist W w4 w1.heap.size 4 16 (ov i).1 (ov i).2 (sv i).1 (sv i).2) := HQ.out.below hb4
      clear hb4 HQ c s1 s0
      obtain ⟨⟨s1, s0⟩, t1, t0⟩ := HQ4.out.s
      have HQ5 : Hid (Ist W ((w4.setCell ⟨w1.heap.size + 1 + 1, 0, none⟩ (.int .u64 ((sv (i + 1)).1 : Int))).setCell ⟨w1.heap.size + 1 + 1, 1, none⟩ (.int .u64 ((sv (i + 1)).2 : Int))) w1.heap.size 4 16 (ov i).1 (ov i).2 (sv (i + 1)).1 (sv (i + 1)).2) := HQ4.out.putS hp _ _
      obtain ⟨⟨o1, o0⟩, _, _⟩ := HQ4.out.o
      clear HQ4
      go_wp2_with fail
      refine ((HP.out i hi1).go _).mono ?_
      rintro e w6 ⟨rfl, hb6⟩
      have HQ6 : Hid (Ist W w6 w1.heap.size 4 16 (ov i).1 (ov i).2 (sv (i + 1)).1 (sv (i + 1)).2) := HQ5.out.below hb6
      clear hb6 HQ5 s1 s0 t1 t0 o1 o0
      obtain ⟨⟨o1, o0⟩, t1, t0⟩ := HQ6.out.o
      go_wp2
      exact ⟨⟨i + 1, by omega, hi2, by simp, HQ6.out.putO hp _ _⟩, by simp [intOf]; omega⟩
    · obtain rfl : i = 16 := by omega
      have HD : Hid (Below W.heap.size W wr) := hQ.d
      have c := hQ.c
      obtain ⟨⟨o1, o0⟩, _, _⟩ := hQ.o
      obtain ⟨⟨r1, r0⟩, t1, t0⟩ := hQ.r
      clear hQ
      go_wp2
      refine bodyPost_ret (v := .agg #[.int .u64 ((ov 16).1 : Int), .int .u64 ((ov 16).2 : Int)]) (by simp [results, Try.results53, go_sem, *]) rfl ⟨rfl, ?_⟩
      exact below2 (p := W.heap.size + 1) HD.out (by omega) _ _
set_option maxHeartbeats 4000000 in
set_option maxRecDepth 100000 in
theorem rinv5 (ah al : Nat) (ov sv : Nat → Nat × Nat)
    (HO : Ret 16 #[.int .i64 5, .agg #[.int .u64 (ah : Int), .int .u64 (al : Int)]] (.bool true)) (O0 : Hid (ov 1 = (0, 1))) (S0 : Hid (sv 1 = (ah, al)))
    (HS : Hid (∀ i : Nat, 1 ≤ i → Ret 52 #[.agg #[.int .u64 ((sv i).1 : Int), .int .u64 ((sv i).2 : Int)], .agg #[.int .u64 ((sv i).1 : Int), .int .u64 ((sv i).2 : Int)]] (.agg #[.int .u64 ((sv (i + 1)).1 : Int), .int .u64 ((sv (i + 1)).2 : Int)])))
    (HP : Hid (∀ i : Nat, 1 ≤ i → Ret 52 #[.agg #[.int .u64 ((ov i).1 : Int), .int .u64 ((ov i).2 : Int)], .agg #[.int .u64 ((sv (i + 1)).1 : Int), .int .u64 ((sv (i + 1)).2 : Int)]] (.agg #[.int .u64 ((ov (i + 1)).1 : Int), .int .u64 ((ov (i + 1)).2 : Int)]))) :
    Ret 53 #[.int .i64 5, .agg #[.int .u64 (ah : Int), .int .u64 (al : Int)]] (.agg #[.int .u64 ((ov 32).1 : Int), .int .u64 ((ov 32).2 : Int)]) := by
  intro W
  go_enter Try.func53, Try.ntmps53
  go_wp2_with fail
  refine (HO.go _).mono ?_
  rintro e w1 ⟨rfl, hb1⟩
  have A : Ew w1 W.heap.size ah al := Ew.below ⟨⟨by simp [go_sem], by simp [go_sem]⟩, by simp [go_sem], by simp [go_sem]⟩ hb1
  have R : Hid (Ew w1 (W.heap.size + 1) 0 0) := Ew.below ⟨⟨by simp [go_sem], by simp [go_sem]⟩, by simp [go_sem], by simp [go_sem]⟩ hb1
  have D : Hid (Below W.heap.size W w1) := (((Below.refl _ _).alloc (Nat.le_refl _) _).alloc (by simp) _).trans (hb1.mono (by simp <;> omega))
  have hp : W.heap.size + 1 < w1.heap.size := R.out.toEl.lt
  have hp2 : W.heap.size < w1.heap.size := by omega
  have a1 := A.hi
  have a0 := A.lo
  clear hb1 A
  go_wp2_with fail
  go_loopw [8] (fun u wr => ∃ i : Nat, 1 ≤ i ∧ i ≤ 32 ∧ u = .int .i64 i ∧ Ist W wr w1.heap.size 5 32 (ov i).1 (ov i).2 (sv i).1 (sv i).2) (fun u _ => 32 - (intOf u).toNat)
  case atStart =>
    refine ⟨1, Nat.le_refl _, by decide, rfl, ((R.out.alloc _).alloc _).alloc _, by simp [go_sem], ?_, ?_, (((D.out.alloc D.out.size _).alloc (by simp <;> omega) _).alloc (by simp <;> omega) _)⟩
    · rw [O0.out]; exact ⟨⟨by simp [go_sem], by simp [go_sem]⟩, by simp [go_sem], by simp [go_sem]⟩
    · rw [S0.out]; exact ⟨⟨by simp [go_sem], by simp [go_sem]⟩, by simp [go_sem], by simp [go_sem]⟩
  case round =>
    obtain ⟨i, hi1, hi, rfl, hQ⟩ := hrel
    clear R D a1 a0
    by_cases hi2 : i < 32
    · have HQ : Hid (Ist W wr w1.heap.size 5 32 (ov i).1 (ov i).2 (sv i).1 (sv i).2) := hQ
      have c := hQ.c
      have s1 := hQ.s.hi
      have s0 := hQ.s.lo
      clear hQ
      go_wp2_with fail
      refine ((HS.out i hi1).go _).mono ?_
      rintro e w4 ⟨rfl, hb4⟩
      have HQ4 : Hid (Ist W w4 w1.heap.size 5 32 (ov i).1 (ov i).2 (sv i).1 (sv i).2) := HQ.out.below hb4
      clear hb4 HQ c s1 s0
      obtain ⟨⟨s1, s0⟩, t1, t0⟩ := HQ4.out.s
      have HQ5 : Hid (Ist W ((w4.setCell ⟨w1.heap.size + 1 + 1, 0, none⟩ (.int .u64 ((sv (i + 1)).1 : Int))).setCell ⟨w1.heap.size + 1 + 1, 1, none⟩ (.int .u64 ((sv (i + 1)).2 : Int))) w1.heap.size 5 32 (ov i).1 (ov i).2 (sv (i + 1)).1 (sv (i + 1)).2) := HQ4.out.putS hp _ _
      obtain ⟨⟨o1, o0⟩, _, _⟩ := HQ4.out.o
      clear HQ4
      go_wp2_with fail
      refine ((HP.out i hi1).go _).mono ?_
      rintro e w6 ⟨rfl, hb6⟩
      have HQ6 : Hid (Ist W w6 w1.heap.size 5 32 (ov i).1 (ov i).2 (sv (i + 1)).1 (sv (i + 1)).2) := HQ5.out.below hb6
      clear hb6 HQ5 s1 s0 t1 t0 o1 o0
      obtain ⟨⟨o1, o0⟩, t1, t0⟩ := HQ6.out.o
      go_wp2
      exact ⟨⟨i + 1, by omega, hi2, by simp, HQ6.out.putO hp _ _⟩, by simp [intOf]; omega⟩
    · obtain rfl : i = 32 := by omega
      have HD : Hid (Below W.heap.size W wr) := hQ.d
      have c := hQ.c
      obtain ⟨⟨o1, o0⟩, _, _⟩ := hQ.o
      obtain ⟨⟨r1, r0⟩, t1, t0⟩ := hQ.r
      clear hQ
      go_wp2
      refine bodyPost_ret (v := .agg #[.int .u64 ((ov 32).1 : Int), .int .u64 ((ov 32).2 : Int)]) (by simp [results, Try.results53, go_sem, *]) rfl ⟨rfl, ?_⟩
      exact below2 (p := W.heap.size + 1) HD.out (by omega) _ _
set_option maxHeartbeats 4000000 in
set_option maxRecDepth 100000 in
theorem rinv6 (ah al : Nat) (ov sv : Nat → Nat × Nat)
    (HO : Ret 16 #[.int .i64 6, .agg #[.int .u64 (ah : Int), .int .u64 (al : Int)]] (.bool true)) (O0 : Hid (ov 1 = (0, 1))) (S0 : Hid (sv 1 = (ah, al)))
    (HS : Hid (∀ i : Nat, 1 ≤ i → Ret 52 #[.agg #[.int .u64 ((sv i).1 : Int), .int .u64 ((sv i).2 : Int)], .agg #[.int .u64 ((sv i).1 : Int), .int .u64 ((sv i).2 : Int)]] (.agg #[.int .u64 ((sv (i + 1)).1 : Int), .int .u64 ((sv (i + 1)).2 : Int)])))
    (HP : Hid (∀ i : Nat, 1 ≤ i → Ret 52 #[.agg #[.int .u64 ((ov i).1 : Int), .int .u64 ((ov i).2 : Int)], .agg #[.int .u64 ((sv (i + 1)).1 : Int), .int .u64 ((sv (i + 1)).2 : Int)]] (.agg #[.int .u64 ((ov (i + 1)).1 : Int), .int .u64 ((ov (i + 1)).2 : Int)]))) :
    Ret 53 #[.int .i64 6, .agg #[.int .u64 (ah : Int), .int .u64 (al : Int)]] (.agg #[.int .u64 ((ov 64).1 : Int), .int .u64 ((ov 64).2 : Int)]) := by
  intro W
  go_enter Try.func53, Try.ntmps53
  go_wp2_with fail
  refine (HO.go _).mono ?_
  rintro e w1 ⟨rfl, hb1⟩
  have A : Ew w1 W.heap.size ah al := Ew.below ⟨⟨by simp [go_sem], by simp [go_sem]⟩, by simp [go_sem], by simp [go_sem]⟩ hb1
  have R : Hid (Ew w1 (W.heap.size + 1) 0 0) := Ew.below ⟨⟨by simp [go_sem], by simp [go_sem]⟩, by simp [go_sem], by simp [go_sem]⟩ hb1
  have D : Hid (Below W.heap.size W w1) := (((Below.refl _ _).alloc (Nat.le_refl _) _).alloc (by simp) _).trans (hb1.mono (by simp <;> omega))
  have hp : W.heap.size + 1 < w1.heap.size := R.out.toEl.lt
  have hp2 : W.heap.size < w1.heap.size := by omega
  have a1 := A.hi
  have a0 := A.lo
  clear hb1 A
  go_wp2_with fail
  go_loopw [8] (fun u wr => ∃ i : Nat, 1 ≤ i ∧ i ≤ 64 ∧ u = .int .i64 i ∧ Ist W wr w1.heap.size 6 64 (ov i).1 (ov i).2 (sv i).1 (sv i).2) (fun u _ => 64 - (intOf u).toNat)
  case atStart =>
    refine ⟨1, Nat.le_refl _, by decide, rfl, ((R.out.alloc _).alloc _).alloc _, by simp [go_sem], ?_, ?_, (((D.out.alloc D.out.size _).alloc (by simp <;> omega) _).alloc (by simp <;> omega) _)⟩
    · rw [O0.out]; exact ⟨⟨by simp [go_sem], by simp [go_sem]⟩, by simp [go_sem], by simp [go_sem]⟩
    · rw [S0.out]; exact ⟨⟨by simp [go_sem], by simp [go_sem]⟩, by simp [go_sem], by simp [go_sem]⟩
  case round =>
    obtain ⟨i, hi1, hi, rfl, hQ⟩ := hrel
    clear R D a1 a0
    by_cases hi2 : i < 64
    · have HQ : Hid (Ist W wr w1.heap.size 6 64 (ov i).1 (ov i).2 (sv i).1 (sv i).2) := hQ
      have c := hQ.c
      have s1 := hQ.s.hi
      have s0 := hQ.s.lo
      clear hQ
      go_wp2_with fail
      refine ((HS.out i hi1).go _).mono ?_
      rintro e w4 ⟨rfl, hb4⟩
      have HQ4 : Hid (Ist W w4 w1.heap.size 6 64 (ov i).1 (ov i).2 (sv i).1 (sv i).2) := HQ.out.below hb4
      clear hb4 HQ c s1 s0
      obtain ⟨⟨s1, s0⟩, t1, t0⟩ := HQ4.out.s
      have HQ5 : Hid (Ist W ((w4.setCell ⟨w1.heap.size + 1 + 1, 0, none⟩ (.int .u64 ((sv (i + 1)).1 : Int))).setCell ⟨w1.heap.size + 1 + 1, 1, none⟩ (.int .u64 ((sv (i + 1)).2 : Int))) w1.heap.size 6 64 (ov i).1 (ov i).2 (sv (i + 1)).1 (sv (i + 1)).2) := HQ4.out.putS hp _ _
      obtain ⟨⟨o1, o0⟩, _, _⟩ := HQ4.out.o
      clear HQ4
      go_wp2_with fail
      refine ((HP.out i hi1).go _).mono ?_
      rintro e w6 ⟨rfl, hb6⟩
      have HQ6 : Hid (Ist W w6 w1.heap.size 6 64 (ov i).1 (ov i).2 (sv (i + 1)).1 (sv (i + 1)).2) := HQ5.out.below hb6
      clear hb6 HQ5 s1 s0 t1 t0 o1 o0
      obtain ⟨⟨o1, o0⟩, t1, t0⟩ := HQ6.out.o
      go_wp2
      exact ⟨⟨i + 1, by omega, hi2, by simp, HQ6.out.putO hp _ _⟩, by simp [intOf]; omega⟩
    · obtain rfl : i = 64 := by omega
      have HD : Hid (Below W.heap.size W wr) := hQ.d
      have c := hQ.c
      obtain ⟨⟨o1, o0⟩, _, _⟩ := hQ.o
      obtain ⟨⟨r1, r0⟩, t1, t0⟩ := hQ.r
      clear hQ
      go_wp2
      refine bodyPost_ret (v := .agg #[.int .u64 ((ov 64).1 : Int), .int .u64 ((ov 64).2 : Int)]) (by simp [results, Try.results53, go_sem, *]) rfl ⟨rfl, ?_⟩
      exact below2 (p := W.heap.size + 1) HD.out (by omega) _ _
set_option maxHeartbeats 4000000 in
set_option maxRecDepth 100000 in
theorem rinv7 (ah al : Nat) (ov sv : Nat → Nat × Nat)
    (HO : Ret 16 #[.int .i64 7, .agg #[.int .u64 (ah : Int), .int .u64 (al : Int)]] (.bool true)) (O0 : Hid (ov 1 = (0, 1))) (S0 : Hid (sv 1 = (ah, al)))
    (HS : Hid (∀ i : Nat, 1 ≤ i → Ret 52 #[.agg #[.int .u64 ((sv i).1 : Int), .int .u64 ((sv i).2 : Int)], .agg #[.int .u64 ((sv i).1 : Int), .int .u64 ((sv i).2 : Int)]] (.agg #[.int .u64 ((sv (i + 1)).1 : Int), .int .u64 ((sv (i + 1)).2 : Int)])))
    (HP : Hid (∀ i : Nat, 1 ≤ i → Ret 52 #[.agg #[.int .u64 ((ov i).1 : Int), .int .u64 ((ov i).2 : Int)], .agg #[.int .u64 ((sv (i + 1)).1 : Int), .int .u64 ((sv (i + 1)).2 : Int)]] (.agg #[.int .u64 ((ov (i + 1)).1 : Int), .int .u64 ((ov (i + 1)).2 : Int)]))) :
    Ret 53 #[.int .i64 7, .agg #[.int .u64 (ah : Int), .int .u64 (al : Int)]] (.agg #[.int .u64 ((ov 128).1 : Int), .int .u64 ((ov 128).2 : Int)]) := by
  intro W
  go_enter Try.func53, Try.ntmps53
  go_wp2_with fail
  refine (HO.go _).mono ?_
  rintro e w1 ⟨rfl, hb1⟩
  have A : Ew w1 W.heap.size ah al := Ew.below ⟨⟨by simp [go_sem], by simp [go_sem]⟩, by simp [go_sem], by simp [go_sem]⟩ hb1
  have R : Hid (Ew w1 (W.heap.size + 1) 0 0) := Ew.below ⟨⟨by simp [go_sem], by simp [go_sem]⟩, by simp [go_sem], by simp [go_sem]⟩ hb1
  have D : Hid (Below W.heap.size W w1) := (((Below.refl _ _).alloc (Nat.le_refl _) _).alloc (by simp) _).trans (hb1.mono (by simp <;> omega))
  have hp : W.heap.size + 1 < w1.heap.size := R.out.toEl.lt
  have hp2 : W.heap.size < w1.heap.size := by omega
  have a1 := A.hi
  have a0 := A.lo
  clear hb1 A
  go_wp2_with fail
  go_loopw [8] (fun u wr => ∃ i : Nat, 1 ≤ i ∧ i ≤ 128 ∧ u = .int .i64 i ∧ Ist W wr w1.heap.size 7 128 (ov i).1 (ov i).2 (sv i).1 (sv i).2) (fun u _ => 128 - (intOf u).toNat)
  case atStart =>
    refine ⟨1, Nat.le_refl _, by decide, rfl, ((R.out.alloc _).alloc _).alloc _, by simp [go_sem], ?_, ?_, (((D.out.alloc D.out.size _).alloc (by simp <;> omega) _).alloc (by simp <;> omega) _)⟩
    · rw [O0.out]; exact ⟨⟨by simp [go_sem], by simp [go_sem]⟩, by simp [go_sem], by simp [go_sem]⟩
    · rw [S0.out]; exact ⟨⟨by simp [go_sem], by simp [go_sem]⟩, by simp [go_sem], by simp [go_sem]⟩
  case round =>
    obtain ⟨i, hi1, hi, rfl, hQ⟩ := hrel
    clear R D a1 a0
    by_cases hi2 : i < 128
    · have HQ : Hid (Ist W wr w1.heap.size 7 128 (ov i).1 (ov i).2 (sv i).1 (sv i).2) := hQ
      have c := hQ.c
      have s1 := hQ.s.hi
      have s0 := hQ.s.lo
      clear hQ
      go_wp2_with fail
      refine ((HS.out i hi1).go _).mono ?_
      rintro e w4 ⟨rfl, hb4⟩
      have HQ4 : Hid (Ist W w4 w1.heap.size 7 128 (ov i).1 (ov i).2 (sv i).1 (sv i).2) := HQ.out.below hb4
      clear hb4 HQ c s1 s0
      obtain ⟨⟨s1, s0⟩, t1, t0⟩ := HQ4.out.s
      have HQ5 : Hid (Ist W ((w4.setCell ⟨w1.heap.size + 1 + 1, 0, none⟩ (.int .u64 ((sv (i + 1)).1 : Int))).setCell ⟨w1.heap.size + 1 + 1, 1, none⟩ (.int .u64 ((sv (i + 1)).2 : Int))) w1.heap.size 7 128 (ov i).1 (ov i).2 (sv (i + 1)).1 (sv (i + 1)).2) := HQ4.out.putS hp _ _
      obtain ⟨⟨o1, o0⟩, _, _⟩ := HQ4.out.o
      clear HQ4
      go_wp2_with fail
      refine ((HP.out i hi1).go _).mono ?_
      rintro e w6 ⟨rfl, hb6⟩
      have HQ6 : Hid (Ist W w6 w1.heap.size 7 128 (ov i).1 (ov i).2 (sv (i + 1)).1 (sv (i + 1)).2) := HQ5.out.below hb6
      clear hb6 HQ5 s1 s0 t1 t0 o1 o0
      obtain ⟨⟨o1, o0⟩, t1, t0⟩ := HQ6.out.o
      go_wp2
      exact ⟨⟨i + 1, by omega, hi2, by simp, HQ6.out.putO hp _ _⟩, by simp [intOf]; omega⟩
    · obtain rfl : i = 128 := by omega
      have HD : Hid (Below W.heap.size W wr) := hQ.d
      have c := hQ.c
      obtain ⟨⟨o1, o0⟩, _, _⟩ := hQ.o
      obtain ⟨⟨r1, r0⟩, t1, t0⟩ := hQ.r
      clear hQ
      go_wp2
      refine bodyPost_ret (v := .agg #[.int .u64 ((ov 128).1 : Int), .int .u64 ((ov 128).2 : Int)]) (by simp [results, Try.results53, go_sem, *]) rfl ⟨rfl, ?_⟩
      exact below2 (p := W.heap.size + 1) HD.out (by omega) _ _
end Go.Proofs.Ytnecjkdlmecgdaa
