/- The walk of steeplelaw33.FrobThrough over the seat's translation. -/
import Derived.Test.YtakaconhoodigaaFrG
import Derived.Test.YtakaconhoodigaaFrM
namespace Go.Proofs.Ytakaconhoodigaa
open Go.RowKit
open Cb
open Tw (pm)

set_option maxHeartbeats 20000000 in
set_option maxRecDepth 100000 in
theorem ft_core (l x y t1 t2 : Int) (k m j : Nat) (hk : k < 8) (hm : m ≤ k) (hj : j ≤ m) (fk : (wrap64 (l.tmod 8 + 8)).tmod 8 = (k : Int)) (f1 : x.tmod ((k : Int) + 1) = t1) (g1 : -8 ≤ t1) (g2 : t1 ≤ 8) (f2 : (t1 + (k : Int) + 1).tmod ((k : Int) + 1) = (m : Int)) (f3 : y.tmod ((m : Int) + 1) = t2) (g3 : -8 ≤ t2) (g4 : t2 ≤ 8) (f4 : (t2 + (m : Int) + 1).tmod ((m : Int) + 1) = (j : Int))
    (a A T N v u : Nat × Nat) (HC : Hid (Ret 25 #[.int .i64 (k : Int), .agg #[.int .u64 (a.1 : Int), .int .u64 (a.2 : Int)]] (.agg #[.int .u64 (A.1 : Int), .int .u64 (A.2 : Int)])))
    (HT1 : Hid (Ret 18 #[.int .i64 (k : Int), .int .i64 (j : Int), .agg #[.int .u64 (A.1 : Int), .int .u64 (A.2 : Int)]] (.agg #[.int .u64 (v.1 : Int), .int .u64 (v.2 : Int)])))
    (HT2 : Hid (Ret 18 #[.int .i64 (k : Int), .int .i64 (m : Int), .agg #[.int .u64 (A.1 : Int), .int .u64 (A.2 : Int)]] (.agg #[.int .u64 (T.1 : Int), .int .u64 (T.2 : Int)])))
    (HT3 : Hid (Ret 18 #[.int .i64 (m : Int), .int .i64 (j : Int), .agg #[.int .u64 (T.1 : Int), .int .u64 (T.2 : Int)]] (.agg #[.int .u64 (v.1 : Int), .int .u64 (v.2 : Int)])))
    (HN1 : Hid (Ret 19 #[.int .i64 (k : Int), .int .i64 (j : Int), .agg #[.int .u64 (A.1 : Int), .int .u64 (A.2 : Int)]] (.agg #[.int .u64 (u.1 : Int), .int .u64 (u.2 : Int)])))
    (HN2 : Hid (Ret 19 #[.int .i64 (k : Int), .int .i64 (m : Int), .agg #[.int .u64 (A.1 : Int), .int .u64 (A.2 : Int)]] (.agg #[.int .u64 (N.1 : Int), .int .u64 (N.2 : Int)])))
    (HN3 : Hid (Ret 19 #[.int .i64 (m : Int), .int .i64 (j : Int), .agg #[.int .u64 (N.1 : Int), .int .u64 (N.2 : Int)]] (.agg #[.int .u64 (u.1 : Int), .int .u64 (u.2 : Int)]))) :
    Ret 6 #[.int .i64 l, .agg #[.int .i64 x, .int .i64 y], .agg #[.int .u64 (a.1 : Int), .int .u64 (a.2 : Int)]] (.bool true) := by
  intro W
  have HA := hidF awake33
  have z1 : ¬ (k : Int) + 1 = 0 := by omega
  have z2 : ¬ (m : Int) + 1 = 0 := by omega
  go_enter Try.func6, Try.ntmps6
  go_upto_region 5 with (go_at_call 25; refine (HC.out.go _).mono ?_; rintro e w1 ⟨rfl, hb1⟩)
  have B : Bl W (w1.alloc (Obj.cells #[.int .u64 (A.1 : Int), .int .u64 (A.2 : Int)] 24)) [(w1.heap.size, A.1, A.2)] [] :=
    ⟨⟨⟨by simp [go_sem], by simp [go_sem]⟩, trivial⟩, trivial, ((((Below.refl _ _).alloc (Nat.le_refl _) _).alloc (by simp) _).trans (hb1.mono (by simp; omega))).alloc (by have := hb1.size; simp at this; omega) _⟩
  clear hb1 f1 f2 f3 f4 g1 g2 g3 g4 fk z1 z2 HC hk hm hj
  generalize (w1.alloc (Obj.cells #[.int .u64 (A.1 : Int), .int .u64 (A.2 : Int)] 24)) = Z at *
  generalize w1.heap.size = p at *
  have F := B.facts
  simp only [Els, Wrs, and_true] at F
  go_region_held3 (fun w => w.cell? ⟨p, 0, none⟩ = some (.int .u64 (A.1 : Int)) ∧ w.cell? ⟨p, 1, none⟩ = some (.int .u64 (A.2 : Int))) (first | (go_keep; done) | (exact ⟨by simp [go_sem, F], by simp [go_sem, F]⟩)) (first | (go_at_call 12; refine (HA.out.go _).mono ?_; rintro e w' ⟨rfl, hb'⟩; have B'' := Bl.below (w' := w') (by first | exact B | exact B.drew) hb'; clear F B hb'; have B := B''; clear B''; have F := B.facts; simp only [Els, Wrs, and_true] at F) | (go_at_call_of 18 (#[.int .i64 (k : Int), .int .i64 (j : Int), .agg #[.int .u64 (A.1 : Int), .int .u64 (A.2 : Int)]] : Array Value); refine (HT1.out.go _).mono ?_; rintro e w' ⟨rfl, hb'⟩; have B'' := Bl.below (w' := w') (by first | exact B | exact B.drew) hb'; clear F B hb'; have B := B''; clear B''; have F := B.facts; simp only [Els, Wrs, and_true] at F) | (go_at_call_of 18 (#[.int .i64 (k : Int), .int .i64 (m : Int), .agg #[.int .u64 (A.1 : Int), .int .u64 (A.2 : Int)]] : Array Value); refine (HT2.out.go _).mono ?_; rintro e w' ⟨rfl, hb'⟩; have B'' := Bl.below (w' := w') (by first | exact B | exact B.drew) hb'; clear F B hb'; have B := B''; clear B''; have F := B.facts; simp only [Els, Wrs, and_true] at F) | (go_at_call_of 18 (#[.int .i64 (m : Int), .int .i64 (j : Int), .agg #[.int .u64 (T.1 : Int), .int .u64 (T.2 : Int)]] : Array Value); refine (HT3.out.go _).mono ?_; rintro e w' ⟨rfl, hb'⟩; have B'' := Bl.below (w' := w') (by first | exact B | exact B.drew) hb'; clear F B hb'; have B := B''; clear B''; have F := B.facts; simp only [Els, Wrs, and_true] at F) | (go_at_call_of 19 (#[.int .i64 (k : Int), .int .i64 (j : Int), .agg #[.int .u64 (A.1 : Int), .int .u64 (A.2 : Int)]] : Array Value); refine (HN1.out.go _).mono ?_; rintro e w' ⟨rfl, hb'⟩; have B'' := Bl.below (w' := w') (by first | exact B | exact B.drew) hb'; clear F B hb'; have B := B''; clear B''; have F := B.facts; simp only [Els, Wrs, and_true] at F) | (go_at_call_of 19 (#[.int .i64 (k : Int), .int .i64 (m : Int), .agg #[.int .u64 (A.1 : Int), .int .u64 (A.2 : Int)]] : Array Value); refine (HN2.out.go _).mono ?_; rintro e w' ⟨rfl, hb'⟩; have B'' := Bl.below (w' := w') (by first | exact B | exact B.drew) hb'; clear F B hb'; have B := B''; clear B''; have F := B.facts; simp only [Els, Wrs, and_true] at F) | (go_at_call_of 19 (#[.int .i64 (m : Int), .int .i64 (j : Int), .agg #[.int .u64 (N.1 : Int), .int .u64 (N.2 : Int)]] : Array Value); refine (HN3.out.go _).mono ?_; rintro e w' ⟨rfl, hb'⟩; have B'' := Bl.below (w' := w') (by first | exact B | exact B.drew) hb'; clear F B hb'; have B := B''; clear B''; have F := B.facts; simp only [Els, Wrs, and_true] at F))
  all_goals go_wp2
  all_goals go_ret
  all_goals exact ⟨by rfl, by first | exact B.b | exact B.b.drew⟩
open Fr
theorem ft_any (l x y : Int) (a : Nat × Nat) (la : lt2 a) : Ret 6 #[.int .i64 l, .agg #[.int .i64 x, .int .i64 y], .agg #[.int .u64 (a.1 : Int), .int .u64 (a.2 : Int)]] (.bool true) := by
  obtain ⟨k, hk, fk⟩ := cut_level l
  obtain ⟨t1, m, hm, f1, g1, g2, f2⟩ := cut_mod x k hk
  obtain ⟨t2, j, hj, f3, g3, g4, f4⟩ := cut_mod y m (by omega)
  have lA := cut_lt k a la.1 la.2
  have oA : ofE k (cutE k a) := cut_closed k hk a la.2
  have HC := of33 k hk a la
  generalize cutE k a = A at *
  have hm8 : m < 8 := by omega
  have T1 := trace_ok k j hk (by omega) ⟨A, lA, oA⟩
  have T2 := trace_ok k m hk hm ⟨A, lA, oA⟩
  have T3 := trace_ok m j hm8 hj ⟨tn xa (0, 0) k m A, lt_tn mon_add lA k m, of_tn mon_add goes_add hk hm lA oA⟩
  have N1 := norm_ok k j hk (by omega) ⟨A, lA, oA⟩
  have N2 := norm_ok k m hk hm ⟨A, lA, oA⟩
  have N3 := norm_ok m j hm8 hj ⟨tn pm (0, 1) k m A, lt_tn mon_mul lA k m, of_tn mon_mul goes_mul hk hm lA oA⟩
  rw [trl_tn] at T1 T2 T3
  rw [nrl_tn] at N1 N2 N3
  have e1 := tn_through mon_add goes_add hk hm hj lA
  have e2 := tn_through mon_mul goes_mul hk hm hj lA
  refine ft_core l x y t1 t2 k m j hk hm hj fk f1 g1 g2 f2 f3 g3 g4 f4 a A (tn xa (0, 0) k m A) (tn pm (0, 1) k m A) (tn xa (0, 0) k j A) (tn pm (0, 1) k j A) HC T1 T2 ?_ N1 N2 ?_
  · rw [e1]; exact T3
  · rw [e2]; exact N3
end Go.Proofs.Ytakaconhoodigaa
