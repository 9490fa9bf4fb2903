/- steeplelaw33.FrobLinear gives true, whatever the input. -/
import Derived.Test.YtakaconhoodigaaFrW
namespace Go.Proofs.Ytakaconhoodigaa
open Go.RowKit
open Cb
open Tw (pm)
open Fr

theorem mul_in {k : Nat} {a b : Nat × Nat} (la : lt2 a) (lb : lt2 b) (oa : ofE k a) (ob : ofE k b) : Ret 27 #[.int .i64 (k : Int), .agg #[.int .u64 (a.1 : Int), .int .u64 (a.2 : Int)], .agg #[.int .u64 (b.1 : Int), .int .u64 (b.2 : Int)]] (.agg #[.int .u64 ((pm a b).1 : Int), .int .u64 ((pm a b).2 : Int)]) := by
  have := mul_any (k : Int) a b la.1 la.2 lb.1 lb.2
  rw [mulv_of oa ob] at this
  exact this
theorem add_in {a b : Nat × Nat} (la : lt2 a) (lb : lt2 b) : Ret 26 #[.agg #[.int .u64 (a.1 : Int), .int .u64 (a.2 : Int)], .agg #[.int .u64 (b.1 : Int), .int .u64 (b.2 : Int)]] (.agg #[.int .u64 ((xa a b).1 : Int), .int .u64 ((xa a b).2 : Int)]) := fun w => add_any _ _ _ _ la.1 la.2 lb.1 lb.2 w
theorem fl_any (l y : Int) (a b c : Nat × Nat) (la : lt2 a) (lb : lt2 b) (lc : lt2 c) : Ret 5 #[.int .i64 l, .int .i64 y, .agg #[.int .u64 (a.1 : Int), .int .u64 (a.2 : Int), .int .u64 (b.1 : Int), .int .u64 (b.2 : Int), .int .u64 (c.1 : Int), .int .u64 (c.2 : Int)]] (.bool true) := by
  obtain ⟨k, hk, fk⟩ := cut_level l
  obtain ⟨t1, j, hj, f1, g1, g2, f2⟩ := cut_mod y k hk
  have hj8 : j < 8 := by omega
  have lA := cut_lt k a la.1 la.2
  have oA : ofE k (cutE k a) := cut_closed k hk a la.2
  have hA := of33 k hk a la
  generalize cutE k a = A at *
  have lB := cut_lt k b lb.1 lb.2
  have oB : ofE k (cutE k b) := cut_closed k hk b lb.2
  have hB := of33 k hk b lb
  generalize cutE k b = B at *
  have lC := cut_lt j c lc.1 lc.2
  have oC : ofE j (cutE j c) := cut_closed j hj8 c lc.2
  have hC := of33 j hj8 c lc
  generalize cutE j c = C at *
  have oCk : ofE k C := Fr.of_up hj hk oC
  have lP := lt_pm C A
  have oP : ofE k (pm C A) := of_pm hk oCk oA
  have lS := lt_xa lP lB
  have oS : ofE k (xa (pm C A) B) := of_xor hk oP oB
  have lAB := lt_pm A B
  have oAB : ofE k (pm A B) := of_pm hk oA oB
  have tr : ∀ x : Nat × Nat, lt2 x → ofE k x → Ret 18 #[.int .i64 (k : Int), .int .i64 (j : Int), .agg #[.int .u64 (x.1 : Int), .int .u64 (x.2 : Int)]] (.agg #[.int .u64 ((tn xa (0, 0) k j x).1 : Int), .int .u64 ((tn xa (0, 0) k j x).2 : Int)]) := fun x lx ox => by
    have := trace_ok k j hk hj ⟨x, lx, ox⟩
    rw [trl_tn] at this
    exact this
  have no : ∀ x : Nat × Nat, lt2 x → ofE k x → Ret 19 #[.int .i64 (k : Int), .int .i64 (j : Int), .agg #[.int .u64 (x.1 : Int), .int .u64 (x.2 : Int)]] (.agg #[.int .u64 ((tn pm (0, 1) k j x).1 : Int), .int .u64 ((tn pm (0, 1) k j x).2 : Int)]) := fun x lx ox => by
    have := norm_ok k j hk hj ⟨x, lx, ox⟩
    rw [nrl_tn] at this
    exact this
  have lt1 := fun x (lx : lt2 x) => lt_tn (op := xa) (e := (0, 0)) mon_add lx k j
  have ot1 := fun x (lx : lt2 x) (ox : ofE k x) => of_tn (op := xa) (e := (0, 0)) mon_add goes_add hk hj lx ox
  have lt3 := fun x (lx : lt2 x) => lt_tn (op := pm) (e := (0, 1)) mon_mul lx k j
  have ot3 := fun x (lx : lt2 x) (ox : ofE k x) => of_tn (op := pm) (e := (0, 1)) mon_mul goes_mul hk hj lx ox
  have e1 := tn_linear (k := k) hj8 lA lB lC oC
  have e2 := tn_prod (k := k) (j := j) lA lB
  refine fl_core l y t1 k j hk hj fk f1 g1 g2 f2 a b c A B C (pm C A) (xa (pm C A) B) (tn xa (0, 0) k j (xa (pm C A) B)) (tn xa (0, 0) k j A) (pm C (tn xa (0, 0) k j A)) (tn xa (0, 0) k j B) (pm A B) (tn pm (0, 1) k j (pm A B)) (tn pm (0, 1) k j A) (tn pm (0, 1) k j B) hA hB hC (mul_in lC lA oCk oA) (add_in lP lB) (tr _ lS oS) (tr A lA oA) (mul_in lC (lt1 A lA) oC (ot1 A lA oA)) (tr B lB oB) ?_ (mul_in lA lB oA oB) (no _ lAB oAB) (no A lA oA) (no B lB oB) ?_
  · rw [e1]; exact add_in (lt_pm _ _) (lt1 B lB)
  · rw [e2]; exact mul_in (lt3 A lA) (lt3 B lB) (ot3 A lA oA) (ot3 B lB oB)
end Go.Proofs.Ytakaconhoodigaa
