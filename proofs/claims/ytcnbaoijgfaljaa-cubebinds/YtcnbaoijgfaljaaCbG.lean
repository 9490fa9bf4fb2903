/- The document's side of layer 15 over the seat's translation: Log, one, Weight, Value. -/
import Derived.Test.YtcnbaoijgfaljaaCbF
import Derived.Test.YtcnbaoijgfaljaaRfE
namespace Go.Proofs.Ytcnbaoijgfaljaa
open Go.RowKit
open Cb
open Tw (pm)

set_option maxHeartbeats 1000000 in
theorem rlog_int (n r : Int) (h1 : ∀ k : Nat, k ≤ 16 → n = ((2 ^ k : Nat) : Int) → r = (k : Int)) (h2 : (∀ k : Nat, k ≤ 16 → n ≠ ((2 ^ k : Nat) : Int)) → r = -1) : Ret 51 #[.int .i64 n] (.int .i64 r) := by
  intro W
  have H1 : Hid (∀ k : Nat, k ≤ 16 → n = ((2 ^ k : Nat) : Int) → r = (k : Int)) := h1
  have H2 : Hid ((∀ k : Nat, k ≤ 16 → n ≠ ((2 ^ k : Nat) : Int)) → r = -1) := h2
  clear h1 h2
  go_enter Try.func51, Try.ntmps51
  go_wp2_with fail
  go_loopw [3, 4] (fun v u wr => ∃ j q : Nat, j ≤ 17 ∧ Hid (q = 2 ^ j) ∧ Hid (∀ k : Nat, k < j → n ≠ ((2 ^ k : Nat) : Int)) ∧ v = .int .i64 (q : Int) ∧ u = .int .i64 j ∧ W = wr) (fun _ u _ => 17 - (intOf u).toNat)
  case atStart => exact ⟨0, 1, Nat.zero_le _, (by rfl), (fun k hk => by omega), rfl, rfl, rfl⟩
  case round =>
    obtain ⟨j, q, hj, HQ, HN, rfl, rfl, rfl⟩ := hrel
    by_cases hlt : j ≤ 16
    · have hq : q ≤ 65536 := by rw [HQ.out]; exact Nat.pow_le_pow_right (by decide) hlt
      have hw : IntKind.i64.wrap (2 * (q : Int)) = ((2 * q : Nat) : Int) := by rw [IntKind.wrap_i64]; omega
      by_cases he : n = (q : Int)
      · have hr : r = (j : Int) := H1.out j hlt (by rw [he, HQ.out])
        subst he
        go_wp2
        go_ret
        exact ⟨by first | rfl | (rw [hr]; rfl), Below.refl _ _⟩
      · have he' : ¬ (q : Int) = n := fun h => he h.symm
        go_wp2
        exact ⟨⟨j + 1, 2 * q, by omega, (by show _ = _; rw [HQ.out, Nat.pow_succ]; omega), (fun k hk => by
          rcases Nat.lt_or_ge k j with h | h
          · exact HN.out k h
          · rw [show k = j by omega, ← HQ.out]; exact he), by simp, by simp, by first | rfl | trivial⟩, by simp [intOf]; omega⟩
    · have hr : r = -1 := H2.out fun k hk => HN.out k (by omega)
      have hlt' : ¬ (j : Int) ≤ 16 := by omega
      go_wp2
      go_ret
      exact ⟨by first | rfl | (rw [hr]; rfl), Below.refl _ _⟩
theorem rlog_any (n : Nat) : Ret 51 #[.int .i64 (n : Int)] (.int .i64 (lgz n)) := by
  refine rlog_int _ _ (fun k hk h => ?_) fun h => ?_
  · obtain rfl : n = 2 ^ k := by omega
    exact lgz_two k hk
  · rcases lgz_or n with e | ⟨k, hk, e, _⟩
    · exact e
    · exact absurd (congrArg Int.ofNat e) (h k hk)
theorem rone : Ret 52 #[] (.agg #[.int .u64 0, .int .u64 1]) := by
  intro W
  go_enter Try.func52, Try.ntmps52
  go_wp2
  refine bodyPost_ret (v := .agg #[.int .u64 0, .int .u64 1]) (by simp [results, Try.results52, go_sem]) rfl ⟨rfl, ?_⟩
  go_grown
theorem wtf_snoc : ∀ (p : List (Nat × Nat)) (o x : Nat × Nat) (n : Nat), wtf o (p ++ [x]) n = pm (wtf o p n) (fac x (n / 2 ^ p.length))
  | [], o, x, n => by simp [wtf]
  | y :: p, o, x, n => by
    show wtf (pm o (fac y n)) (p ++ [x]) (n / 2) = pm (wtf (pm o (fac y n)) p (n / 2)) (fac x (n / 2 ^ (p.length + 1)))
    rw [wtf_snoc p, Nat.div_div_eq_div_mul, Nat.pow_succ, Nat.mul_comm 2]
/-- A room, and an element that is worked on. -/
structure Wst (W w : World) (q : Nat) (o : Nat × Nat) : Prop where
  r : Ew w W.heap.size 0 0
  o : Ew w q o.1 o.2
  d : Below W.heap.size W w
theorem Wst.below {W w w' : World} {q : Nat} {o : Nat × Nat} (h : Wst W w q o) (hb : Below w.heap.size w w') : Wst W w' q o := ⟨h.r.below hb, h.o.below hb, h.d.trans (hb.mono h.d.size)⟩
theorem Wst.drew {W w : World} {q : Nat} {o : Nat × Nat} (h : Wst W w q o) : Wst W w.drew q o := ⟨h.r.drew, h.o.drew, h.d.drew⟩
theorem Wst.put {W w : World} {q : Nat} {o : Nat × Nat} (h : Wst W w q o) (hq : W.heap.size < q) (v : Nat × Nat) : Wst W ((w.setCell ⟨q, 0, none⟩ (.int .u64 (v.1 : Int))).setCell ⟨q, 1, none⟩ (.int .u64 (v.2 : Int))) q v :=
  ⟨h.r.other (by omega) _ _, h.o.set _ _, below2 (p := q) h.d (by omega) _ _⟩
theorem Wst.facts {W w : World} {q b i : Nat} {o x : Nat × Nat} (h : Wst W w q o) (A : b < W.heap.size ∧ W.cell? ⟨b, i, none⟩ = some (.int .u64 (x.1 : Int)) ∧ W.cell? ⟨b, i + 1, none⟩ = some (.int .u64 (x.2 : Int))) :
    w.cell? ⟨b, i, none⟩ = some (.int .u64 (x.1 : Int)) ∧ w.cell? ⟨b, i + 1, none⟩ = some (.int .u64 (x.2 : Int)) ∧ w.cell? ⟨q, 0, none⟩ = some (.int .u64 (o.1 : Int)) ∧ w.cell? ⟨q, 1, none⟩ = some (.int .u64 (o.2 : Int)) ∧ w.frozen? ⟨q, 0, none⟩ = false ∧ w.frozen? ⟨q, 1, none⟩ = false :=
  ⟨by rw [h.d.cell (p := ⟨b, i, none⟩) A.1]; exact A.2.1, by rw [h.d.cell (p := ⟨b, i + 1, none⟩) A.1]; exact A.2.2, h.o.hi, h.o.lo, h.o.fhi, h.o.flo⟩
theorem rprod (a b : Nat × Nat) (ha : lt2 a) (hb : lt2 b) : Ret 40 #[.agg #[.int .u64 (a.1 : Int), .int .u64 (a.2 : Int)], .agg #[.int .u64 (b.1 : Int), .int .u64 (b.2 : Int)]] (.agg #[.int .u64 ((pm a b).1 : Int), .int .u64 ((pm a b).2 : Int)]) := rproduct_any _ _ _ _ ha.1 ha.2 hb.1 hb.2
theorem rsum (a b : Nat × Nat) (ha : lt2 a) (hb : lt2 b) : Ret 13 #[.agg #[.int .u64 (a.1 : Int), .int .u64 (a.2 : Int)], .agg #[.int .u64 (b.1 : Int), .int .u64 (b.2 : Int)]] (.agg #[.int .u64 ((xa a b).1 : Int), .int .u64 ((xa a b).2 : Int)]) := radd _ _ _ _ ha.1 ha.2 hb.1 hb.2
end Go.Proofs.Ytcnbaoijgfaljaa
