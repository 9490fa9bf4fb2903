/- Contracts of the document's Fits and Conjugates of layer 33 over the seat's translation. -/
import Derived.Test.YtakaconhoodigaaFrR
import Derived.Test.YtakaconhoodigaaFrH
namespace Go.Proofs.Ytakaconhoodigaa
open Go.RowKit
open Cb
open Tw (pm)

set_option maxHeartbeats 2000000 in
theorem rfits33 (l t : Int) (a : Nat × Nat) (la : lt2 a) : Ret 20 #[.int .i64 l, .int .i64 t, .agg #[.int .u64 (a.1 : Int), .int .u64 (a.2 : Int)]] (.bool (ovB l t a)) := by
  have HO := hidF (rof_any l a.1 a.2 la.1 la.2)
  unfold ovB
  clear la
  generalize ofB l (a.1 : Int) (a.2 : Int) = o at *
  intro W
  have go : ∀ c1 c2 : Bool, (c1 = true ↔ 0 ≤ t) → (c2 = true ↔ t ≤ l) → Calls Try.prog 20 #[.int .i64 l, .int .i64 t, .agg #[.int .u64 (a.1 : Int), .int .u64 (a.2 : Int)]] W fun e w' => e = .returned (.bool (o && (c1 && c2))) ∧ Below W.heap.size W w' := by
    intro c1 c2 h1 h2
    cases o <;> cases c1 <;> cases c2
    all_goals (simp only [Bool.false_eq_true, false_iff, true_iff, Int.not_le] at h1 h2)
    all_goals (go_enter Try.func20, Try.ntmps20)
    all_goals (go_wp2_with (go_at_call 11; refine (HO.out.go _).mono ?_; rintro e w1 ⟨rfl, hb1⟩))
    all_goals (try omega)
    all_goals (go_ret; exact ⟨by first | rfl | (simp; omega), ((Below.refl _ _).alloc (Nat.le_refl _) _).trans (hb1.mono (by simp))⟩)
  exact go _ _ (by simp) (by simp)
theorem own_geF {A : World} {base : Nat} {e : TypeId} {size : Nat} {v : Value} {n : Nat} {xs : List Value} (h : A.ownsRow base e size v n xs) {g : Nat} (hg : v.ownBlock = some g) : base ≤ g := by
  rcases h.2 with ⟨rfl, _⟩ | ⟨g', cap, cur, rfl, h1, _, _⟩
  · cases hg
  · injection hg with hg
    rw [← hg]; exact h1
/-- The first so many conjugates, as pairs. -/
def rls (a : Nat × Nat) (M i : Nat) : List (Nat × Nat) := (List.range i).map fun j => sqv a (M * j)
set_option maxRecDepth 100000 in
set_option maxHeartbeats 8000000 in
theorem rconj33 (k j d M N : Nat) (hk : k < 8) (hj : j ≤ k) (hd : d = k - j) (hM : M = 2 ^ j) (hN : N = 2 ^ d) (a : Nat × Nat) (la : lt2 a) (W : World) :
    Calls Try.prog 22 #[.int .i64 (k : Int), .int .i64 (j : Int), .agg #[.int .u64 (a.1 : Int), .int .u64 (a.2 : Int)]] W fun e w' => ∃ v, e = .returned v ∧ w'.ownsRow W.heap.size 25 2 v N (flat (rls a M N)) ∧ Below W.heap.size W w' := by
  obtain ⟨i0, hi, hz0, hz1, hz2⟩ := info_relem
  have HIF := hidF (And.intro hi (And.intro hz0 (And.intro hz1 hz2)))
  have hM1 : M ≤ 128 := by rw [hM]; exact Nat.le_trans (Nat.pow_le_pow_right (by decide) (show j ≤ 7 by omega)) (by decide)
  have hN1 : N ≤ 128 := by rw [hN]; exact Nat.le_trans (Nat.pow_le_pow_right (by decide) (show d ≤ 7 by omega)) (by decide)
  have T1 := hidF (rtwoF d (by omega))
  rw [← hN] at T1
  have T2 := hidF (rtwoF j (by omega))
  rw [← hM] at T2
  obtain ⟨q, hq⟩ : ∃ q : Nat → Nat × Nat, ∀ i, q i = sqv a (M * i) := ⟨_, fun _ => rfl⟩
  have HP : Hid (∀ i, Ret 14 #[.agg #[.int .u64 ((q i).1 : Int), .int .u64 ((q i).2 : Int)], .int .i64 (M : Int)] (.agg #[.int .u64 ((q (i + 1)).1 : Int), .int .u64 ((q (i + 1)).2 : Int)])) := fun i => by
    have := rpow33 M (by omega) (sqv a (M * i)) (lt_sqv la _)
    rw [sqv_sqv la, ← Nat.mul_succ] at this
    rw [hq, hq]
    exact this
  have e1 : (k : Int) - (j : Int) = (d : Int) := by omega
  have k7 : (k : Int) ≤ 7 := by omega
  have j7 : (j : Int) ≤ 7 := by omega
  have d7 : (d : Int) ≤ 7 := by omega
  have q0 : q 0 = a := by rw [hq]; rfl
  obtain ⟨R, hR⟩ : ∃ R : Nat → List Value, ∀ i, R i = flat (rls a M i) := ⟨_, fun _ => rfl⟩
  have HR : Hid (∀ i, R (i + 1) = R i ++ [.int .u64 ((q i).1 : Int), .int .u64 ((q i).2 : Int)]) := fun i => by
    rw [hR, hR, hq]
    unfold rls
    rw [List.range_succ, List.map_append, List.map_cons, List.map_nil, flat_snocF]
  have HR0 : Hid (R 0 = []) := by show _ = _; rw [hR]; rfl
  rw [← hR N]
  clear hi hz0 hz1 hz2 hd hM hN hk hj la hq hR
  go_enter Try.func22, Try.ntmps22
  go_wp2_with fail
  obtain ⟨w0, hw0⟩ : ∃ w0, w0 = (W.alloc (Obj.cells #[.int .u64 (a.1 : Int), .int .u64 (a.2 : Int)] 25)).alloc (Obj.cells #[.int .u64 (a.1 : Int), .int .u64 (a.2 : Int)] 25) := ⟨_, rfl⟩
  have E0 : Ew w0 (W.heap.size + 1) (q 0).1 (q 0).2 := by rw [q0, hw0]; exact ⟨⟨by simp [go_sem], by simp [go_sem]⟩, by simp [go_sem], by simp [go_sem]⟩
  have E2 : Below W.heap.size W w0 := by rw [hw0]; exact ((Below.refl _ _).alloc (Nat.le_refl _) _).alloc (by simp) _
  have E3 : W.heap.size + 1 < w0.heap.size := E0.ltF
  rw [← hw0]
  clear hw0 q0
  go_loopw [7, 9] (fun v u wr => ∃ i : Nat, i ≤ N ∧ u = .int .i64 i ∧ Hid (wr.ownsRow (W.heap.size + 1 + 1) 25 2 v i (R i) ∧ Ew wr (W.heap.size + 1) (q i).1 (q i).2 ∧ Below W.heap.size W wr)) (fun _ u _ => N - (intOf u).toNat)
  case atStart => exact ⟨0, Nat.zero_le _, rfl, ⟨by rw [HR0.out]; rfl, .inl ⟨rfl, rfl⟩⟩, E0, E2⟩
  case round =>
    obtain ⟨i, hi', rfl, HK⟩ := hrel
    clear E0 E2
    by_cases hlt : i < N
    · have hi1 : (i : Int) < (N : Int) := by omega
      have PW := hidF (HP.out i)
      go_upto_region 7 with (first
        | (go_at_call 13; refine (T1.out.go _).mono ?_; rintro e w1 ⟨rfl, hb1⟩; have K1 := hidF (And.intro (own_blkF HK.out.1 fun g e => hb1.block g (own_ltF HK.out.1 e)) (And.intro (HK.out.2.1.below hb1) (HK.out.2.2.trans (hb1.mono HK.out.2.2.size)))); have s1 := K1.out.2.1.hi; have s0 := K1.out.2.1.lo; clear hb1)
        | (at_builtin; refine wpList_append_own _ rfl _ _ 40 rfl (W.heap.size + 1 + 1) 25 i0 (.agg #[.int .u64 0, .int .u64 0]) 2 16 Try.underlying40 HIF.out.1 HIF.out.2.1 HIF.out.2.2.1 HIF.out.2.2.2 rfl (by decide) _ i (R i) rfl (own_blkF K1.out.1 fun g e => Below.heap_alloc _ _ _ (own_ltF K1.out.1 e)) ⟨w1.heap.size, 0, none⟩ 1 1 [.int .u64 ((q i).1 : Int), .int .u64 ((q i).2 : Int)] rfl rfl (fun j u hj => by rcases j with _ | _ | j <;> simp at hj <;> subst hj <;> simp [go_sem, Addr.add]) (by simp [Value.oneCell']) (by simp only [maxLen]; omega) (by omega) (by have := K1.out.2.1.ltF; simp; omega) ?_; intro v' w2 hown' hgrow _; have K2 : Hid (w2.ownsRow (W.heap.size + 1 + 1) 25 2 v' (i + 1) (R (i + 1)) ∧ Ew w2 (W.heap.size + 1) (q i).1 (q i).2 ∧ Below W.heap.size W w2) := ⟨by rw [HR.out]; exact hown', K1.out.2.1.blkF ((hgrow.block _ (by have := K1.out.2.1.ltF; simp; omega) (fun e => by have := own_geF K1.out.1 e.symm; omega)).trans (Below.heap_alloc _ _ _ K1.out.2.1.ltF)), (K1.out.2.2.alloc K1.out.2.2.size _).grown hgrow (by have := K1.out.2.2.size; simp; omega) (fun g e => by have := own_geF K1.out.1 e; omega)⟩; clear hown' hgrow s1 s0))
      have s1 := K2.out.2.1.hi
      have s0 := K2.out.2.1.lo
      have t1 := K2.out.2.1.fhi
      have t0 := K2.out.2.1.flo
      clear K1 HK
      go_region_with (first
        | (go_at_call 13; refine (T2.out.go _).mono ?_; rintro e w3 ⟨rfl, hb3⟩; have K3 := hidF (And.intro (own_blkF K2.out.1 fun g e => (below_drewF hb3).block g (own_ltF K2.out.1 e)) (And.intro (K2.out.2.1.below (below_drewF hb3)) (K2.out.2.2.trans ((below_drewF hb3).mono K2.out.2.2.size)))); clear hb3 s1 s0 t1 t0; obtain ⟨⟨s1, s0⟩, t1, t0⟩ := K3.out.2.1)
        | (go_at_call 14; refine (PW.out.go _).mono ?_; rintro e w4 ⟨rfl, hb4⟩; have K4 := hidF (And.intro (own_blkF K3.out.1 fun g e => hb4.block g (own_ltF K3.out.1 e)) (And.intro (K3.out.2.1.below hb4) (K3.out.2.2.trans (hb4.mono K3.out.2.2.size)))); clear hb4 s1 s0 t1 t0; obtain ⟨⟨s1, s0⟩, t1, t0⟩ := K4.out.2.1))
      all_goals
        go_wp2
        refine ⟨⟨i + 1, hlt, by go_num, own_blkF K4.out.1 fun g e => ?_, K4.out.2.1.set _ _, (K4.out.2.2.setCell (by simp) _).setCell (by simp) _⟩, by simp [intOf]; omega⟩
        have := own_geF K4.out.1 e
        exact (Below.heap_setCell _ _ _ _ (by simp; omega)).trans (Below.heap_setCell _ _ _ _ (by simp; omega))
    · obtain rfl : i = N := by omega
      go_wp2_with (go_at_call 13; refine (T1.out.go _).mono ?_; rintro e w1 ⟨rfl, hb1⟩)
      go_ret
      refine ⟨_, rfl, ?_, HK.out.2.2.trans (hb1.mono HK.out.2.2.size)⟩
      have h := own_blkF HK.out.1 fun g e => hb1.block g (own_ltF HK.out.1 e)
      refine ⟨h.1, ?_⟩
      rcases h.2 with h0 | ⟨g, cap, cur, e, hb, rest⟩
      · exact .inl h0
      · exact .inr ⟨g, cap, cur, e, by omega, rest⟩
end Go.Proofs.Ytakaconhoodigaa
