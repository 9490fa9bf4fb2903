/- Contracts of the document's Trace and Norm of layer 33 over the seat's translation. -/
import Derived.Test.YtakaconhoodigaaFrS
import Derived.Test.YtakaconhoodigaaFrK
namespace Go.Proofs.Ytakaconhoodigaa
open Go.RowKit
open Cb
open Tw (pm)

/-- The result, what is reckoned, and the row. -/
structure Tq (W w : World) (t : Nat × Nat) (g : Nat) (es : List (Nat × Nat)) : Prop where
  r : Ew w (W.heap.size + 1) 0 0
  t : Ew w (W.heap.size + 1 + 1) t.1 t.2
  row : ERow w (some ⟨g, 0, none⟩) es
  far : W.heap.size + 1 + 1 < g
  d : Below W.heap.size W w
theorem Tq.below {W w w' : World} {t : Nat × Nat} {g : Nat} {es : List (Nat × Nat)} (h : Tq W w t g es) (hb : Below w.heap.size w w') : Tq W w' t g es := ⟨h.r.below hb, h.t.below hb, h.row.below hb, h.far, h.d.trans (hb.mono h.d.size)⟩
theorem Tq.drew {W w : World} {t : Nat × Nat} {g : Nat} {es : List (Nat × Nat)} (h : Tq W w t g es) : Tq W w.drew t g es := h.below (Below.refl _ _).drew
theorem Tq.put {W w : World} {t : Nat × Nat} {g : Nat} {es : List (Nat × Nat)} (h : Tq W w t g es) (z : Nat × Nat) : Tq W ((w.setCell ⟨W.heap.size + 1 + 1, 0, none⟩ (.int .u64 (z.1 : Int))).setCell ⟨W.heap.size + 1 + 1, 1, none⟩ (.int .u64 (z.2 : Int))) z g es :=
  ⟨h.r.other (by omega) _ _, h.t.set _ _, h.row.offE (fun g' off e => by have := h.far; injection e with e; injection e with e1 e2; omega) _ _ _ _, h.far, (h.d.setCell (by simp; omega) _).setCell (by simp; omega) _⟩
theorem rls_len (a : Nat × Nat) (M N : Nat) : (rls a M N).length = N := by simp [rls]
theorem rls_at (a : Nat × Nat) (M N i : Nat) (h : i < N) : (rls a M N).getD i (0, 0) = sqv a (M * i) := by simp [rls, h]
set_option maxRecDepth 100000 in
set_option maxHeartbeats 8000000 in
theorem rtrace33 (k j : Nat) (hk : k < 8) (hj : j ≤ k) (a : Nat × Nat) (la : lt2 a) :
    Ret 23 #[.int .i64 (k : Int), .int .i64 (j : Int), .agg #[.int .u64 (a.1 : Int), .int .u64 (a.2 : Int)]] (.agg #[.int .u64 ((Fr.tn xa (0, 0) k j a).1 : Int), .int .u64 ((Fr.tn xa (0, 0) k j a).2 : Int)]) := by
  intro W
  obtain ⟨d, hd⟩ : ∃ d, d = k - j := ⟨_, rfl⟩
  obtain ⟨M, hM⟩ : ∃ M, M = 2 ^ j := ⟨_, rfl⟩
  obtain ⟨N, hN⟩ : ∃ N, N = 2 ^ d := ⟨_, rfl⟩
  have HC := hidF (rconj33 k j d M N hk hj hd hM hN a la)
  have hN0 : 0 < N := by rw [hN]; exact Nat.two_pow_pos d
  have hN1 : N ≤ 128 := by rw [hN]; exact Nat.le_trans (Nat.pow_le_pow_right (by decide) (show d ≤ 7 by omega)) (by decide)
  unfold Fr.tn
  rw [← hM, ← hd, ← hN]
  obtain ⟨q, hq⟩ : ∃ q : Nat → Nat × Nat, ∀ i, q i = sqv a (M * i) := ⟨_, fun _ => rfl⟩
  have lq : ∀ i, lt2 (q i) := fun i => by rw [hq]; exact lt_sqv la _
  rw [show (fun i => sqv a (M * i)) = q from funext fun i => (hq i).symm]
  obtain ⟨s, hs⟩ : ∃ s : Nat → Nat × Nat, ∀ i, s i = Fr.fo xa (0, 0) i q := ⟨_, fun _ => rfl⟩
  have ls : ∀ i, lt2 (s i) := fun i => by rw [hs]; exact Fr.lt_fo Fr.mon_add lq i
  have HS : Hid (∀ i, Ret 29 #[.agg #[.int .u64 ((s i).1 : Int), .int .u64 ((s i).2 : Int)], .agg #[.int .u64 ((q i).1 : Int), .int .u64 ((q i).2 : Int)]] (.agg #[.int .u64 ((s (i + 1)).1 : Int), .int .u64 ((s (i + 1)).2 : Int)])) := fun i => by
    have := radd (s i).1 (s i).2 (q i).1 (q i).2 (ls i).1 (ls i).2 (lq i).1 (lq i).2
    rw [show s (i + 1) = xa (s i) (q i) by rw [hs, hs]; rfl]
    exact this
  have s0 : s 0 = (0, 0) := by rw [hs]; rfl
  rw [← hs N]
  have hes := rls_len a M N
  have HE : Hid (∀ i, i < N → (rls a M N).getD i (0, 0) = q i) := fun i hi => by rw [rls_at a M N i hi, hq]
  generalize rls a M N = es at *
  clear hd hM hN hk hj la hq lq hs ls
  go_enter Try.func23, Try.ntmps23
  go_wp2_with (go_at_call 22; refine (HC.out _).mono ?_; rintro e w1 ⟨v, rfl, hown, hb1⟩; obtain ⟨N', hN'⟩ : ∃ N', N = N' + 1 := ⟨N - 1, by omega⟩; have hown2 := hown; rw [hN'] at hown2; obtain ⟨g, cap, rfl⟩ := ownsRow_succ hown2; rw [← hN'] at hown; have K0 : Hid (Tq W w1 (s 0) g es) := (by
      have hg : W.heap.size + 1 + 1 < g := (by
        rcases hown.2 with ⟨h0, _⟩ | ⟨g', cap', cur, e', h1', _⟩
        · cases h0
        · injection e' with e' _ _; injection e' with e'; injection e' with e' _ _; subst e'; simp at h1'; omega)
      rw [← hes] at hown
      obtain ⟨a', cap', e', hrow⟩ := own_row hown
      injection e' with e' _ _
      subst e'
      rw [s0]
      exact ⟨(Ew.below ⟨⟨by simp [go_sem], by simp [go_sem]⟩, by simp [go_sem], by simp [go_sem]⟩ hb1), (Ew.below ⟨⟨by simp [go_sem], by simp [go_sem]⟩, by simp [go_sem], by simp [go_sem]⟩ hb1), hrow, hg, ((((Below.refl _ _).alloc (Nat.le_refl _) _).alloc (by simp) _).alloc (by simp; omega) _).trans (hb1.mono (by simp; omega))⟩); clear hown hown2 hb1 HC; rw [← hN'])
  go_loopw [9] (fun u wr => ∃ i : Nat, i ≤ N ∧ u = .int .i64 i ∧ Hid (Tq W wr (s i) g es)) (fun u _ => N - (intOf u).toNat)
  case atStart => exact ⟨0, Nat.zero_le _, rfl, K0⟩
  case round =>
    obtain ⟨i, hi, rfl, HK⟩ := hrel
    clear K0
    by_cases hlt : i < N
    · have i1 : (i : Int) < (N : Int) := by omega
      have PW := hidF (HS.out i)
      have F1 : ∀ w : World, Tq W w (s i) g es → w.cell? ⟨W.heap.size + 1 + 1, 0, none⟩ = some (.int .u64 ((s i).1 : Int)) ∧ w.cell? ⟨W.heap.size + 1 + 1, 1, none⟩ = some (.int .u64 ((s i).2 : Int)) ∧ w.cell? ⟨g, i * 2, none⟩ = some (.int .u64 ((q i).1 : Int)) ∧ w.cell? ⟨g, i * 2 + 1, none⟩ = some (.int .u64 ((q i).2 : Int)) ∧ w.frozen? ⟨W.heap.size + 1 + 1, 0, none⟩ = false ∧ w.frozen? ⟨W.heap.size + 1 + 1, 1, none⟩ = false := fun w h => by
        obtain ⟨b, off, e, _, c1, c0⟩ := h.row.cells i (by omega)
        injection e with e; injection e with e1 e2; subst e1; subst e2
        rw [HE.out i hlt, Nat.zero_add] at c1 c0
        exact ⟨h.t.hi, h.t.lo, c1, c0, h.t.fhi, h.t.flo⟩
      have HF1 := hidF F1
      clear F1
      go_upto_region 6 with fail
      obtain ⟨x1, x0, y1, y0, t1, t0⟩ := HF1.out _ HK.out
      go_region_with (go_at_call 29; refine (PW.out.go _).mono ?_; rintro e w5 ⟨rfl, hb5⟩; have K5 : Hid (Tq W w5 (s i) g es) := Tq.below (by first | exact HK.out | exact HK.out.drew) hb5; clear hb5 x1 x0 y1 y0 t1 t0; obtain ⟨x1, x0, y1, y0, t1, t0⟩ := HF1.out _ K5.out)
      all_goals
        go_wp2
        exact ⟨⟨i + 1, hlt, by go_num, K5.out.put _⟩, by simp [intOf]; omega⟩
    · obtain rfl : i = N := by omega
      obtain ⟨⟨x1, x0⟩, f1, f0⟩ := HK.out.r
      obtain ⟨⟨y1, y0⟩, _, _⟩ := HK.out.t
      have HB := hidF HK.out.d
      clear HK
      go_wp2
      refine bodyPost_ret (v := .agg #[.int .u64 ((s i).1 : Int), .int .u64 ((s i).2 : Int)]) (by simp [results, Try.results23, go_sem, *]) rfl ⟨rfl, ?_⟩
      exact (HB.out.setCell (by simp) _).setCell (by simp) _
set_option maxRecDepth 100000 in
set_option maxHeartbeats 8000000 in
theorem rnorm33 (k j : Nat) (hk : k < 8) (hj : j ≤ k) (a : Nat × Nat) (la : lt2 a) :
    Ret 24 #[.int .i64 (k : Int), .int .i64 (j : Int), .agg #[.int .u64 (a.1 : Int), .int .u64 (a.2 : Int)]] (.agg #[.int .u64 ((Fr.tn pm (0, 1) k j a).1 : Int), .int .u64 ((Fr.tn pm (0, 1) k j a).2 : Int)]) := by
  intro W
  obtain ⟨d, hd⟩ : ∃ d, d = k - j := ⟨_, rfl⟩
  obtain ⟨M, hM⟩ : ∃ M, M = 2 ^ j := ⟨_, rfl⟩
  obtain ⟨N, hN⟩ : ∃ N, N = 2 ^ d := ⟨_, rfl⟩
  have HC := hidF (rconj33 k j d M N hk hj hd hM hN a la)
  have hN0 : 0 < N := by rw [hN]; exact Nat.two_pow_pos d
  have hN1 : N ≤ 128 := by rw [hN]; exact Nat.le_trans (Nat.pow_le_pow_right (by decide) (show d ≤ 7 by omega)) (by decide)
  unfold Fr.tn
  rw [← hM, ← hd, ← hN]
  obtain ⟨q, hq⟩ : ∃ q : Nat → Nat × Nat, ∀ i, q i = sqv a (M * i) := ⟨_, fun _ => rfl⟩
  have lq : ∀ i, lt2 (q i) := fun i => by rw [hq]; exact lt_sqv la _
  rw [show (fun i => sqv a (M * i)) = q from funext fun i => (hq i).symm]
  obtain ⟨s, hs⟩ : ∃ s : Nat → Nat × Nat, ∀ i, s i = Fr.fo pm (0, 1) i q := ⟨_, fun _ => rfl⟩
  have ls : ∀ i, lt2 (s i) := fun i => by rw [hs]; exact Fr.lt_fo Fr.mon_mul lq i
  have HS : Hid (∀ i, Ret 16 #[.agg #[.int .u64 ((s i).1 : Int), .int .u64 ((s i).2 : Int)], .agg #[.int .u64 ((q i).1 : Int), .int .u64 ((q i).2 : Int)]] (.agg #[.int .u64 ((s (i + 1)).1 : Int), .int .u64 ((s (i + 1)).2 : Int)])) := fun i => by
    have := rproduct_any (s i).1 (s i).2 (q i).1 (q i).2 (ls i).1 (ls i).2 (lq i).1 (lq i).2
    rw [show s (i + 1) = pm (s i) (q i) by rw [hs, hs]; rfl]
    exact this
  have s0 : s 0 = (0, 1) := by rw [hs]; rfl
  rw [← hs N]
  have hes := rls_len a M N
  have HE : Hid (∀ i, i < N → (rls a M N).getD i (0, 0) = q i) := fun i hi => by rw [rls_at a M N i hi, hq]
  generalize rls a M N = es at *
  clear hd hM hN hk hj la hq lq hs ls
  go_enter Try.func24, Try.ntmps24
  go_wp2_with (go_at_call 22; refine (HC.out _).mono ?_; rintro e w1 ⟨v, rfl, hown, hb1⟩; obtain ⟨N', hN'⟩ : ∃ N', N = N' + 1 := ⟨N - 1, by omega⟩; have hown2 := hown; rw [hN'] at hown2; obtain ⟨g, cap, rfl⟩ := ownsRow_succ hown2; rw [← hN'] at hown; have K0 : Hid (Tq W w1 (s 0) g es) := (by
      have hg : W.heap.size + 1 + 1 < g := (by
        rcases hown.2 with ⟨h0, _⟩ | ⟨g', cap', cur, e', h1', _⟩
        · cases h0
        · injection e' with e' _ _; injection e' with e'; injection e' with e' _ _; subst e'; simp at h1'; omega)
      rw [← hes] at hown
      obtain ⟨a', cap', e', hrow⟩ := own_row hown
      injection e' with e' _ _
      subst e'
      rw [s0]
      exact ⟨(Ew.below ⟨⟨by simp [go_sem], by simp [go_sem]⟩, by simp [go_sem], by simp [go_sem]⟩ hb1), (Ew.below ⟨⟨by simp [go_sem], by simp [go_sem]⟩, by simp [go_sem], by simp [go_sem]⟩ hb1), hrow, hg, ((((Below.refl _ _).alloc (Nat.le_refl _) _).alloc (by simp) _).alloc (by simp; omega) _).trans (hb1.mono (by simp; omega))⟩); clear hown hown2 hb1 HC; rw [← hN'])
  go_loopw [9] (fun u wr => ∃ i : Nat, i ≤ N ∧ u = .int .i64 i ∧ Hid (Tq W wr (s i) g es)) (fun u _ => N - (intOf u).toNat)
  case atStart => exact ⟨0, Nat.zero_le _, rfl, K0⟩
  case round =>
    obtain ⟨i, hi, rfl, HK⟩ := hrel
    clear K0
    by_cases hlt : i < N
    · have i1 : (i : Int) < (N : Int) := by omega
      have PW := hidF (HS.out i)
      have F1 : ∀ w : World, Tq W w (s i) g es → w.cell? ⟨W.heap.size + 1 + 1, 0, none⟩ = some (.int .u64 ((s i).1 : Int)) ∧ w.cell? ⟨W.heap.size + 1 + 1, 1, none⟩ = some (.int .u64 ((s i).2 : Int)) ∧ w.cell? ⟨g, i * 2, none⟩ = some (.int .u64 ((q i).1 : Int)) ∧ w.cell? ⟨g, i * 2 + 1, none⟩ = some (.int .u64 ((q i).2 : Int)) ∧ w.frozen? ⟨W.heap.size + 1 + 1, 0, none⟩ = false ∧ w.frozen? ⟨W.heap.size + 1 + 1, 1, none⟩ = false := fun w h => by
        obtain ⟨b, off, e, _, c1, c0⟩ := h.row.cells i (by omega)
        injection e with e; injection e with e1 e2; subst e1; subst e2
        rw [HE.out i hlt, Nat.zero_add] at c1 c0
        exact ⟨h.t.hi, h.t.lo, c1, c0, h.t.fhi, h.t.flo⟩
      have HF1 := hidF F1
      clear F1
      go_upto_region 6 with fail
      obtain ⟨x1, x0, y1, y0, t1, t0⟩ := HF1.out _ HK.out
      go_region_with (go_at_call 16; refine (PW.out.go _).mono ?_; rintro e w5 ⟨rfl, hb5⟩; have K5 : Hid (Tq W w5 (s i) g es) := Tq.below (by first | exact HK.out | exact HK.out.drew) hb5; clear hb5 x1 x0 y1 y0 t1 t0; obtain ⟨x1, x0, y1, y0, t1, t0⟩ := HF1.out _ K5.out)
      all_goals
        go_wp2
        exact ⟨⟨i + 1, hlt, by go_num, K5.out.put _⟩, by simp [intOf]; omega⟩
    · obtain rfl : i = N := by omega
      obtain ⟨⟨x1, x0⟩, f1, f0⟩ := HK.out.r
      obtain ⟨⟨y1, y0⟩, _, _⟩ := HK.out.t
      have HB := hidF HK.out.d
      clear HK
      go_wp2
      refine bodyPost_ret (v := .agg #[.int .u64 ((s i).1 : Int), .int .u64 ((s i).2 : Int)]) (by simp [results, Try.results24, go_sem, *]) rfl ⟨rfl, ?_⟩
      exact (HB.out.setCell (by simp) _).setCell (by simp) _
end Go.Proofs.Ytakaconhoodigaa
