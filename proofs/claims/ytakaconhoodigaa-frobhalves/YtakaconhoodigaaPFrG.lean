/- Contracts of the document's Trace and Norm of layer 33 over the seat's translation. -/
import Derived.Test.YtakaconhoodigaaFrS
import Derived.Test.YtakaconhoodigaaPFrM
import Derived.Test.YtakaconhoodigaaFrF
namespace Go.Proofs.Ytakaconhoodigaa
open Go.RowKit
open Cb
open Tw (pm)

/-- The result, what is reckoned, and the row. -/
structure Tq (W w : World) (t : Nat × Nat) (g : Nat) (es : List (Nat × Nat)) : Prop where
  r : Ew w (W.heap.size + 1) 0 0
  t : Ew w (W.heap.size + 1 + 1) t.1 t.2
  row : ERow w (some ⟨g, 0, none⟩) es
  far : W.heap.size + 1 + 1 < g
  d : Below W.heap.size W w
theorem Tq.below {W w w' : World} {t : Nat × Nat} {g : Nat} {es : List (Nat × Nat)} (h : Tq W w t g es) (hb : Below w.heap.size w w') : Tq W w' t g es := ⟨h.r.below hb, h.t.below hb, h.row.below hb, h.far, h.d.trans (hb.mono h.d.size)⟩
theorem Tq.drew {W w : World} {t : Nat × Nat} {g : Nat} {es : List (Nat × Nat)} (h : Tq W w t g es) : Tq W w.drew t g es := h.below (Below.refl _ _).drew
theorem Tq.put {W w : World} {t : Nat × Nat} {g : Nat} {es : List (Nat × Nat)} (h : Tq W w t g es) (z : Nat × Nat) : Tq W ((w.setCell ⟨W.heap.size + 1 + 1, 0, none⟩ (.int .u64 (z.1 : Int))).setCell ⟨W.heap.size + 1 + 1, 1, none⟩ (.int .u64 (z.2 : Int))) z g es :=
  ⟨h.r.other (by omega) _ _, h.t.set _ _, h.row.offE (fun g' off e => by have := h.far; injection e with e; injection e with e1 e2; omega) _ _ _ _, h.far, (h.d.setCell (by simp; omega) _).setCell (by simp; omega) _⟩
theorem rls_len (a : Nat × Nat) (M N : Nat) : (rls a M N).length = N := by simp [rls]
theorem rls_at (a : Nat × Nat) (M N i : Nat) (h : i < N) : (rls a M N).getD i (0, 0) = sqv a (M * i) := by simp [rls, h]
set_option maxRecDepth 100000 in
set_option maxHeartbeats 8000000 in
theorem rtrace33 (k j : Nat) (hk : k < 8) (hj : j ≤ k) (a : Nat × Nat) (la : lt2 a) :
    Ret 23 #[.int .i64 (k : Int), .int .i64 (j : Int), .agg #[.int .u64 (a.1 : Int), .int .u64 (a.2 : Int)]] (.agg #[.int .u64 ((Fr.tn xa (0, 0) k j a).1 : Int), .int .u64 ((Fr.tn xa (0, 0) k j a).2 : Int)]) := by
  intro W
  obtain ⟨d, hd⟩ : ∃ d, d = k - j := ⟨_, rfl⟩
  obtain ⟨M, hM⟩ : ∃ M, M = 2 ^ j := ⟨_, rfl⟩
  obtain ⟨N, hN⟩ : ∃ N, N = 2 ^ d := ⟨_, rfl⟩
  have HC := hidF (rconj33 k j d M N hk hj hd hM hN a la)
  have hN0 : 0 < N := by rw [hN]; exact Nat.two_pow_pos d
  have hN1 : N ≤ 128 := by rw [hN]; exact Nat.le_trans (Nat.pow_le_pow_right (by decide) (show d ≤ 7 by omega)) (by decide)
  unfold Fr.tn
  rw [← hM, ← hd, ← hN]
  obtain ⟨q, hq⟩ : ∃ q : Nat → Nat × Nat, ∀ i, q i = sqv a (M * i) := ⟨_, fun _ => rfl⟩
  have lq : ∀ i, lt2 (q i) := fun i => by rw [hq]; exact lt_sqv la _
  rw [show (fun i => sqv a (M * i)) = q from funext fun i => (hq i).symm]
  obtain ⟨s, hs⟩ : ∃ s : Nat → Nat × Nat, ∀ i, s i = Fr.fo xa (0, 0) i q := ⟨_, fun _ => rfl⟩
  have ls : ∀ i, lt2 (s i) := fun i => by rw [hs]; exact Fr.lt_fo Fr.mon_add lq i
  have HS : Hid (∀ i, Ret 29 #[.agg #[.int .u64 ((s i).1 : Int), .int .u64 ((s i).2 : Int)], .agg #[.int .u64 ((q i).1 : Int), .int .u64 ((q i).2 : Int)]] (.agg #[.int .u64 ((s (i + 1)).1 : Int), .int .u64 ((s (i + 1)).2 : Int)])) := fun i => by
    have := radd (s i).1 (s i).2 (q i).1 (q i).2 (ls i).1 (ls i).2 (lq i).1 (lq i).2
    rw [show s (i + 1) = xa (s i) (q i) by rw [hs, hs]; rfl]
    exact this
  have s0 : s 0 = (0, 0) := by rw [hs]; rfl
  rw [← hs N]
  have hes := rls_len a M N
  have HE : Hid (∀ i, i < N → (rls a M N).getD i (0, 0) = q i) := fun i hi => by rw [rls_at a M N i hi, hq]
  generalize rls a M N = es at *
  clear hd hM hN hk hj la hq lq hs ls
  go_enter Try.func23, Try.ntmps23
  go_wp2_with (go_at_call 22; refine (HC.out _).mono ?_; rintro e w1 ⟨v, rfl, hown, hb1⟩; obtain ⟨N', hN'⟩ : ∃ N', N = N' + 1 := ⟨N - 1, by omega⟩; have hown2 := hown; rw [hN'] at hown2; obtain ⟨g, cap, rfl⟩ := ownsRow_succ hown2; rw [← hN'] at hown; have K0 : Hid (Tq W w1 (s 0) g es) := (by
      have hg : W.heap.size + 1 + 1 < g := (by
        rcases hown.2 with ⟨h0, _⟩ | ⟨g', cap', cur, e', h1', _⟩
        · cases h0
        · injection e' with e' _ _; injection e' with e'; injection e' with e' _ _; subst e'; simp at h1'; omega)
      rw [← hes] at hown
      obtain ⟨a', cap', e', hrow⟩ := own_row hown
      injection e' with e' _ _
      subst e'
      rw [s0]
      exact ⟨(Ew.below ⟨⟨by simp [go_sem], by simp [go_sem]⟩, by simp [go_sem], by simp [go_sem]⟩ hb1), (Ew.below ⟨⟨by simp [go_sem], by simp [go_sem]⟩, by simp [go_sem], by simp [go_sem]⟩ hb1), hrow, hg, ((((Below.refl _ _).alloc (Nat.le_refl _) _).alloc (by simp) _).alloc (by simp; omega) _).trans (hb1.mono (by simp; omega))⟩); clear hown hown2 hb1 HC; rw [← hN'])
  go_loopw [9] (fun u wr => ∃ i : Nat, i ≤ N ∧ u = .int .i64 i ∧ Hid (Tq W wr (s i) g es)) (fun u _ => N - (intOf u).toNat)
  case atStart => exact ⟨0, Nat.zero_le _, rfl, K0⟩
  case round =>
    obtain ⟨i, hi, rfl, HK⟩ := hrel
    clear K0
    by_cases hlt : i < N
    · have i1 : (i : Int) < (N : Int) := by omega
      have PW := hidF (HS.out i)
      have F1 : ∀ w : World, Tq W w (s i) g es → w.cell? ⟨W.heap.size + 1 + 1, 0, none⟩ = some (.int .u64 ((s i).1 : Int)) ∧ w.cell? ⟨W.heap.size + 1 + 1, 1, none⟩ = some (.int .u64 ((s i).2 : Int)) ∧ w.cell? ⟨g, i * 2, none⟩ = some (.int .u64 ((q i).1 : Int)) ∧ w.cell? ⟨g, i * 2 + 1, none⟩ = some (.int .u64 ((q i).2 : Int)) ∧ w.frozen? ⟨W.heap.size + 1 + 1, 0, none⟩ = false ∧ w.frozen? ⟨W.heap.size + 1 + 1, 1, none⟩ = false := fun w h => by
        obtain ⟨b, off, e, _, c1, c0⟩ := h.row.cells i (by omega)
        injection e with e; injection e with e1 e2; subst e1; subst e2
        rw [HE.out i hlt, Nat.zero_add] at c1 c0
        exact ⟨h.t.hi, h.t.lo, c1, c0, h.t.fhi, h.t.flo⟩
      have HF1 := hidF F1
      clear F1
      go_upto_region 6 with fail
      obtain ⟨x1, x0, y1, y0, t1, t0⟩ := HF1.out _ HK.out
      go_region_with (go_at_call 29; refine (PW.out.go _).mono ?_; rintro e w5 ⟨rfl, hb5⟩; have K5 : Hid (Tq W w5 (s i) g es) := Tq.below (by first | exact HK.out | exact HK.out.drew) hb5; clear hb5 x1 x0 y1 y0 t1 t0; obtain ⟨x1, x0, y1, y0, t1, t0⟩ := HF1.out _ K5.out)
      all_goals
        go_wp2
        exact ⟨⟨i + 1, hlt, by go_num, K5.out.put _⟩, by simp [intOf]; omega⟩
    · obtain rfl : i = N := by omega
      obtain ⟨⟨x1, x0⟩, f1, f0⟩ := HK.out.r
      obtain ⟨⟨y1, y0⟩, _, _⟩ := HK.out.t
      have HB := hidF HK.out.d
      clear HK
      go_wp2
      refine bodyPost_ret (v := .agg #[.int .u64 ((s i).1 : Int), .int .u64 ((s i).2 : Int)]) (by simp [results, Try.results23, go_sem, *]) rfl ⟨rfl, ?_⟩
      exact (HB.out.setCell (by simp) _).setCell (by simp) _
set_option maxRecDepth 100000 in
set_option maxHeartbeats 8000000 in
theorem rnorm33 (k j : Nat) (hk : k < 8) (hj : j ≤ k) (a : Nat × Nat) (la : lt2 a) :
    Ret 24 #[.int .i64 (k : Int), .int .i64 (j : Int), .agg #[.int .u64 (a.1 : Int), .int .u64 (a.2 : Int)]] (.agg #[.int .u64 ((Fr.tn pm (0, 1) k j a).1 : Int), .int .u64 ((Fr.tn pm (0, 1) k j a).2 : Int)]) := by
  intro W
  obtain ⟨d, hd⟩ : ∃ d, d = k - j := ⟨_, rfl⟩
  obtain ⟨M, hM⟩ : ∃ M, M = 2 ^ j := ⟨_, rfl⟩
  obtain ⟨N, hN⟩ : ∃ N, N = 2 ^ d := ⟨_, rfl⟩
  have HC := hidF (rconj33 k j d M N hk hj hd hM hN a la)
  have hN0 : 0 < N := by rw [hN]; exact Nat.two_pow_pos d
  have hN1 : N ≤ 128 := by rw [hN]; exact Nat.le_trans (Nat.pow_le_pow_right (by decide) (show d ≤ 7 by omega)) (by decide)
  unfold Fr.tn
  rw [← hM, ← hd, ← hN]
  obtain ⟨q, hq⟩ : ∃ q : Nat → Nat × Nat, ∀ i, q i = sqv a (M * i) := ⟨_, fun _ => rfl⟩
  have lq : ∀ i, lt2 (q i) := fun i => by rw [hq]; exact lt_sqv la _
  rw [show (fun i => sqv a (M * i)) = q from funext fun i => (hq i).symm]
  obtain ⟨s, hs⟩ : ∃ s : Nat → Nat × Nat, ∀ i, s i = Fr.fo pm (0, 1) i q := ⟨_, fun _ => rfl⟩
  have ls : ∀ i, lt2 (s i) := fun i => by rw [hs]; exact Fr.lt_fo Fr.mon_mul lq i
  have HS : Hid (∀ i, Ret 16 #[.agg #[.int .u64 ((s i).1 : Int), .int .u64 ((s i).2 : Int)], .agg #[.int .u64 ((q i).1 : Int), .int .u64 ((q i).2 : Int)]] (.agg #[.int .u64 ((s (i + 1)).1 : Int), .int .u64 ((s (i + 1)).2 : Int)])) := fun i => by
    have := rproduct_any (s i).1 (s i).2 (q i).1 (q i).2 (ls i).1 (ls i).2 (lq i).1 (lq i).2
    rw [show s (i + 1) = pm (s i) (q i) by rw [hs, hs]; rfl]
    exact this
  have s0 : s 0 = (0, 1) := by rw [hs]; rfl
  rw [← hs N]
  have hes := rls_len a M N
  have HE : Hid (∀ i, i < N → (rls a M N).getD i (0, 0) = q i) := fun i hi => by rw [rls_at a M N i hi, hq]
  generalize rls a M N = es at *
  clear hd hM hN hk hj la hq lq hs ls
  go_enter Try.func24, Try.ntmps24
  go_wp2_with (go_at_call 22; refine (HC.out _).mono ?_; rintro e w1 ⟨v, rfl, hown, hb1⟩; obtain ⟨N', hN'⟩ : ∃ N', N = N' + 1 := ⟨N - 1, by omega⟩; have hown2 := hown; rw [hN'] at hown2; obtain ⟨g, cap, rfl⟩ := ownsRow_succ hown2; rw [← hN'] at hown; have K0 : Hid (Tq W w1 (s 0) g es) := (by
      have hg : W.heap.size + 1 + 1 < g := (by
        rcases hown.2 with ⟨h0, _⟩ | ⟨g', cap', cur, e', h1', _⟩
        · cases h0
        · injection e' with e' _ _; injection e' with e'; injection e' with e' _ _; subst e'; simp at h1'; omega)
      rw [← hes] at hown
      obtain ⟨a', cap', e', hrow⟩ := own_row hown
      injection e' with e' _ _
      subst e'
      rw [s0]
      exact ⟨(Ew.below ⟨⟨by simp [go_sem], by simp [go_sem]⟩, by simp [go_sem], by simp [go_sem]⟩ hb1), (Ew.below ⟨⟨by simp [go_sem], by simp [go_sem]⟩, by simp [go_sem], by simp [go_sem]⟩ hb1), hrow, hg, ((((Below.refl _ _).alloc (Nat.le_refl _) _).alloc (by simp) _).alloc (by simp; omega) _).trans (hb1.mono (by simp; omega))⟩); clear hown hown2 hb1 HC; rw [← hN'])
  go_loopw [9] (fun u wr => ∃ i : Nat, i ≤ N ∧ u = .int .i64 i ∧ Hid (Tq W wr (s i) g es)) (fun u _ => N - (intOf u).toNat)
  case atStart => exact ⟨0, Nat.zero_le _, rfl, K0⟩
  case round =>
    obtain ⟨i, hi, rfl, HK⟩ := hrel
    clear K0
    by_cases hlt : i < N
    · have i1 : (i : Int) < (N : Int) := by omega
      have PW := hidF (HS.out i)
      have F1 : ∀ w : World, Tq W w (s i) g es → w.cell? ⟨W.heap.size + 1 + 1, 0, none⟩ = some (.int .u64 ((s i).1 : Int)) ∧ w.cell? ⟨W.heap.size + 1 + 1, 1, none⟩ = some (.int .u64 ((s i).2 : Int)) ∧ w.cell? ⟨g, i * 2, none⟩ = some (.int .u64 ((q i).1 : Int)) ∧ w.cell? ⟨g, i * 2 + 1, none⟩ = some (.int .u64 ((q i).2 : Int)) ∧ w.frozen? ⟨W.heap.size + 1 + 1, 0, none⟩ = false ∧ w.frozen? ⟨W.heap.size + 1 + 1, 1, none⟩ = false := fun w h => by
        obtain ⟨b, off, e, _, c1, c0⟩ := h.row.cells i (by omega)
        injection e with e; injection e with e1 e2; subst e1; subst e2
        rw [HE.out i hlt, Nat.zero_add] at c1 c0
        exact ⟨h.t.hi, h.t.lo, c1, c0, h.t.fhi, h.t.flo⟩
      have HF1 := hidF F1
      clear F1
      go_upto_region 6 with fail
      obtain ⟨x1, x0, y1, y0, t1, t0⟩ := HF1.out _ HK.out
      go_region_with (go_at_call 16; refine (PW.out.go _).mono ?_; rintro e w5 ⟨rfl, hb5⟩; have K5 : Hid (Tq W w5 (s i) g es) := Tq.below (by first | exact HK.out | exact HK.out.drew) hb5; clear hb5 x1 x0 y1 y0 t1 t0; obtain ⟨x1, x0, y1, y0, t1, t0⟩ := HF1.out _ K5.out)
      all_goals
        go_wp2
        exact ⟨⟨i + 1, hlt, by go_num, K5.out.put _⟩, by simp [intOf]; omega⟩
    · obtain rfl : i = N := by omega
      obtain ⟨⟨x1, x0⟩, f1, f0⟩ := HK.out.r
      obtain ⟨⟨y1, y0⟩, _, _⟩ := HK.out.t
      have HB := hidF HK.out.d
      clear HK
      go_wp2
      refine bodyPost_ret (v := .agg #[.int .u64 ((s i).1 : Int), .int .u64 ((s i).2 : Int)]) (by simp [results, Try.results24, go_sem, *]) rfl ⟨rfl, ?_⟩
      exact (HB.out.setCell (by simp) _).setCell (by simp) _
end Go.Proofs.Ytakaconhoodigaa

/- The contract of the law's awake over the seat's translation. -/
namespace Go.Proofs.Ytakaconhoodigaa
open Go.RowKit
open Cb
open Tw (pm)

def two1 : Ek 1 := ⟨(0, 2), ⟨by decide, by decide⟩, (ofB_iff 1 0 2 (by decide)).2 (Or.inr ⟨rfl, by decide⟩)⟩
theorem pm22 : pm (0, 2) (0, 2) = (0, 3) := by decide +kernel
theorem pm23 : pm (0, 2) (0, 3) = (0, 1) := by decide +kernel
theorem cj0 : (cj 1 1 (by decide) two1 0).1 = (0, 2) := rfl
theorem cj1 : (cj 1 1 (by decide) two1 1).1 = (0, 3) := pm22
theorem cjs2 : (cjs 1 1 (by decide) two1 2) = [cj 1 1 (by decide) two1 0, cj 1 1 (by decide) two1 1] := rfl
theorem tr2 : trl (cjs 1 1 (by decide) two1 2) = (0, 1) := by
  rw [cjs2]; unfold trl; simp only [List.foldl_cons, List.foldl_nil, cj0, cj1]; rfl
theorem nr2 : nrl (cjs 1 1 (by decide) two1 2) = (0, 1) := by
  rw [cjs2]; unfold nrl; simp only [List.foldl_cons, List.foldl_nil, cj0, cj1]; rw [one_pm (show lt2 (0, 2) from ⟨by decide, by decide⟩), pm23]
theorem pm10 : pm (0, 1) (0, 2) = (0, 2) := one_pm ⟨by decide, by decide⟩
theorem pm13 : pm (0, 1) (0, 3) = (0, 3) := one_pm ⟨by decide, by decide⟩
theorem tms1 : tms [(0, 1)] (0, 2) = [(0, 2), (0, 1)] := by
  simp only [tms, tmE, pvE, el, List.length_cons, List.length_nil, List.range_succ, List.range_zero, List.nil_append, List.cons_append, List.map_cons, List.map_nil, List.getD_cons_zero, List.getD_cons_succ, List.getD_nil, pm10, zero_pm, Nat.zero_add, if_true, Nat.one_ne_zero, if_false, Nat.sub_self]
  rfl
theorem tms2 : tms [(0, 2), (0, 1)] (0, 3) = [(0, 1), (0, 1), (0, 1)] := by
  have h1 : el [((0 : Nat), 2), (0, 1)] 0 = (0, 2) := rfl
  have h2 : el [((0 : Nat), 2), (0, 1)] 1 = (0, 1) := rfl
  have h3 : el [((0 : Nat), 2), (0, 1)] 2 = (0, 0) := rfl
  show [tmE _ _ 0, tmE _ _ 1, tmE _ _ 2] = _
  unfold tmE
  rw [h1, h2, h3, pm23, pm13, zero_pm]
  rfl
theorem cfl2 : cfl (cjs 1 1 (by decide) two1 2) = List.replicate 3 (0, 1) := by
  rw [cjs2]; unfold cfl; simp only [List.foldl_cons, List.foldl_nil, cj0, cj1]; rw [tms1, tms2]; rfl
set_option maxRecDepth 100000 in
set_option maxHeartbeats 4000000 in
theorem awake33 : Ret 12 #[] (.bool true) := by
  intro W
  have HT := hidF (trace_ok 1 0 (by decide) (by decide) two1)
  rw [show (2 : Nat) ^ 0 = 1 from rfl, show (2 : Nat) ^ (1 - 0) = 2 from rfl, tr2] at HT
  have HN := hidF (norm_ok 1 0 (by decide) (by decide) two1)
  rw [show (2 : Nat) ^ 0 = 1 from rfl, show (2 : Nat) ^ (1 - 0) = 2 from rfl, nr2] at HN
  have hl : lvl 0 2 = 1 := by decide
  have HL := hidF (fun w => least_ones 1 (by decide) (0, 2) two1.2.1 two1.2.2 1 (fun x => x.2.2) (cjs 1 1 (by decide) two1 2) 3 rfl (by decide) cfl2 (fun v b1 b2 b3 h => conj1_ok (3 - 1) (by decide) b1 b2 b3 1 0 1 1 2 (by decide) (by decide) rfl rfl rfl two1 v (by rw [show lvl (0, 2).1 (0, 2).2 = ((1 : Nat) : Int) from hl] at h; exact h)) w)
  have HO := hidF one_any
  unfold two1 at HT HN
  dsimp only at HT HN HL
  clear hl
  go_enter Try.func12, Try.ntmps12
  go_wp2_with (first
    | (go_at_call 30; refine (HL.out _).mono ?_; rintro e w1 ⟨u, rfl, hu, hb1⟩; have K1 := hidF (And.intro hu hb1); clear hu hb1)
    | (go_at_call 18; refine (HT.out.go _).mono ?_; rintro e w2 ⟨rfl, hb2⟩; have K2 := hidF (And.intro (fun i hi => cellB hb2 (K1.out.1 i hi)) (K1.out.2.trans (hb2.mono K1.out.2.size))); clear hb2 K1 HT)
    | (go_at_call 19; refine (HN.out.go _).mono ?_; rintro e w4 ⟨rfl, hb4⟩; have K4 := hidF (And.intro (fun i hi => cellB hb4 (K3.out.1 i hi)) (K3.out.2.trans (hb4.mono K3.out.2.size))); clear hb4 K3 HN)
    | (go_at_call 35; refine (HO.out _).mono ?_; rintro e w3 ⟨rfl, hb3⟩; have K3 := hidF (And.intro (fun i hi => cellB hb3 (K2.out.1 i hi)) (K2.out.2.trans (hb3.mono K2.out.2.size))); clear hb3 K2)
    | (go_at_call 35; refine (HO.out _).mono ?_; rintro e w5 ⟨rfl, hb5⟩; have K5 := hidF (And.intro (fun i hi => cellB hb5 (K4.out.1 i hi)) (K4.out.2.trans (hb5.mono K4.out.2.size))); clear hb5 K4; have u0 := K5.out.1 0 (by decide); have u1 := K5.out.1 1 (by decide); have u2 := K5.out.1 2 (by decide)))
  go_ret
  exact ⟨rfl, K5.out.2⟩
end Go.Proofs.Ytakaconhoodigaa
