/- Signs at two points: carries with the weights of both: no Go in sight. -/
import Derived.Test.YtejoombhcnldmaaTuR
import Derived.Test.YtejoombhcnldmaaPTuH
namespace Go.Proofs.Ytejoombhcnldmaa
open Go.RowKit
open Cb
open Tw (pm)

theorem pm_swap (a b c : Nat × Nat) : pm a (pm b c) = pm (pm a c) b := by rw [Tw.pm_comm' b c, Tw.pm_assoc']
/-- What next makes at two elements is the sum over both sides of the one. -/
theorem acm_two_l (sg d : Nat) (hsg : sg < 2) (hd : d < 2) (c f t : Nat → Nat × Nat) : acm sg c f t 4 d = xa (pm (st2 false sg 0 d c t) (f 0)) (pm (st2 false sg 1 d c t) (f 1)) := by
  obtain rfl | rfl : sg = 0 ∨ sg = 1 := by omega
  all_goals
    obtain rfl | rfl : d = 0 ∨ d = 1 := by omega
    all_goals
      simp only [acm, st2]
      simp [pm_swap (c 0), pm_swap (c 1), xa_pm, zero_pm, zero_xa, xa_assoc, xa_left, xa_comm]
theorem acm_two_r (sg d : Nat) (hsg : sg < 2) (hd : d < 2) (c f t : Nat → Nat × Nat) : acm sg c t f 4 d = xa (pm (st2 true sg 0 d c t) (f 0)) (pm (st2 true sg 1 d c t) (f 1)) := by
  obtain rfl | rfl : sg = 0 ∨ sg = 1 := by omega
  all_goals
    obtain rfl | rfl : d = 0 ∨ d = 1 := by omega
    all_goals
      simp only [acm, st2]
      simp [← Tw.pm_assoc', xa_pm, zero_pm, zero_xa, xa_assoc, xa_comm]
/-- Carries go over sums. -/
theorem st2_sum (rt : Bool) (sg b d n : Nat) (cc : Nat → Nat → Nat × Nat) (w : Nat → Nat × Nat) (t : Nat → Nat × Nat) : st2 rt sg b d (fun c => xs n fun y => pm (cc y c) (w y)) t = xs n fun y => pm (st2 rt sg b d (cc y) t) (w y) := by
  have h1 : ∀ a i, pm (xs n fun y => pm (cc y a) (w y)) (t i) = xs n fun y => pm (pm (cc y a) (t i)) (w y) := fun a i => by
    rw [xs_pm]
    exact xs_congr _ fun y _ => by rw [Tw.pm_assoc', Tw.pm_comm' (w y) (t i), ← Tw.pm_assoc']
  have h2 : ∀ a i a' i', xa (pm (xs n fun y => pm (cc y a) (w y)) (t i)) (pm (xs n fun y => pm (cc y a') (w y)) (t i')) = xs n fun y => pm (xa (pm (cc y a) (t i)) (pm (cc y a') (t i'))) (w y) := fun a i a' i' => by
    rw [h1, h1, ← xs_two]
    exact xs_congr _ fun y _ => by rw [xa_pm]
  have h3 : (0, 0) = xs n fun y => pm (0, 0) (w y) := (xs_none n fun y _ => zero_pm _).symm
  cases rt <;> rcases sg with _ | sg <;> rcases b with _ | b <;> rcases d with _ | d <;> simp only [st2] <;> first | rw [h2 0 0 1 1] | rw [h2 1 0 0 1] | rw [h1 0 0] | rw [h1 0 1] | rw [h1 1 0] | rw [h1 1 1] | exact h3
/-- The carries at two points. -/
def cy (rt : Bool) (p r : List (Nat × Nat)) (s c : Nat) : Nat × Nat := xs (2 ^ p.length) fun y => pm (cr rt p s c y) (wt r y)
theorem cy_step (rt : Bool) (p r : List (Nat × Nat)) (e h : Nat × Nat) (hl : p.length = r.length) (s d sg : Nat) (hd : d < 2) (hs : s / 2 ^ p.length % 2 = sg) :
    cy rt (p ++ [e]) (r ++ [h]) s d = xa (pm (st2 rt sg 0 d (cy rt p r s) (fac e)) (fac h 0)) (pm (st2 rt sg 1 d (cy rt p r s) (fac e)) (fac h 1)) := by
  unfold cy
  rw [show (p ++ [e]).length = p.length + 1 by simp, show 2 ^ (p.length + 1) = 2 ^ p.length + 2 ^ p.length by rw [← Nat.two_mul, ← Nat.pow_succ'], xs_add]
  have half : ∀ b, b < 2 → xs (2 ^ p.length) (fun y => pm (cr rt (p ++ [e]) s d (y + 2 ^ p.length * b)) (wt (r ++ [h]) (y + 2 ^ p.length * b))) = pm (st2 rt sg b d (fun c => xs (2 ^ p.length) fun y => pm (cr rt p s c y) (wt r y)) (fac e)) (fac h b) := fun b hb => by
    rw [st2_sum rt sg b d (2 ^ p.length) (fun y c => cr rt p s c y) (wt r) (fac e), xs_pm]
    refine xs_congr _ fun y hy => ?_
    rw [cr_step rt p e s d b y sg hd hb hs hy, show (2 : Nat) ^ p.length = 2 ^ r.length by rw [hl], wt_more r h (by rw [← hl]; exact hy)]
    have hfac : fac h b = fac h b := rfl
    rw [← Tw.pm_assoc']
  have h0 := half 0 (by decide)
  have h1 := half 1 (by decide)
  rw [show (fun y => pm (cr rt (p ++ [e]) s d (y + 2 ^ p.length * 0)) (wt (r ++ [h]) (y + 2 ^ p.length * 0))) = fun y => pm (cr rt (p ++ [e]) s d y) (wt (r ++ [h]) y) by funext y; rw [Nat.mul_zero, Nat.add_zero]] at h0
  rw [show (fun y => pm (cr rt (p ++ [e]) s d (y + 2 ^ p.length * 1)) (wt (r ++ [h]) (y + 2 ^ p.length * 1))) = fun y => pm (cr rt (p ++ [e]) s d (2 ^ p.length + y)) (wt (r ++ [h]) (2 ^ p.length + y)) by funext y; rw [Nat.mul_one, Nat.add_comm]] at h1
  rw [h0, h1]
/-- What next makes of the carries at two points. -/
theorem cy_next (k : Int) (p r : List (Nat × Nat)) (e h : Nat × Nat) (hl : p.length = r.length) (s d sg : Nat) (hd : d < 2) (hs : s / 2 ^ p.length % 2 = sg) :
    cy (decide (k = 2)) (p ++ [e]) (r ++ [h]) s d = if k = 2 then acm sg (cy true p r s) (fac e) (fac h) 4 d else acm sg (cy false p r s) (fac h) (fac e) 4 d := by
  have hsg : sg < 2 := by rw [← hs]; exact Nat.mod_lt _ (by decide)
  rw [cy_step (decide (k = 2)) p r e h hl s d sg hd hs]
  by_cases hk : k = 2
  · rw [if_pos hk, decide_eq_true hk, acm_two_r sg d hsg hd]
  · rw [if_neg hk, decide_eq_false hk, acm_two_l sg d hsg hd]
/-- The sign at two points. -/
def sgn2 (k : Int) (p r : List (Nat × Nat)) (s : Nat) : Nat × Nat := if k = 3 then xa (cy false p r s 0) (cy false p r s 1) else cy (decide (k = 2)) p r s 0
theorem sgn2_sum (k : Int) (p r : List (Nat × Nat)) (s : Nat) : sgn2 k p r s = xs (2 ^ p.length) fun y => pm (sgn k p s y) (wt r y) := by
  unfold sgn2 sgn cy
  by_cases hk : k = 3
  · rw [if_pos hk, ← xs_two]
    exact xs_congr _ fun y _ => by rw [if_pos hk, xa_pm]
  · rw [if_neg hk]
    exact xs_congr _ fun y _ => by rw [if_neg hk]
end Go.Proofs.Ytejoombhcnldmaa

/- Contracts of turn.hindrance (of two points, or where it is no turn) and of turn.At over the seat's translation. -/
namespace Go.Proofs.Ytejoombhcnldmaa
open Go.RowKit
open Cb
open Tw (pm)

theorem nxt2_ok {m : Nat} (hm : m < 8) (k : Int) (sg : Nat) (hsg : sg < 2) (C : (Nat × Nat) × (Nat × Nat)) (hC : (lt2 C.1 ∧ ofE m C.1) ∧ lt2 C.2 ∧ ofE m C.2) (x y : Nat × Nat) (hx : lt2 x ∧ ofE m x) (hy : lt2 y ∧ ofE m y) :
    Ret 66 #[ag2 (cf C), .int .i64 (m : Int), .int .i64 k, .int .i64 (sg : Int), ag2 (sd x), ag2 (sd y)] (ag2 (if k = 2 then acm sg (cf C) (sd x) (sd y) 4 else acm sg (cf C) (sd y) (sd x) 4)) := by
  have h1 : ∀ i, lt2 (cf C i) ∧ ofE m (cf C i) := fun i => by unfold cf; split; exact hC.1; exact hC.2
  have h2 : ∀ i, lt2 (sd x i) ∧ ofE m (sd x i) := fun i => ⟨lt_fac hx.1 i, of_fac hm hx.2 i⟩
  have h3 : ∀ i, lt2 (sd y i) ∧ ofE m (sd y i) := fun i => ⟨lt_fac hy.1 i, of_fac hm hy.2 i⟩
  by_cases hk : k = 2
  · rw [if_pos hk]
    subst hk
    exact tnext_r m sg hsg (cf C) (sd x) (sd y) h1 h2 h3 hm
  · rw [if_neg hk]
    exact tnext_l m k sg hk hsg (cf C) (sd x) (sd y) h1 h2 h3 hm
/-- Where it is no turn. -/
theorem thind_no (l k v s : Int) (hf : ftB k v s = false) (a : Option Addr) (n c : Nat) : Ret 63 #[.int .i64 l, .int .i64 k, .int .i64 v, .int .i64 s, .slice a n c] (.int .i64 1) := by
  intro W
  have HL := Hid.mkT (tlevel l)
  have HF := Hid.mkT (tfits k v s)
  rw [hf] at HF
  clear hf
  by_cases hl : 0 ≤ l ∧ l ≤ 7
  · rw [decide_eq_true hl] at HL
    clear hl
    go_enter Try.func63, Try.ntmps63
    go_wp2_with (first | (go_at_call 83; refine (HL.out.go _).mono ?_; rintro e w1 ⟨rfl, hb1⟩; have D1 : Hid (Below W.heap.size W w1) := hb1; clear hb1) | (go_at_call 40; refine (HF.out.go _).mono ?_; rintro e w2 ⟨rfl, hb2⟩; have D2 : Hid (Below W.heap.size W w2) := D1.out.trans (hb2.mono D1.out.size); clear hb2 D1))
    go_ret
    exact ⟨rfl, D2.out⟩
  · rw [decide_eq_false hl] at HL
    clear hl HF
    go_enter Try.func63, Try.ntmps63
    go_wp2_with (go_at_call 83; refine (HL.out.go _).mono ?_; rintro e w1 ⟨rfl, hb1⟩)
    go_ret
    exact ⟨rfl, hb1⟩
/-- What hinders a turn from having a sign at two points. -/
def hd2 (l : Int) (q : Nat) (p r : List (Nat × Nat)) : Int := if 0 ≤ l ∧ l ≤ 7 then (if p.length = q then (if r.length = q then (if (p.all fun e => ofB l (e.1 : Int) (e.2 : Int)) = true then (if (r.all fun e => ofB l (e.1 : Int) (e.2 : Int)) = true then 0 else 5) else 5) else 6) else 6) else 1
set_option maxHeartbeats 4000000 in
set_option maxRecDepth 100000 in
theorem thind2 (l k : Int) (q t : Nat) (hf : ftB k (q : Int) (t : Int) = true) (b : Nat) (a c : Option Addr) (cap cap2 : Nat) (p r : List (Nat × Nat)) (hp : ltE p) (hq : ltE r) (h10 : p.length ≤ 1000) (h11 : r.length ≤ 1000) (W : World) (hr : ERow W a p) (hs : ERow W c r) (hb : W.cell? ⟨b, 0, none⟩ = some (.slice a p.length cap)) (hc : W.cell? ⟨b, 1, none⟩ = some (.slice c r.length cap2)) :
    Calls Try.prog 63 #[.int .i64 l, .int .i64 k, .int .i64 (q : Int), .int .i64 (t : Int), .slice (some ⟨b, 0, none⟩) 2 2] W fun e w' => e = .returned (.int .i64 (hd2 l q p r)) ∧ Below W.heap.size W w' := by
  have HL := Hid.mkT (tlevel l)
  have HF := Hid.mkT (tfits k (q : Int) (t : Int))
  rw [hf] at HF
  obtain ⟨z, hz⟩ : ∃ z, z = hd2 l q p r := ⟨_, rfl⟩
  rw [← hz]
  by_cases hl : 0 ≤ l ∧ l ≤ 7
  · rw [decide_eq_true hl] at HL
    unfold hd2 at hz
    rw [if_pos hl] at hz
    have HA : Hid (∀ w, Below W.heap.size W w → Calls Try.prog 84 #[.int .i64 l, .slice a p.length cap] w fun e w' => e = .returned (.bool (p.all fun e => ofB l (e.1 : Int) (e.2 : Int))) ∧ Below w.heap.size w w') := fun w hb => tall l a cap p hp w (hr.below hb) (by omega)
    have HA2 : Hid (∀ w, Below W.heap.size W w → Calls Try.prog 84 #[.int .i64 l, .slice c r.length cap2] w fun e w' => e = .returned (.bool (r.all fun e => ofB l (e.1 : Int) (e.2 : Int))) ∧ Below w.heap.size w w') := fun w hb => tall l c cap2 r hq w (hs.below hb) (by omega)
    have HB : Hid (W.cell? ⟨b, 0, none⟩ = some (.slice a p.length cap) ∧ W.cell? ⟨b, 1, none⟩ = some (.slice c r.length cap2)) := ⟨hb, hc⟩
    generalize (p.all fun e => ofB l (e.1 : Int) (e.2 : Int)) = x at *
    generalize (r.all fun e => ofB l (e.1 : Int) (e.2 : Int)) = y at *
    have HZ := Hid.mkT hz
    clear hf hr hs hp hq hl hb hc hz
    by_cases hq1 : p.length = q
    · rw [if_pos hq1] at HZ
      have e1 : ((p.length : Int) != (q : Int)) = false := by simp; omega
      by_cases hq2 : r.length = q
      · rw [if_pos hq2] at HZ
        have e2 : ((r.length : Int) != (q : Int)) = false := by simp; omega
        clear hq1 hq2
        go_enter Try.func63, Try.ntmps63
        go_wp2_with (first | (go_at_call 83; refine (HL.out.go _).mono ?_; rintro e w1 ⟨rfl, hb1⟩; have D1 : Hid (Below W.heap.size W w1) := hb1; clear hb1) | (go_at_call 40; refine (HF.out.go _).mono ?_; rintro e w2 ⟨rfl, hb2⟩; have D2 : Hid (Below W.heap.size W w2) := D1.out.trans (hb2.mono D1.out.size); clear hb2 D1))
        have c0 := keepc D2.out HB.out.1
        have c1 := keepc D2.out HB.out.2
        refine wp_loop_rounds 3 ?_
        rw [rounds_succ]
        go_wp2_with fail
        rw [rounds_succ]
        go_wp2_with fail
        rw [rounds_succ]
        go_wp2_with fail
        refine wp_loop_rounds 3 ?_
        rw [rounds_succ]
        cases x
        · rw [if_neg (by decide)] at HZ
          go_wp2_with (go_at_call 84; refine (HA.out _ D2.out).mono ?_; rintro e w3 ⟨rfl, hb3⟩)
          go_ret
          exact ⟨by rw [HZ.out]; rfl, D2.out.trans (hb3.mono D2.out.size)⟩
        · rw [if_pos rfl] at HZ
          go_wp2_with (go_at_call 84; refine (HA.out _ D2.out).mono ?_; rintro e w3 ⟨rfl, hb3⟩; have D3 : Hid (Below W.heap.size W w3) := D2.out.trans (hb3.mono D2.out.size); have d1 := keepc D3.out HB.out.2; clear hb3 c0 c1)
          rw [rounds_succ]
          cases y
          · rw [if_neg (by decide)] at HZ
            go_wp2_with (go_at_call 84; refine (HA2.out _ D3.out).mono ?_; rintro e w4 ⟨rfl, hb4⟩)
            go_ret
            exact ⟨by rw [HZ.out]; rfl, D3.out.trans (hb4.mono D3.out.size)⟩
          · rw [if_pos rfl] at HZ
            go_wp2_with (go_at_call 84; refine (HA2.out _ D3.out).mono ?_; rintro e w4 ⟨rfl, hb4⟩; have D4 : Hid (Below W.heap.size W w4) := D3.out.trans (hb4.mono D3.out.size); clear hb4)
            rw [rounds_succ]
            go_wp2
            go_ret
            exact ⟨by rw [HZ.out]; rfl, D4.out⟩
      · rw [if_neg hq2] at HZ
        have e2 : ((r.length : Int) != (q : Int)) = true := by simp; omega
        clear hq1 hq2
        go_enter Try.func63, Try.ntmps63
        go_wp2_with (first | (go_at_call 83; refine (HL.out.go _).mono ?_; rintro e w1 ⟨rfl, hb1⟩; have D1 : Hid (Below W.heap.size W w1) := hb1; clear hb1) | (go_at_call 40; refine (HF.out.go _).mono ?_; rintro e w2 ⟨rfl, hb2⟩; have D2 : Hid (Below W.heap.size W w2) := D1.out.trans (hb2.mono D1.out.size); clear hb2 D1))
        have c0 := keepc D2.out HB.out.1
        have c1 := keepc D2.out HB.out.2
        refine wp_loop_rounds 2 ?_
        rw [rounds_succ]
        go_wp2_with fail
        rw [rounds_succ]
        go_wp2
        go_ret
        exact ⟨by rw [HZ.out]; rfl, D2.out⟩
    · rw [if_neg hq1] at HZ
      have e1 : ((p.length : Int) != (q : Int)) = true := by simp; omega
      clear hq1
      go_enter Try.func63, Try.ntmps63
      go_wp2_with (first | (go_at_call 83; refine (HL.out.go _).mono ?_; rintro e w1 ⟨rfl, hb1⟩; have D1 : Hid (Below W.heap.size W w1) := hb1; clear hb1) | (go_at_call 40; refine (HF.out.go _).mono ?_; rintro e w2 ⟨rfl, hb2⟩; have D2 : Hid (Below W.heap.size W w2) := D1.out.trans (hb2.mono D1.out.size); clear hb2 D1))
      have c0 := keepc D2.out HB.out.1
      refine wp_loop_rounds 1 ?_
      rw [rounds_succ]
      go_wp2
      go_ret
      exact ⟨by rw [HZ.out]; rfl, D2.out⟩
  · rw [decide_eq_false hl] at HL
    unfold hd2 at hz
    rw [if_neg hl] at hz
    subst hz
    clear hf hr hs hp hq hl hb hc HF
    go_enter Try.func63, Try.ntmps63
    go_wp2_with (go_at_call 83; refine (HL.out.go _).mono ?_; rintro e w1 ⟨rfl, hb1⟩)
    go_ret
    exact ⟨rfl, hb1⟩
end Go.Proofs.Ytejoombhcnldmaa

/- The contract of turn.At over the seat's translation. -/
namespace Go.Proofs.Ytejoombhcnldmaa
open Go.RowKit
open Cb
open Tw (pm)

theorem acm_congr (sg : Nat) {c c' : Nat → Nat × Nat} (f t : Nat → Nat × Nat) (h : ∀ b, b < 2 → c b = c' b) : ∀ m, m ≤ 4 → ∀ d, acm sg c f t m d = acm sg c' f t m d
  | 0, _, _ => rfl
  | m + 1, hm, d => by
    simp only [acm]
    rw [acm_congr sg f t h m (by omega) d, h (m / 2) (by omega)]
theorem Ew.offT {w : World} {b c h l : Nat} (e : Ew w c h l) (hn : b ≠ c) (o o' : Nat) (u v : Value) : Ew ((w.setCell ⟨b, o, none⟩ u).setCell ⟨b, o', none⟩ v) c h l := by
  obtain ⟨⟨h1, h2⟩, h3, h4⟩ := e
  have hn' : c ≠ b := fun h => hn h.symm
  exact ⟨⟨by simp [go_sem, *], by simp [go_sem, *]⟩, by simp [go_sem, *], by simp [go_sem, *]⟩
structure Ta (W w : World) (qc : Nat) (C : (Nat × Nat) × (Nat × Nat)) : Prop where
  c : E2 w qc (cf C)
  fc : F2 w qc
  r : Ew w W.heap.size 0 0
  q : W.heap.size < qc
  d : Below W.heap.size W w
theorem Ta.below {W w w' : World} {qc : Nat} {C : (Nat × Nat) × (Nat × Nat)} (h : Ta W w qc C) (hb : Below w.heap.size w w') : Ta W w' qc C := ⟨h.c.below hb, h.fc.below h.c hb, h.r.below hb, h.q, h.d.trans (hb.mono h.d.size)⟩
theorem Ta.drew {W w : World} {qc : Nat} {C : (Nat × Nat) × (Nat × Nat)} (h : Ta W w qc C) : Ta W w.drew qc C := h.below (Below.refl _ _).drew
theorem Ta.some8 {W w : World} {qc : Nat} {C : (Nat × Nat) × (Nat × Nat)} (h : Ta W w qc C) {b0 i0 b1 i1 : Nat} {x y : Nat × Nat} (e : W.cell? ⟨b0, i0, none⟩ = some (.int .u64 (x.1 : Int)) ∧ W.cell? ⟨b0, i0 + 1, none⟩ = some (.int .u64 (x.2 : Int)) ∧ W.cell? ⟨b1, i1, none⟩ = some (.int .u64 (y.1 : Int)) ∧ W.cell? ⟨b1, i1 + 1, none⟩ = some (.int .u64 (y.2 : Int))) :
    (w.cell? ⟨qc, 0, none⟩ = some (.int .u64 (C.1.1 : Int)) ∧ w.cell? ⟨qc, 1, none⟩ = some (.int .u64 (C.1.2 : Int)) ∧ w.cell? ⟨qc, 2, none⟩ = some (.int .u64 (C.2.1 : Int)) ∧ w.cell? ⟨qc, 3, none⟩ = some (.int .u64 (C.2.2 : Int))) ∧ w.cell? ⟨b0, i0, none⟩ = some (.int .u64 (x.1 : Int)) ∧ w.cell? ⟨b0, i0 + 1, none⟩ = some (.int .u64 (x.2 : Int)) ∧ w.cell? ⟨b1, i1, none⟩ = some (.int .u64 (y.1 : Int)) ∧ w.cell? ⟨b1, i1 + 1, none⟩ = some (.int .u64 (y.2 : Int)) :=
  ⟨⟨h.c.a1, h.c.a0, h.c.b1, h.c.b0⟩, keepc h.d e.1, keepc h.d e.2.1, keepc h.d e.2.2.1, keepc h.d e.2.2.2⟩
theorem E2.put4 {w : World} {q : Nat} {o : Nat → Nat × Nat} (h : E2 w q o) (g : F2 w q) (f : Nat → Nat × Nat) : E2 ((((w.setCell ⟨q, 0, none⟩ (.int .u64 ((f 0).1 : Int))).setCell ⟨q, 1, none⟩ (.int .u64 ((f 0).2 : Int))).setCell ⟨q, 2, none⟩ (.int .u64 ((f 1).1 : Int))).setCell ⟨q, 3, none⟩ (.int .u64 ((f 1).2 : Int))) q f ∧ F2 ((((w.setCell ⟨q, 0, none⟩ (.int .u64 ((f 0).1 : Int))).setCell ⟨q, 1, none⟩ (.int .u64 ((f 0).2 : Int))).setCell ⟨q, 2, none⟩ (.int .u64 ((f 1).1 : Int))).setCell ⟨q, 3, none⟩ (.int .u64 ((f 1).2 : Int))) q :=
  ⟨h.set4 f, (g.other _ _ _ _).other _ _ _ _⟩
theorem Ta.put {W w : World} {qc : Nat} {C : (Nat × Nat) × (Nat × Nat)} (h : Ta W w qc C) (R : (Nat × Nat) × (Nat × Nat)) : Ta W ((((w.setCell ⟨qc, 0, none⟩ (.int .u64 (R.1.1 : Int))).setCell ⟨qc, 1, none⟩ (.int .u64 (R.1.2 : Int))).setCell ⟨qc, 2, none⟩ (.int .u64 (R.2.1 : Int))).setCell ⟨qc, 3, none⟩ (.int .u64 (R.2.2 : Int))) qc R := by
  have hq := h.q
  have hp := h.c.put4 h.fc (cf R)
  exact ⟨hp.1, hp.2, (h.r.offT (by omega) _ _ _ _).offT (by omega) _ _ _ _, hq, (((h.d.setCell (by show _ ≤ qc; omega) _).setCell (by show _ ≤ qc; omega) _).setCell (by show _ ≤ qc; omega) _).setCell (by show _ ≤ qc; omega) _⟩
theorem Cy_of {m : Nat} (hm : m < 8) (rt : Bool) (p r : List (Nat × Nat)) (op : ofT m p) (or : ofT m r) (t c : Nat) : lt2 (cy rt p r t c) ∧ ofE m (cy rt p r t c) :=
  ⟨lt_xs (fun _ => lt_pm _ _) _, of_xs hm (f := fun y => pm (cr rt p t c y) (wt r y)) (fun y => of_pm hm (of_cr hm rt op t c y) (of_wtf hm r (0, 1) y or (ofe_one hm))) _⟩
set_option maxHeartbeats 20000000 in
set_option maxRecDepth 100000 in
theorem tat_ok (m : Nat) (hm : m < 8) (k : Int) (q t n : Nat) (hq : q ≤ 6) (hn : pw (q : Int) = n) (hf : ftB k (q : Int) (t : Int) = true) (a c : Option Addr) (cap cap2 : Nat) (p r : List (Nat × Nat)) (hp : ltE p) (hr : ltE r) (hl : p.length = q) (hl2 : r.length = q) (op : ofT m p) (or : ofT m r) (W : World) (ha : ERow W a p) (hc : ERow W c r) :
    Calls Try.prog 48 #[.int .i64 (m : Int), .int .i64 k, .int .i64 (q : Int), .int .i64 (t : Int), .slice a q cap, .slice c q cap2] W fun e w' => e = .returned (.tuple #[.agg #[.int .u64 ((sgn2 k p r t).1 : Int), .int .u64 ((sgn2 k p r t).2 : Int)], .int .i64 0]) ∧ Below W.heap.size W w' := by
  have hn1 := pw_le (w := (q : Int)) (by omega)
  rw [hn] at hn1
  obtain ⟨_, ⟨_, htn⟩, _⟩ := ftB_true hf
  rw [hn] at htn
  have HH : Hid (∀ w b, Below W.heap.size W w → w.cell? ⟨b, 0, none⟩ = some (.slice a q cap) → w.cell? ⟨b, 1, none⟩ = some (.slice c q cap2) → Calls Try.prog 63 #[.int .i64 (m : Int), .int .i64 k, .int .i64 (q : Int), .int .i64 (t : Int), .slice (some ⟨b, 0, none⟩) 2 2] w fun e w' => e = .returned (.int .i64 0) ∧ Below w.heap.size w w') := fun w b hb hc0 hc1 => by
    have := thind2 (m : Int) k q t hf b a c cap cap2 p r hp hr (by omega) (by omega) w (ha.below hb) (hc.below hb) (by rw [hl]; exact hc0) (by rw [hl2]; exact hc1)
    rw [show hd2 (m : Int) q p r = 0 by unfold hd2; rw [if_pos (by omega), if_pos hl, if_pos hl2, if_pos (List.all_eq_true.2 (fun e he => op e he)), if_pos (List.all_eq_true.2 (fun e he => or e he))]] at this
    exact this
  have H0 := Hid.mkT tstart
  obtain ⟨zz, hzz⟩ : ∃ z, z = sgn2 k p r t := ⟨_, rfl⟩
  rw [← hzz]
  have HZZ : Hid (zz = sgn2 k p r t) := hzz
  obtain ⟨rt, hrt⟩ : ∃ rt, rt = decide (k = 2) := ⟨_, rfl⟩
  have HRT : Hid (rt = decide (k = 2)) := hrt
  have HP : Hid (ltE p ∧ ltE r ∧ p.length = q ∧ r.length = q ∧ ofT m p ∧ ofT m r ∧ ERow W a p ∧ ERow W c r) := ⟨hp, hr, hl, hl2, op, or, ha, hc⟩
  clear hp hr hl hl2 op or ha hc hf hn hzz hrt
  go_enter Try.func48, Try.ntmps48
  go_wp2_with (first
    | (go_at_call 63; refine (HH.out _ _ (by go_grown) (by simp [go_sem]) (by simp [go_sem])).mono ?_; rintro e w1 ⟨rfl, hb1⟩; have D1 : Hid (Ew w1 W.heap.size 0 0 ∧ Below W.heap.size W w1) := ⟨Ew.below ⟨⟨by simp [go_sem], by simp [go_sem]⟩, by simp [go_sem], by simp [go_sem]⟩ hb1, (((Below.refl _ _).alloc (Nat.le_refl _) _).alloc (by simp) _).trans (hb1.mono (by simp; omega))⟩; clear hb1)
    | (go_at_call 64; refine (H0.out.go _).mono ?_; rintro e w2 ⟨rfl, hb2⟩; have D2 : Hid (Ew w2 W.heap.size 0 0 ∧ Below W.heap.size W w2) := ⟨D1.out.1.below hb2, D1.out.2.trans (hb2.mono D1.out.2.size)⟩; clear hb2 D1))
  have hqc : W.heap.size < w2.heap.size := D2.out.1.toEl.lt
  have K0 : Hid (Ta W (w2.alloc (Obj.cells #[.int .u64 0, .int .u64 1, .int .u64 0, .int .u64 0] 100)) w2.heap.size ((0, 1), (0, 0))) := ⟨E2.new w2 (cf ((0, 1), (0, 0))) _, F2.new w2 (cf ((0, 1), (0, 0))) _, D2.out.1.below ((Below.refl _ _).alloc (Nat.le_refl _) _), hqc, D2.out.2.alloc D2.out.2.size _⟩
  clear D2 HH H0 hqc
  generalize w2.heap.size = qc at *
  go_loopw [31] (fun u wr => ∃ (j : Nat) (C : (Nat × Nat) × (Nat × Nat)), j ≤ q ∧ u = .int .i64 j ∧ Hid (C = (cy rt (p.take j) (r.take j) t 0, cy rt (p.take j) (r.take j) t 1)) ∧ Hid (Ta W wr qc C)) (fun u _ => q - (intOf u).toNat)
  case atStart =>
    refine ⟨0, ((0, 1), (0, 0)), Nat.zero_le _, rfl, ?_, K0⟩
    show _ = _
    have h := cr_start rt t
    simp [cy, xs, h.1, h.2, zero_pm, zero_xa, wt, wtf, pm_one lt_one]
  case round =>
    obtain ⟨j, C, hj, rfl, HC, K⟩ := hrel
    clear K0
    by_cases hlt : j < q
    · obtain ⟨b0, off, rfl, hb0, d1, d0⟩ := HP.out.2.2.2.2.2.2.1.cells j (by rw [HP.out.2.2.1]; exact hlt)
      obtain ⟨b1, off1, rfl, hb1, g1, g0⟩ := HP.out.2.2.2.2.2.2.2.cells j (by rw [HP.out.2.2.2.1]; exact hlt)
      have HCE : Hid (W.cell? ⟨b0, off + j * 2, none⟩ = some (.int .u64 ((p.getD j (0, 0)).1 : Int)) ∧ W.cell? ⟨b0, off + j * 2 + 1, none⟩ = some (.int .u64 ((p.getD j (0, 0)).2 : Int)) ∧ W.cell? ⟨b1, off1 + j * 2, none⟩ = some (.int .u64 ((r.getD j (0, 0)).1 : Int)) ∧ W.cell? ⟨b1, off1 + j * 2 + 1, none⟩ = some (.int .u64 ((r.getD j (0, 0)).2 : Int))) := ⟨d1, d0, g1, g0⟩
      have hx : lt2 (p.getD j (0, 0)) ∧ ofE m (p.getD j (0, 0)) := ⟨HP.out.1.at j, HP.out.2.2.2.2.1.el hm j⟩
      have hy : lt2 (r.getD j (0, 0)) ∧ ofE m (r.getD j (0, 0)) := ⟨HP.out.2.1.at j, HP.out.2.2.2.2.2.1.el hm j⟩
      have HTP : Hid (p.take (j + 1) = p.take j ++ [p.getD j (0, 0)] ∧ r.take (j + 1) = r.take j ++ [r.getD j (0, 0)]) := ⟨take_sn p j (by rw [HP.out.2.2.1]; exact hlt), take_sn r j (by rw [HP.out.2.2.2.1]; exact hlt)⟩
      have hC2 : (lt2 C.1 ∧ ofE m C.1) ∧ lt2 C.2 ∧ ofE m C.2 := by
        rw [HC.out]
        exact ⟨Cy_of hm rt _ _ (fun e he => HP.out.2.2.2.2.1 e (List.mem_of_mem_take he)) (fun e he => HP.out.2.2.2.2.2.1 e (List.mem_of_mem_take he)) t 0, Cy_of hm rt _ _ (fun e he => HP.out.2.2.2.2.1 e (List.mem_of_mem_take he)) (fun e he => HP.out.2.2.2.2.2.1 e (List.mem_of_mem_take he)) t 1⟩
      obtain ⟨sg, hsg⟩ : ∃ sg, sg = t / 2 ^ j % 2 := ⟨_, rfl⟩
      have hsg2 : sg < 2 := by rw [hsg]; exact Nat.mod_lt _ (by decide)
      have HSG : Hid (sg = t / 2 ^ j % 2) := hsg
      have j1 : (j : Int) < (q : Int) := by omega
      have j0 : (0 : Int) ≤ (j : Int) := by omega
      obtain ⟨tj, htj⟩ : ∃ tj, tj = t / 2 ^ j := ⟨_, rfl⟩
      have htj2 : tj < 1000 := by rw [htj]; exact Nat.lt_of_le_of_lt (Nat.div_le_self _ _) (by omega)
      have e1 : (t : Int) / 2 ^ j = (tj : Int) := by rw [htj, show (2 : Int) ^ j = ((2 ^ j : Nat) : Int) by simp]; simp
      have e2 : bits .and .i64 (tj : Int) 1 = (sg : Int) := by rw [nand tj htj2, htj, HSG.out]
      clear d1 d0 g1 g0 hb0 hb1 hsg htj
      generalize p.getD j (0, 0) = x at *
      generalize r.getD j (0, 0) = y at *
      have SX := Hid.mkT (tsides x hx.1)
      have SY := Hid.mkT (tsides y hy.1)
      obtain ⟨R, hR⟩ : ∃ R : (Nat × Nat) × (Nat × Nat), R = ((if k = 2 then acm sg (cf C) (sd x) (sd y) 4 else acm sg (cf C) (sd y) (sd x) 4) 0, (if k = 2 then acm sg (cf C) (sd x) (sd y) 4 else acm sg (cf C) (sd y) (sd x) 4) 1) := ⟨_, rfl⟩
      have NX0 := nxt2_ok hm k sg hsg2 C hC2 x y hx hy
      have HR : Hid (R = (cy rt (p.take (j + 1)) (r.take (j + 1)) t 0, cy rt (p.take (j + 1)) (r.take (j + 1)) t 1)) := by
        show _ = _
        have hlen : (p.take j).length = j := by rw [List.length_take, HP.out.2.2.1]; omega
        have hlen2 : (p.take j).length = (r.take j).length := by rw [hlen, List.length_take, HP.out.2.2.2.1]; omega
        have hc0 : ∀ d, d < 2 → cy rt (p.take (j + 1)) (r.take (j + 1)) t d = (if k = 2 then acm sg (cf C) (sd x) (sd y) 4 else acm sg (cf C) (sd y) (sd x) 4) d := fun d hd => by
          rw [HTP.out.1, HTP.out.2, HRT.out, cy_next k (p.take j) (r.take j) x y hlen2 t d sg hd (by rw [hlen, HSG.out])]
          have ec : ∀ b, b < 2 → cf C b = cy rt (p.take j) (r.take j) t b := fun b hb => by
            rw [HC.out]
            obtain rfl | rfl : b = 0 ∨ b = 1 := by omega
            · rfl
            · rfl
          by_cases hk : k = 2
          · rw [if_pos hk, if_pos hk]
            rw [HRT.out, decide_eq_true hk] at ec
            exact acm_congr sg (sd x) (sd y) (fun b hb => (ec b hb).symm) 4 (by decide) d
          · rw [if_neg hk, if_neg hk]
            rw [HRT.out, decide_eq_false hk] at ec
            exact acm_congr sg (sd y) (sd x) (fun b hb => (ec b hb).symm) 4 (by decide) d
        rw [hR, hc0 0 (by decide), hc0 1 (by decide)]
      have NX : Hid (Ret 66 #[.agg #[.int .u64 (C.1.1 : Int), .int .u64 (C.1.2 : Int), .int .u64 (C.2.1 : Int), .int .u64 (C.2.2 : Int)], .int .i64 (m : Int), .int .i64 k, .int .i64 (sg : Int), .agg #[.int .u64 ((sd x 0).1 : Int), .int .u64 ((sd x 0).2 : Int), .int .u64 ((sd x 1).1 : Int), .int .u64 ((sd x 1).2 : Int)], .agg #[.int .u64 ((sd y 0).1 : Int), .int .u64 ((sd y 0).2 : Int), .int .u64 ((sd y 1).1 : Int), .int .u64 ((sd y 1).2 : Int)]] (.agg #[.int .u64 (R.1.1 : Int), .int .u64 (R.1.2 : Int), .int .u64 (R.2.1 : Int), .int .u64 (R.2.2 : Int)])) := by
        rw [hR]
        exact NX0
      unfold ag2 at SX SY
      clear NX0 hR hC2 hx hy
      generalize sd x = fx at *
      generalize sd y = fy at *
      go_upto_region 8 with fail
      refine wp_region_noPanic ?_
      refine wp_region_peel (S := fun w => (w.cell? ⟨qc, 0, none⟩ = some (.int .u64 (C.1.1 : Int)) ∧ w.cell? ⟨qc, 1, none⟩ = some (.int .u64 (C.1.2 : Int)) ∧ w.cell? ⟨qc, 2, none⟩ = some (.int .u64 (C.2.1 : Int)) ∧ w.cell? ⟨qc, 3, none⟩ = some (.int .u64 (C.2.2 : Int))) ∧ w.cell? ⟨b0, off + j * 2, none⟩ = some (.int .u64 (x.1 : Int)) ∧ w.cell? ⟨b0, off + j * 2 + 1, none⟩ = some (.int .u64 (x.2 : Int)) ∧ w.cell? ⟨b1, off1 + j * 2, none⟩ = some (.int .u64 (y.1 : Int)) ∧ w.cell? ⟨b1, off1 + j * 2 + 1, none⟩ = some (.int .u64 (y.2 : Int))) 18 (by kernel_rfl) rfl (by kernel_rfl) ?_ (fun hHeld => ?_)
      · exact K.out.some8 HCE.out
      refine wpAnyH_take (i := 0) (oi := _) (v := ?_) rfl (by kernel_rfl) (by kernel_rfl) (by kernel_rfl) (fun _ _ _ h => h) (Or.inl ⟨by rfl, ?_⟩) (by assumption) ?_
      rotate_left
      · ((intro w hSw; (try dsimp only at hSw); go_simp) <;> (try with_reducible rfl))
      try simp only [Act.put]
      refine wpAnyH_take (i := 1) (oi := _) (v := ?_) rfl (by kernel_rfl) (by kernel_rfl) (by kernel_rfl) (fun _ _ _ h => h) (Or.inl ⟨by rfl, ?_⟩) (by assumption) ?_
      rotate_left
      · ((intro w hSw; (try dsimp only at hSw); go_simp) <;> (try with_reducible rfl))
      try simp only [Act.put]
      refine wpAnyH_take (i := 2) (oi := _) (v := ?_) rfl (by kernel_rfl) (by kernel_rfl) (by kernel_rfl) (fun _ _ _ h => h) (Or.inl ⟨by rfl, ?_⟩) (by assumption) ?_
      rotate_left
      · ((intro w hSw; (try dsimp only at hSw); go_simp) <;> (try with_reducible rfl))
      try simp only [Act.put]
      refine wpAnyH_take (i := 3) (oi := _) (v := ?_) rfl (by kernel_rfl) (by kernel_rfl) (by kernel_rfl) (fun _ _ _ h => h) (Or.inl ⟨by rfl, ?_⟩) (by assumption) ?_
      rotate_left
      · ((intro w hSw; (try dsimp only at hSw); go_simp) <;> (try with_reducible rfl))
      try simp only [Act.put]
      refine wpAnyH_take (i := 4) (oi := _) (v := ?_) rfl (by kernel_rfl) (by kernel_rfl) (by kernel_rfl) (fun _ _ _ h => h) (Or.inl ⟨by rfl, ?_⟩) (by assumption) ?_
      rotate_left
      · ((intro w hSw; (try dsimp only at hSw); go_simp) <;> (try with_reducible rfl))
      try simp only [Act.put]
      refine wpAnyH_take (i := 5) (oi := _) (v := ?_) rfl (by kernel_rfl) (by kernel_rfl) (by kernel_rfl) (fun _ _ _ h => h) (Or.inl ⟨by rfl, ?_⟩) (by assumption) ?_
      rotate_left
      · ((intro w hSw; (try dsimp only at hSw); go_simp) <;> (try with_reducible rfl))
      try simp only [Act.put]
      refine wpAnyH_take (i := 6) (oi := _) (v := ?_) rfl (by kernel_rfl) (by kernel_rfl) (by kernel_rfl) (fun _ _ _ h => h) (Or.inl ⟨by rfl, ?_⟩) (by assumption) ?_
      rotate_left
      · ((intro w hSw; (try dsimp only at hSw); go_simp) <;> (try with_reducible rfl))
      try simp only [Act.put]
      refine wpAnyH_take (i := 7) (oi := _) (v := ?_) rfl (by kernel_rfl) (by kernel_rfl) (by kernel_rfl) (fun _ _ _ h => h) (Or.inl ⟨by rfl, ?_⟩) (by assumption) ?_
      rotate_left
      · ((intro w hSw; (try dsimp only at hSw); go_simp) <;> (try with_reducible rfl))
      try simp only [Act.put]
      refine wpAnyH_take (i := 8) (oi := _) (v := ?_) rfl (by kernel_rfl) (by kernel_rfl) (by kernel_rfl) (fun _ _ _ h => h) (Or.inl ⟨by rfl, ?_⟩) (by assumption) ?_
      rotate_left
      · ((intro w hSw; (try dsimp only at hSw); go_simp) <;> (try with_reducible rfl))
      try simp only [Act.put]
      refine wpAnyH_take (i := 9) (oi := _) (v := ?_) rfl (by kernel_rfl) (by kernel_rfl) (by kernel_rfl) (fun _ _ _ h => h) (Or.inl ⟨by rfl, ?_⟩) (by assumption) ?_
      rotate_left
      · ((intro w hSw; (try dsimp only at hSw); go_simp) <;> (try with_reducible rfl))
      try simp only [Act.put]
      refine wpAnyH_take (i := 10) (oi := _) (v := ?_) rfl (by kernel_rfl) (by kernel_rfl) (by kernel_rfl) (fun _ _ _ h => h) (Or.inl ⟨by rfl, ?_⟩) (by assumption) ?_
      rotate_left
      · ((intro w hSw; (try dsimp only at hSw); go_simp) <;> (try with_reducible rfl))
      try simp only [Act.put]
      refine wpAnyH_take (i := 12) (oi := _) (v := ?_) rfl (by kernel_rfl) (by kernel_rfl) (by kernel_rfl) (fun _ _ _ h => h) (Or.inl ⟨by rfl, ?_⟩) (by assumption) ?_
      rotate_left
      · ((intro w hSw; (try dsimp only at hSw); go_simp) <;> (try with_reducible rfl))
      try simp only [Act.put]
      refine wpAnyH_take (i := 13) (oi := _) (v := ?_) rfl (by kernel_rfl) (by kernel_rfl) (by kernel_rfl) (fun _ _ _ h => h) (Or.inl ⟨by rfl, ?_⟩) (by assumption) ?_
      rotate_left
      · ((intro w hSw; (try dsimp only at hSw); go_simp) <;> (try with_reducible rfl))
      try simp only [Act.put]
      refine wpAnyH_take (i := 14) (oi := _) (v := ?_) rfl (by kernel_rfl) (by kernel_rfl) (by kernel_rfl) (fun _ _ _ h => h) (Or.inl ⟨by rfl, ?_⟩) (by assumption) ?_
      rotate_left
      · ((intro w hSw; (try dsimp only at hSw); go_simp) <;> (try with_reducible rfl))
      try simp only [Act.put]
      refine wpAnyH_take (i := 15) (oi := _) (v := ?_) rfl (by kernel_rfl) (by kernel_rfl) (by kernel_rfl) (fun _ _ _ h => h) (Or.inl ⟨by rfl, ?_⟩) (by assumption) ?_
      rotate_left
      · ((intro w hSw; (try dsimp only at hSw); go_simp) <;> (try with_reducible rfl))
      try simp only [Act.put]
      refine wpAnyH_ready (rs := [11]) (by kernel_rfl) (by simp) ?_
      refine AllReadyH.cons (o := _) rfl (fun KK hKK => ?_) AllReadyH.nil
      go_simp
      ((go_at_call_of 65 (Value.int .u64 (x.1 : Int)); refine (SX.out.go _).mono ?_; rintro e w' ⟨rfl, hb'⟩))
      have K'' : Hid (Ta W w' qc C) := (by first | exact K.out.below hb' | exact K.out.drew.below hb')
      clear K hb'
      have K := K''
      clear K''
      refine hKK.out _ _ ?_ (fun hHeld => ?_)
      · exact K.out.some8 HCE.out
      clear hKK KK
      try simp only [Act.put]
      refine wpAnyH_ready (rs := [16]) (by kernel_rfl) (by simp) ?_
      refine AllReadyH.cons (o := _) rfl (fun KK hKK => ?_) AllReadyH.nil
      go_simp
      ((go_at_call 65; refine (SY.out.go _).mono ?_; rintro e w' ⟨rfl, hb'⟩))
      have K'' : Hid (Ta W w' qc C) := (by first | exact K.out.below hb' | exact K.out.drew.below hb')
      clear K hb'
      have K := K''
      clear K''
      refine hKK.out _ _ ?_ (fun hHeld => ?_)
      · exact K.out.some8 HCE.out
      clear hKK KK
      try simp only [Act.put]
      refine wpAnyH_ready (rs := [17]) (by kernel_rfl) (by simp) ?_
      refine AllReadyH.cons (o := _) rfl (fun KK hKK => ?_) AllReadyH.nil
      go_simp
      ((go_at_call 66; refine (NX.out.go _).mono ?_; rintro e w' ⟨rfl, hb'⟩))
      have K'' : Hid (Ta W w' qc C) := (by first | exact K.out.below hb' | exact K.out.drew.below hb')
      clear K hb'
      have K := K''
      clear K''
      refine hKK.out _ _ ?_ (fun hHeld => ?_)
      · exact K.out.some8 HCE.out
      clear hKK KK
      try simp only [Act.put]
      refine wpAnyH_done (by kernel_rfl) ?_ _
      refine peel_last rfl (fun KK hKK => ?_)
      clear hHeld
      obtain ⟨⟨k1, k2, k3, k4⟩, _, _, _, _⟩ := K.out.some8 HCE.out
      obtain ⟨y1, y2, y3, y4⟩ := K.out.fc
      go_simp
      refine hKK _ _ ?_
      refine NoPanic.normal ?_
      clear hKK KK
      clear k1 k2 k3 k4 y1 y2 y3 y4
      have K2 := Hid.mkT (K.out.put R)
      clear K
      go_wp2_with fail
      exact ⟨⟨j + 1, R, hlt, by simp, HR, K2⟩, by simp [intOf]; omega⟩
    · obtain rfl : j = q := by omega
      rw [List.take_of_length_le (by rw [HP.out.2.2.1]; exact Nat.le_refl _), List.take_of_length_le (by rw [HP.out.2.2.2.1]; exact Nat.le_refl _)] at HC
      have hlt2 : lt2 C.1 ∧ lt2 C.2 := by rw [HC.out]; exact ⟨lt_xs (fun _ => lt_pm _ _) _, lt_xs (fun _ => lt_pm _ _) _⟩
      have SG : Hid (Ret 67 #[.agg #[.int .u64 (C.1.1 : Int), .int .u64 (C.1.2 : Int), .int .u64 (C.2.1 : Int), .int .u64 (C.2.2 : Int)], .int .i64 k] (.agg #[.int .u64 (zz.1 : Int), .int .u64 (zz.2 : Int)])) := by
        have h := tsign k (cf C) hlt2.1 hlt2.2
        rw [show (if k = 3 then xa (cf C 0) (cf C 1) else cf C 0) = zz from by
          rw [HZZ.out, HC.out]
          unfold sgn2
          by_cases h3 : k = 3
          · rw [if_pos h3, if_pos h3, HRT.out, show decide (k = 2) = false from decide_eq_false (by omega)]
            rfl
          · rw [if_neg h3, if_neg h3, HRT.out]
            rfl] at h
        exact h
      obtain ⟨k1, k2, k3, k4⟩ : wr.cell? ⟨qc, 0, none⟩ = some (.int .u64 (C.1.1 : Int)) ∧ wr.cell? ⟨qc, 1, none⟩ = some (.int .u64 (C.1.2 : Int)) ∧ wr.cell? ⟨qc, 2, none⟩ = some (.int .u64 (C.2.1 : Int)) ∧ wr.cell? ⟨qc, 3, none⟩ = some (.int .u64 (C.2.2 : Int)) := ⟨K.out.c.a1, K.out.c.a0, K.out.c.b1, K.out.c.b0⟩
      clear HC hlt2 HZZ HRT HP
      go_wp2_with (go_at_call 67; refine (SG.out.go _).mono ?_; rintro e w9 ⟨rfl, hb9⟩; have K9 := Hid.mkT (K.out.below hb9); clear hb9 k1 k2 k3 k4; obtain ⟨⟨z1, z2⟩, z3, z4⟩ := K9.out.r)
      refine bodyPost_ret (v := .tuple #[.agg #[.int .u64 (zz.1 : Int), .int .u64 (zz.2 : Int)], .int .i64 0]) (by simp [results, Try.results48, go_sem, *]) rfl ⟨rfl, ?_⟩
      exact (K9.out.d.setCell (by simp) _).setCell (by simp) _
end Go.Proofs.Ytejoombhcnldmaa

/- The document's side of signs over the seat's translation: steepleref06.All, steepleref18.May, SignAt, Sign. -/
namespace Go.Proofs.Ytejoombhcnldmaa
open Go.RowKit
open Cb
open Tw (pm)

set_option maxHeartbeats 2000000 in
theorem trall (l : Int) (a : Option Addr) (cap : Nat) (es : List (Nat × Nat)) (hes : ltE es) (W : World) (hr : ERow W a es) (h10 : es.length ≤ 100000) :
    Calls Try.prog 23 #[.int .i64 l, .slice a es.length cap] W fun e w' => e = .returned (.bool (es.all fun e => ofB l (e.1 : Int) (e.2 : Int))) ∧ Below W.heap.size W w' := by
  have HR : Hid (ERow W a es) := hr
  have HO : Hid (∀ j : Nat, Ret 20 #[.int .i64 l, .agg #[.int .u64 ((es.getD j (0, 0)).1 : Int), .int .u64 ((es.getD j (0, 0)).2 : Int)]] (.bool (ofB l ((es.getD j (0, 0)).1 : Int) ((es.getD j (0, 0)).2 : Int)))) := fun j => rof_any l _ _ (hes.at j).1 (hes.at j).2
  clear hr hes
  go_enter Try.func23, Try.ntmps23
  go_wp2_with fail
  go_loopw [5] (fun u wr => ∃ j : Nat, j ≤ es.length ∧ u = .int .i64 j ∧ Hid ((es.take j).all (fun e => ofB l (e.1 : Int) (e.2 : Int)) = true) ∧ Below W.heap.size W wr) (fun u _ => es.length - (intOf u).toNat)
  case atStart => exact ⟨0, Nat.zero_le _, rfl, (by rfl), Below.refl _ _⟩
  case round =>
    obtain ⟨j, hj, rfl, HT, hD⟩ := hrel
    by_cases hlt : j < es.length
    · obtain ⟨b, off, rfl, hb, c1, c0⟩ := HR.out.cells j hlt
      have d1 : wr.cell? ⟨b, off + j * 2, none⟩ = some (.int .u64 ((es.getD j (0, 0)).1 : Nat)) := by rw [hD.cell (p := ⟨b, off + j * 2, none⟩) hb]; exact c1
      have d0 : wr.cell? ⟨b, off + j * 2 + 1, none⟩ = some (.int .u64 ((es.getD j (0, 0)).2 : Nat)) := by rw [hD.cell (p := ⟨b, off + j * 2 + 1, none⟩) hb]; exact c0
      have H1 := HO.out j
      have HD : Hid (Below W.heap.size W wr) := hD
      have HS : Hid (es.take (j + 1) = es.take j ++ [es.getD j (0, 0)]) := take_sn es j hlt
      have HM : Hid (es.getD j (0, 0) ∈ es) := by show _ ∈ _; rw [show es.getD j (0, 0) = es[j] by simp [hlt]]; exact List.getElem_mem hlt
      clear hD c1 c0 HR HO
      generalize es.getD j (0, 0) = x at *
      rcases hB : ofB l (x.1 : Int) (x.2 : Int) with _ | _
      · rw [hB] at H1
        go_wp2_with fail
        refine (H1.go _).mono ?_
        rintro e w4 ⟨rfl, hb4⟩
        have HD4 : Hid (Below W.heap.size W w4) := HD.out.trans (hb4.mono HD.out.size)
        clear hb4 d1 d0 HD
        go_wp2
        go_ret
        refine ⟨?_, HD4.out⟩
        rw [show (es.all fun e => ofB l (e.1 : Int) (e.2 : Int)) = false from by
          rw [List.all_eq_false]; exact ⟨x, HM.out, by rw [hB]; decide⟩]
        rfl
      · rw [hB] at H1
        go_wp2_with fail
        refine (H1.go _).mono ?_
        rintro e w4 ⟨rfl, hb4⟩
        have HD4 : Hid (Below W.heap.size W w4) := HD.out.trans (hb4.mono HD.out.size)
        clear hb4 d1 d0 HD
        go_wp2
        exact ⟨⟨j + 1, hlt, by simp, (by show _ = _; rw [HS.out, List.all_append, HT.out]; simp [hB]), HD4.out⟩, by simp [intOf]; omega⟩
    · have HD : Hid (Below W.heap.size W wr) := hD
      obtain rfl : j = es.length := by omega
      clear hD
      go_wp2
      go_ret
      refine ⟨?_, HD.out⟩
      have := HT.out
      rw [List.take_of_length_le (Nat.le_refl _)] at this
      rw [this]
      rfl
/-- The error of a turn and a point. -/
def my18 (l k v s : Int) (p : List (Nat × Nat)) : Int := if (0 ≤ l ∧ l ≤ 7) ∧ ftB k v s = true then (if (p.length : Int) = v then (if (p.all fun e => ofB l (e.1 : Int) (e.2 : Int)) = true then 0 else 5) else 6) else 1
/-- The answer's box and the sum so far. -/
structure Sg (W w : World) (o : Nat × Nat) : Prop where
  r : Ew w W.heap.size 0 0
  o : Ew w (W.heap.size + 1) o.1 o.2
  d : Below W.heap.size W w
theorem Sg.below {W w w' : World} {o : Nat × Nat} (h : Sg W w o) (hb : Below w.heap.size w w') : Sg W w' o := ⟨h.r.below hb, h.o.below hb, h.d.trans (hb.mono h.d.size)⟩
theorem Sg.drew {W w : World} {o : Nat × Nat} (h : Sg W w o) : Sg W w.drew o := h.below (Below.refl _ _).drew
theorem Sg.put {W w : World} {o : Nat × Nat} (h : Sg W w o) (v : Nat × Nat) : Sg W ((w.setCell ⟨W.heap.size + 1, 0, none⟩ (.int .u64 (v.1 : Int))).setCell ⟨W.heap.size + 1, 1, none⟩ (.int .u64 (v.2 : Int))) v := by
  obtain ⟨⟨h1, h2⟩, h3, h4⟩ := h.o
  exact ⟨h.r.offT (by omega) _ _ _ _, ⟨⟨by simp [go_sem, *], by simp [go_sem, *]⟩, by simp [go_sem, *], by simp [go_sem, *]⟩, (h.d.setCell (by show _ ≤ W.heap.size + 1; omega) _).setCell (by show _ ≤ W.heap.size + 1; omega) _⟩
theorem Sg.new (W : World) (T : TypeId) : Sg W ((W.alloc (Obj.cells #[.int .u64 0, .int .u64 0] T)).alloc (Obj.cells #[.int .u64 0, .int .u64 0] T)) (0, 0) := ⟨⟨⟨by simp [go_sem], by simp [go_sem]⟩, by simp [go_sem], by simp [go_sem]⟩, ⟨⟨by simp [go_sem], by simp [go_sem]⟩, by simp [go_sem], by simp [go_sem]⟩, by go_grown⟩
set_option maxHeartbeats 8000000 in
set_option maxRecDepth 100000 in
theorem rsignat (k : Int) (q t n y : Nat) (hq : q ≤ 6) (hn : pw (q : Int) = n) (ht : t < n) (hy : y < n) (a : Option Addr) (cap : Nat) (p : List (Nat × Nat)) (hp : ltE p) (h10 : p.length ≤ 1000) (W : World) (hr : ERow W a p) :
    Calls Try.prog 50 #[.int .i64 k, .int .i64 (q : Int), .int .i64 (t : Int), .slice a p.length cap, .int .i64 (y : Int)] W fun e w' => e = .returned (.agg #[.int .u64 ((xs n fun x => if wsB k n t x y = true then wt p x else (0, 0)).1 : Int), .int .u64 ((xs n fun x => if wsB k n t x y = true then wt p x else (0, 0)).2 : Int)]) ∧ Below W.heap.size W w' := by
  have hn1 := pw_le (w := (q : Int)) (by omega)
  rw [hn] at hn1
  have H2 := Hid.mkT (rtwoP q n hq hn)
  have HW : Hid (∀ x, x < n → Ret 32 #[.int .i64 k, .int .i64 (q : Int), .int .i64 (t : Int), .int .i64 (x : Int), .int .i64 (y : Int)] (.bool (wsB k n t x y))) := fun x hx => rwas k q n t x y hq hn (by omega) (by omega) (by omega)
  have HWt0 : Hid (∀ c, c < n → ∀ w, Below W.heap.size W w → Calls Try.prog 51 #[.slice a p.length cap, .int .i64 (c : Int)] w fun e w' => e = .returned (.agg #[.int .u64 ((wt p c).1 : Int), .int .u64 ((wt p c).2 : Int)]) ∧ Below w.heap.size w w') := fun c hc w hb => rweight_any a cap c p hp h10 (by omega) w (hr.below hb)
  obtain ⟨zz, hzz⟩ : ∃ z, z = xs n fun x => if wsB k n t x y = true then wt p x else (0, 0) := ⟨_, rfl⟩
  rw [← hzz]
  have HZZ := Hid.mkT hzz
  have K0 := Hid.mkT (Sg.new W 34)
  clear hzz hr hp hn
  go_enter Try.func50, Try.ntmps50
  go_wp2_with fail
  go_loopw [12] (fun u wr => ∃ (i : Nat) (o : Nat × Nat), i ≤ n ∧ u = .int .i64 i ∧ Hid (o = xs i fun x => if wsB k n t x y = true then wt p x else (0, 0)) ∧ Hid (Sg W wr o)) (fun u _ => n - (intOf u).toNat)
  case atStart => exact ⟨0, (0, 0), Nat.zero_le _, rfl, rfl, K0⟩
  case round =>
    obtain ⟨i, o, hi, rfl, HO, K⟩ := hrel
    clear K0
    by_cases hlt : i < n
    · have i1 : (i : Int) < (n : Int) := by omega
      have H3 := Hid.mkT (HW.out i hlt)
      have HS : Hid (xs (i + 1) (fun x => if wsB k n t x y = true then wt p x else (0, 0)) = xa o (if wsB k n t i y = true then wt p i else (0, 0))) := by show _ = _; rw [HO.out]; rfl
      have hlo : lt2 o := by rw [HO.out]; exact lt_xs (fun x => by split; exact lt_wt _ _; exact lt_zero) _
      have HWt := Hid.mkT (HWt0.out i hlt)
      have hlw := lt_wt p i
      generalize wt p i = v at *
      cases hws : wsB k n t i y
      · rw [hws] at H3 HS
        rw [if_neg (by decide), xa_zero] at HS
        clear hws
        go_wp2_with (first | (go_at_call 26; refine (H2.out.go _).mono ?_; rintro e w1 ⟨rfl, hb1⟩; have K1 := Hid.mkT (K.out.below hb1); clear hb1) | (go_at_call 32; refine (H3.out.go _).mono ?_; rintro e w2 ⟨rfl, hb2⟩; have K2 := Hid.mkT (K1.out.below hb2); clear hb2))
        exact ⟨⟨i + 1, o, hlt, by simp, HS.out.symm, K2⟩, by simp [intOf]; omega⟩
      · rw [hws] at H3 HS
        rw [if_pos rfl] at HS
        have HAd : Hid (Ret 38 #[.agg #[.int .u64 (o.1 : Int), .int .u64 (o.2 : Int)], .agg #[.int .u64 (v.1 : Int), .int .u64 (v.2 : Int)]] (.agg #[.int .u64 ((xa o v).1 : Int), .int .u64 ((xa o v).2 : Int)])) := rsum o v hlo hlw
        generalize xa o v = z at *
        clear hws hlo hlw HO
        go_wp2_with (first | (go_at_call 26; refine (H2.out.go _).mono ?_; rintro e w1 ⟨rfl, hb1⟩; have K1 := Hid.mkT (K.out.below hb1); clear hb1) | (go_at_call 32; refine (H3.out.go _).mono ?_; rintro e w2 ⟨rfl, hb2⟩; have K2 := Hid.mkT (K1.out.below hb2); clear hb2))
        clear K K1
        have K := K2
        clear K2
        refine wp_region_noPanic ?_
        refine wp_region_peel (S := fun w => w.cell? ⟨W.heap.size + 1, 0, none⟩ = some (.int .u64 (o.1 : Int)) ∧ w.cell? ⟨W.heap.size + 1, 1, none⟩ = some (.int .u64 (o.2 : Int))) 5 (by kernel_rfl) rfl (by kernel_rfl) ?_ (fun hHeld => ?_)
        · exact ⟨K.out.o.hi, K.out.o.lo⟩
        refine wpAnyH_take (i := 0) (oi := _) (v := ?_) rfl (by kernel_rfl) (by kernel_rfl) (by kernel_rfl) (fun _ _ _ h => h) (Or.inl ⟨by rfl, ?_⟩) (by assumption) ?_
        rotate_left
        · ((intro w hSw; (try dsimp only at hSw); go_simp) <;> (try with_reducible rfl))
        try simp only [Act.put]
        refine wpAnyH_take (i := 1) (oi := _) (v := ?_) rfl (by kernel_rfl) (by kernel_rfl) (by kernel_rfl) (fun _ _ _ h => h) (Or.inl ⟨by rfl, ?_⟩) (by assumption) ?_
        rotate_left
        · ((intro w hSw; (try dsimp only at hSw); go_simp) <;> (try with_reducible rfl))
        try simp only [Act.put]
        refine wpAnyH_take (i := 2) (oi := _) (v := ?_) rfl (by kernel_rfl) (by kernel_rfl) (by kernel_rfl) (fun _ _ _ h => h) (Or.inl ⟨by rfl, ?_⟩) (by assumption) ?_
        rotate_left
        · ((intro w hSw; (try dsimp only at hSw); go_simp) <;> (try with_reducible rfl))
        try simp only [Act.put]
        refine wpAnyH_ready (rs := [3]) (by kernel_rfl) (by simp) ?_
        refine AllReadyH.cons (o := _) rfl (fun KK hKK => ?_) AllReadyH.nil
        go_simp
        ((go_at_call 51; refine (HWt.out _ (by first | exact K.out.d | exact K.out.drew.d)).mono ?_; rintro e w' ⟨rfl, hb'⟩))
        have K'' : Hid (Sg W w' o) := (by first | exact K.out.below hb' | exact K.out.drew.below hb')
        clear K hb'
        have K := K''
        clear K''
        refine hKK.out _ _ ?_ (fun hHeld => ?_)
        · exact ⟨K.out.o.hi, K.out.o.lo⟩
        clear hKK KK
        try simp only [Act.put]
        refine wpAnyH_ready (rs := [4]) (by kernel_rfl) (by simp) ?_
        refine AllReadyH.cons (o := _) rfl (fun KK hKK => ?_) AllReadyH.nil
        go_simp
        ((go_at_call 38; refine (HAd.out.go _).mono ?_; rintro e w' ⟨rfl, hb'⟩))
        have K'' : Hid (Sg W w' o) := (by first | exact K.out.below hb' | exact K.out.drew.below hb')
        clear K hb'
        have K := K''
        clear K''
        refine hKK.out _ _ ?_ (fun hHeld => ?_)
        · exact ⟨K.out.o.hi, K.out.o.lo⟩
        clear hKK KK
        try simp only [Act.put]
        refine wpAnyH_done (by kernel_rfl) ?_ _
        refine peel_last rfl (fun KK hKK => ?_)
        clear hHeld
        obtain ⟨⟨k1, k2⟩, k3, k4⟩ := K.out.o
        go_simp
        refine hKK _ _ ?_
        refine NoPanic.normal ?_
        clear hKK KK
        clear k1 k2 k3 k4
        have K9 := Hid.mkT (K.out.put z)
        clear K
        go_wp2_with fail
        exact ⟨⟨i + 1, z, hlt, by simp, HS.out.symm, K9⟩, by simp [intOf]; omega⟩
    · obtain rfl : i = n := by omega
      have hoz : o = zz := by rw [HO.out, HZZ.out]
      subst hoz
      clear HO HZZ HWt0 HW
      go_wp2_with (go_at_call 26; refine (H2.out.go _).mono ?_; rintro e w1 ⟨rfl, hb1⟩; have K1 := Hid.mkT (K.out.below hb1); clear hb1; obtain ⟨⟨k1, k2⟩, k3, k4⟩ := K1.out.o; obtain ⟨⟨r1, r2⟩, r3, r4⟩ := K1.out.r)
      refine bodyPost_ret (v := .agg #[.int .u64 (o.1 : Int), .int .u64 (o.2 : Int)]) (by simp [results, Try.results50, go_sem, *]) rfl ⟨rfl, ?_⟩
      exact (K1.out.d.setCell (by simp) _).setCell (by simp) _
end Go.Proofs.Ytejoombhcnldmaa
