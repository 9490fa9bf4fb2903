/- Contracts of turn.hindrance (of two points, or where it is no turn) and of turn.At over the seat's translation. -/
import Derived.Test.YthfebbmmhjkglaaTuI
import Derived.Test.YthfebbmmhjkglaaTuH
namespace Go.Proofs.Ythfebbmmhjkglaa
open Go.RowKit
open Cb
open Tw (pm)

theorem nxt2_ok {m : Nat} (hm : m < 8) (k : Int) (sg : Nat) (hsg : sg < 2) (C : (Nat × Nat) × (Nat × Nat)) (hC : (lt2 C.1 ∧ ofE m C.1) ∧ lt2 C.2 ∧ ofE m C.2) (x y : Nat × Nat) (hx : lt2 x ∧ ofE m x) (hy : lt2 y ∧ ofE m y) :
    Ret 44 #[ag2 (cf C), .int .i64 (m : Int), .int .i64 k, .int .i64 (sg : Int), ag2 (sd x), ag2 (sd y)] (ag2 (if k = 2 then acm sg (cf C) (sd x) (sd y) 4 else acm sg (cf C) (sd y) (sd x) 4)) := by
  have h1 : ∀ i, lt2 (cf C i) ∧ ofE m (cf C i) := fun i => by unfold cf; split; exact hC.1; exact hC.2
  have h2 : ∀ i, lt2 (sd x i) ∧ ofE m (sd x i) := fun i => ⟨lt_fac hx.1 i, of_fac hm hx.2 i⟩
  have h3 : ∀ i, lt2 (sd y i) ∧ ofE m (sd y i) := fun i => ⟨lt_fac hy.1 i, of_fac hm hy.2 i⟩
  by_cases hk : k = 2
  · rw [if_pos hk]
    subst hk
    exact tnext_r m sg hsg (cf C) (sd x) (sd y) h1 h2 h3 hm
  · rw [if_neg hk]
    exact tnext_l m k sg hk hsg (cf C) (sd x) (sd y) h1 h2 h3 hm
/-- Where it is no turn. -/
theorem thind_no (l k v s : Int) (hf : ftB k v s = false) (a : Option Addr) (n c : Nat) : Ret 42 #[.int .i64 l, .int .i64 k, .int .i64 v, .int .i64 s, .slice a n c] (.int .i64 1) := by
  intro W
  have HL := Hid.mkT (tlevel l)
  have HF := Hid.mkT (tfits k v s)
  rw [hf] at HF
  clear hf
  by_cases hl : 0 ≤ l ∧ l ≤ 7
  · rw [decide_eq_true hl] at HL
    clear hl
    go_enter Try.func42, Try.ntmps42
    go_wp2_with (first | (go_at_call 67; refine (HL.out.go _).mono ?_; rintro e w1 ⟨rfl, hb1⟩; have D1 : Hid (Below W.heap.size W w1) := hb1; clear hb1) | (go_at_call 13; refine (HF.out.go _).mono ?_; rintro e w2 ⟨rfl, hb2⟩; have D2 : Hid (Below W.heap.size W w2) := D1.out.trans (hb2.mono D1.out.size); clear hb2 D1))
    go_ret
    exact ⟨rfl, D2.out⟩
  · rw [decide_eq_false hl] at HL
    clear hl HF
    go_enter Try.func42, Try.ntmps42
    go_wp2_with (go_at_call 67; refine (HL.out.go _).mono ?_; rintro e w1 ⟨rfl, hb1⟩)
    go_ret
    exact ⟨rfl, hb1⟩
/-- What hinders a turn from having a sign at two points. -/
def hd2 (l : Int) (q : Nat) (p r : List (Nat × Nat)) : Int := if 0 ≤ l ∧ l ≤ 7 then (if p.length = q then (if r.length = q then (if (p.all fun e => ofB l (e.1 : Int) (e.2 : Int)) = true then (if (r.all fun e => ofB l (e.1 : Int) (e.2 : Int)) = true then 0 else 5) else 5) else 6) else 6) else 1
set_option maxHeartbeats 4000000 in
set_option maxRecDepth 100000 in
theorem thind2 (l k : Int) (q t : Nat) (hf : ftB k (q : Int) (t : Int) = true) (b : Nat) (a c : Option Addr) (cap cap2 : Nat) (p r : List (Nat × Nat)) (hp : ltE p) (hq : ltE r) (h10 : p.length ≤ 1000) (h11 : r.length ≤ 1000) (W : World) (hr : ERow W a p) (hs : ERow W c r) (hb : W.cell? ⟨b, 0, none⟩ = some (.slice a p.length cap)) (hc : W.cell? ⟨b, 1, none⟩ = some (.slice c r.length cap2)) :
    Calls Try.prog 42 #[.int .i64 l, .int .i64 k, .int .i64 (q : Int), .int .i64 (t : Int), .slice (some ⟨b, 0, none⟩) 2 2] W fun e w' => e = .returned (.int .i64 (hd2 l q p r)) ∧ Below W.heap.size W w' := by
  have HL := Hid.mkT (tlevel l)
  have HF := Hid.mkT (tfits k (q : Int) (t : Int))
  rw [hf] at HF
  obtain ⟨z, hz⟩ : ∃ z, z = hd2 l q p r := ⟨_, rfl⟩
  rw [← hz]
  by_cases hl : 0 ≤ l ∧ l ≤ 7
  · rw [decide_eq_true hl] at HL
    unfold hd2 at hz
    rw [if_pos hl] at hz
    have HA : Hid (∀ w, Below W.heap.size W w → Calls Try.prog 68 #[.int .i64 l, .slice a p.length cap] w fun e w' => e = .returned (.bool (p.all fun e => ofB l (e.1 : Int) (e.2 : Int))) ∧ Below w.heap.size w w') := fun w hb => tall l a cap p hp w (hr.below hb) (by omega)
    have HA2 : Hid (∀ w, Below W.heap.size W w → Calls Try.prog 68 #[.int .i64 l, .slice c r.length cap2] w fun e w' => e = .returned (.bool (r.all fun e => ofB l (e.1 : Int) (e.2 : Int))) ∧ Below w.heap.size w w') := fun w hb => tall l c cap2 r hq w (hs.below hb) (by omega)
    have HB : Hid (W.cell? ⟨b, 0, none⟩ = some (.slice a p.length cap) ∧ W.cell? ⟨b, 1, none⟩ = some (.slice c r.length cap2)) := ⟨hb, hc⟩
    generalize (p.all fun e => ofB l (e.1 : Int) (e.2 : Int)) = x at *
    generalize (r.all fun e => ofB l (e.1 : Int) (e.2 : Int)) = y at *
    have HZ := Hid.mkT hz
    clear hf hr hs hp hq hl hb hc hz
    by_cases hq1 : p.length = q
    · rw [if_pos hq1] at HZ
      have e1 : ((p.length : Int) != (q : Int)) = false := by simp; omega
      by_cases hq2 : r.length = q
      · rw [if_pos hq2] at HZ
        have e2 : ((r.length : Int) != (q : Int)) = false := by simp; omega
        clear hq1 hq2
        go_enter Try.func42, Try.ntmps42
        go_wp2_with (first | (go_at_call 67; refine (HL.out.go _).mono ?_; rintro e w1 ⟨rfl, hb1⟩; have D1 : Hid (Below W.heap.size W w1) := hb1; clear hb1) | (go_at_call 13; refine (HF.out.go _).mono ?_; rintro e w2 ⟨rfl, hb2⟩; have D2 : Hid (Below W.heap.size W w2) := D1.out.trans (hb2.mono D1.out.size); clear hb2 D1))
        have c0 := keepc D2.out HB.out.1
        have c1 := keepc D2.out HB.out.2
        refine wp_loop_rounds 3 ?_
        rw [rounds_succ]
        go_wp2_with fail
        rw [rounds_succ]
        go_wp2_with fail
        rw [rounds_succ]
        go_wp2_with fail
        refine wp_loop_rounds 3 ?_
        rw [rounds_succ]
        cases x
        · rw [if_neg (by decide)] at HZ
          go_wp2_with (go_at_call 68; refine (HA.out _ D2.out).mono ?_; rintro e w3 ⟨rfl, hb3⟩)
          go_ret
          exact ⟨by rw [HZ.out]; rfl, D2.out.trans (hb3.mono D2.out.size)⟩
        · rw [if_pos rfl] at HZ
          go_wp2_with (go_at_call 68; refine (HA.out _ D2.out).mono ?_; rintro e w3 ⟨rfl, hb3⟩; have D3 : Hid (Below W.heap.size W w3) := D2.out.trans (hb3.mono D2.out.size); have d1 := keepc D3.out HB.out.2; clear hb3 c0 c1)
          rw [rounds_succ]
          cases y
          · rw [if_neg (by decide)] at HZ
            go_wp2_with (go_at_call 68; refine (HA2.out _ D3.out).mono ?_; rintro e w4 ⟨rfl, hb4⟩)
            go_ret
            exact ⟨by rw [HZ.out]; rfl, D3.out.trans (hb4.mono D3.out.size)⟩
          · rw [if_pos rfl] at HZ
            go_wp2_with (go_at_call 68; refine (HA2.out _ D3.out).mono ?_; rintro e w4 ⟨rfl, hb4⟩; have D4 : Hid (Below W.heap.size W w4) := D3.out.trans (hb4.mono D3.out.size); clear hb4)
            rw [rounds_succ]
            go_wp2
            go_ret
            exact ⟨by rw [HZ.out]; rfl, D4.out⟩
      · rw [if_neg hq2] at HZ
        have e2 : ((r.length : Int) != (q : Int)) = true := by simp; omega
        clear hq1 hq2
        go_enter Try.func42, Try.ntmps42
        go_wp2_with (first | (go_at_call 67; refine (HL.out.go _).mono ?_; rintro e w1 ⟨rfl, hb1⟩; have D1 : Hid (Below W.heap.size W w1) := hb1; clear hb1) | (go_at_call 13; refine (HF.out.go _).mono ?_; rintro e w2 ⟨rfl, hb2⟩; have D2 : Hid (Below W.heap.size W w2) := D1.out.trans (hb2.mono D1.out.size); clear hb2 D1))
        have c0 := keepc D2.out HB.out.1
        have c1 := keepc D2.out HB.out.2
        refine wp_loop_rounds 2 ?_
        rw [rounds_succ]
        go_wp2_with fail
        rw [rounds_succ]
        go_wp2
        go_ret
        exact ⟨by rw [HZ.out]; rfl, D2.out⟩
    · rw [if_neg hq1] at HZ
      have e1 : ((p.length : Int) != (q : Int)) = true := by simp; omega
      clear hq1
      go_enter Try.func42, Try.ntmps42
      go_wp2_with (first | (go_at_call 67; refine (HL.out.go _).mono ?_; rintro e w1 ⟨rfl, hb1⟩; have D1 : Hid (Below W.heap.size W w1) := hb1; clear hb1) | (go_at_call 13; refine (HF.out.go _).mono ?_; rintro e w2 ⟨rfl, hb2⟩; have D2 : Hid (Below W.heap.size W w2) := D1.out.trans (hb2.mono D1.out.size); clear hb2 D1))
      have c0 := keepc D2.out HB.out.1
      refine wp_loop_rounds 1 ?_
      rw [rounds_succ]
      go_wp2
      go_ret
      exact ⟨by rw [HZ.out]; rfl, D2.out⟩
  · rw [decide_eq_false hl] at HL
    unfold hd2 at hz
    rw [if_neg hl] at hz
    subst hz
    clear hf hr hs hp hq hl hb hc HF
    go_enter Try.func42, Try.ntmps42
    go_wp2_with (go_at_call 67; refine (HL.out.go _).mono ?_; rintro e w1 ⟨rfl, hb1⟩)
    go_ret
    exact ⟨rfl, hb1⟩
end Go.Proofs.Ythfebbmmhjkglaa
