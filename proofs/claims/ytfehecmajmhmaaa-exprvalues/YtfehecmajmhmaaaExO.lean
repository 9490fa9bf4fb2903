/- ExprValues: the walk of the law over the seat's translation; steepleref06.All. -/
import Derived.Test.YtfehecmajmhmaaaExM
import Derived.Test.YtfehecmajmhmaaaExN
namespace Go.Proofs.Ytfehecmajmhmaaa
open Go.RowKit
open Cb
open Tw (pm)

set_option maxHeartbeats 2000000 in
theorem xrall (l : Int) (a : Option Addr) (cap : Nat) (es : List (Nat × Nat)) (hes : ltE es) (W : World) (hr : ERow W a es) (h10 : es.length ≤ 100000) :
    Calls Try.prog 16 #[.int .i64 l, .slice a es.length cap] W fun e w' => e = .returned (.bool (es.all fun e => ofB l (e.1 : Int) (e.2 : Int))) ∧ Below W.heap.size W w' := by
  have HR : Hid (ERow W a es) := hr
  have HO : Hid (∀ j : Nat, Ret 25 #[.int .i64 l, .agg #[.int .u64 ((es.getD j (0, 0)).1 : Int), .int .u64 ((es.getD j (0, 0)).2 : Int)]] (.bool (ofB l ((es.getD j (0, 0)).1 : Int) ((es.getD j (0, 0)).2 : Int)))) := fun j => rof_any l _ _ (hes.at j).1 (hes.at j).2
  clear hr hes
  go_enter Try.func16, Try.ntmps16
  go_wp2_with fail
  go_loopw [5] (fun u wr => ∃ j : Nat, j ≤ es.length ∧ u = .int .i64 j ∧ Hid ((es.take j).all (fun e => ofB l (e.1 : Int) (e.2 : Int)) = true) ∧ Below W.heap.size W wr) (fun u _ => es.length - (intOf u).toNat)
  case atStart => exact ⟨0, Nat.zero_le _, rfl, (by rfl), Below.refl _ _⟩
  case round =>
    obtain ⟨j, hj, rfl, HT, hD⟩ := hrel
    by_cases hlt : j < es.length
    · obtain ⟨b, off, rfl, hb, c1, c0⟩ := HR.out.cells j hlt
      have d1 : wr.cell? ⟨b, off + j * 2, none⟩ = some (.int .u64 ((es.getD j (0, 0)).1 : Nat)) := by rw [hD.cell (p := ⟨b, off + j * 2, none⟩) hb]; exact c1
      have d0 : wr.cell? ⟨b, off + j * 2 + 1, none⟩ = some (.int .u64 ((es.getD j (0, 0)).2 : Nat)) := by rw [hD.cell (p := ⟨b, off + j * 2 + 1, none⟩) hb]; exact c0
      have H1 := HO.out j
      have HD : Hid (Below W.heap.size W wr) := hD
      have HS : Hid (es.take (j + 1) = es.take j ++ [es.getD j (0, 0)]) := take_sn es j hlt
      have HM : Hid (es.getD j (0, 0) ∈ es) := by show _ ∈ _; rw [show es.getD j (0, 0) = es[j] by simp [hlt]]; exact List.getElem_mem hlt
      clear hD c1 c0 HR HO
      generalize es.getD j (0, 0) = x at *
      rcases hB : ofB l (x.1 : Int) (x.2 : Int) with _ | _
      · rw [hB] at H1
        go_wp2_with fail
        refine (H1.go _).mono ?_
        rintro e w4 ⟨rfl, hb4⟩
        have HD4 : Hid (Below W.heap.size W w4) := HD.out.trans (hb4.mono HD.out.size)
        clear hb4 d1 d0 HD
        go_wp2
        go_ret
        refine ⟨?_, HD4.out⟩
        rw [show (es.all fun e => ofB l (e.1 : Int) (e.2 : Int)) = false from by
          rw [List.all_eq_false]; exact ⟨x, HM.out, by rw [hB]; decide⟩]
        rfl
      · rw [hB] at H1
        go_wp2_with fail
        refine (H1.go _).mono ?_
        rintro e w4 ⟨rfl, hb4⟩
        have HD4 : Hid (Below W.heap.size W w4) := HD.out.trans (hb4.mono HD.out.size)
        clear hb4 d1 d0 HD
        go_wp2
        exact ⟨⟨j + 1, hlt, by simp, (by show _ = _; rw [HS.out, List.all_append, HT.out]; simp [hB]), HD4.out⟩, by simp [intOf]; omega⟩
    · have HD : Hid (Below W.heap.size W wr) := hD
      obtain rfl : j = es.length := by omega
      clear hD
      go_wp2
      go_ret
      refine ⟨?_, HD.out⟩
      have := HT.out
      rw [List.take_of_length_le (Nat.le_refl _)] at this
      rw [this]
      rfl
/-- An element in its box, steps and elements as the document has them. -/
structure Xo (W w : World) (q : Nat) (x : Nat × Nat) (ra we : Option Addr) (l : List Stp) (vs : List (Nat × Nat)) : Prop where
  bx : El w q x.1 x.2
  r : ORow w ra l
  e : ERow w we vs
  d : Below W.heap.size W w
theorem Xo.below {W w w' : World} {q : Nat} {x : Nat × Nat} {ra we : Option Addr} {l : List Stp} {vs : List (Nat × Nat)} (h : Xo W w q x ra we l vs) (hb : Below w.heap.size w w') : Xo W w' q x ra we l vs :=
  ⟨h.bx.below hb, h.r.below hb, h.e.below hb, h.d.trans (hb.mono h.d.size)⟩
theorem Xo.drew {W w : World} {q : Nat} {x : Nat × Nat} {ra we : Option Addr} {l : List Stp} {vs : List (Nat × Nat)} (h : Xo W w q x ra we l vs) : Xo W w.drew q x ra we l vs := h.below (Below.refl _ _).drew
theorem chk_in {m : Nat} {n : Int} {l : List Stp} (h : chk (m : Int) n l = 0) : 0 < l.length ∧ chkF (m : Int) n l l.length = 0 := by
  unfold chk at h
  by_cases h1 : (0 ≤ (m : Int) ∧ (m : Int) ≤ 7) ∧ (0 : Int) ≤ n
  · rw [if_pos h1] at h
    by_cases h2 : l.length = 0
    · rw [if_pos h2] at h; exact absurd h (by decide)
    · rw [if_neg h2] at h
      by_cases h3 : 200 < l.length
      · rw [if_pos h3] at h; exact absurd h (by decide)
      · rw [if_neg h3] at h; exact ⟨by omega, h⟩
  · rw [if_neg h1] at h; exact absurd h (by decide)
theorem chk_lev {lv n : Int} {l : List Stp} (h : chk lv n l = 0) : ∃ m : Nat, m < 8 ∧ lv = (m : Int) := by
  unfold chk at h
  by_cases h1 : (0 ≤ lv ∧ lv ≤ 7) ∧ (0 : Int) ≤ n
  · exact ⟨lv.toNat, by omega, by omega⟩
  · rw [if_neg h1] at h; exact absurd h (by decide)
theorem rval_last {m : Nat} (hm8 : m < 8) {l : List Stp} {vs : List (Nat × Nat)} (hl : ∀ o ∈ l, o.ok) (hv : ltE vs) (ov : ofT m vs) (hm : l.length ≤ 1000) (hc : chk (m : Int) (vs.length : Int) l = 0) (sa ea : Option Addr) (cap cap2 : Nat) (W : World) (hR : ORow W sa l) (hV : ERow W ea vs) :
    Calls Try.prog 17 #[.slice sa l.length cap, .int .i64 ((l.length - 1 : Nat) : Int), .slice ea vs.length cap2] W fun e w' => e = .returned (.agg #[.int .u64 ((vfun vs l (l.length - 1)).1 : Int), .int .u64 ((vfun vs l (l.length - 1)).2 : Int)]) ∧ Below W.heap.size W w' := by
  obtain ⟨h0, hk⟩ := chk_in hc
  have h1 : ∀ j, j ≤ l.length - 1 → chkF (m : Int) (vs.length : Int) l j = 0 ∧ hnI (m : Int) (vs.length : Int) (j : Int) (l.getD j zst) = 0 := fun j hj => by
    have := chkF_zero hk j (by omega)
    exact ⟨this.1, er_hnI this.2⟩
  have := rval sa ea cap cap2 l vs (l.length - 1) (by omega) hm (fun j hj hk => frm_ahead (hnI_frm (h1 j hj).2) hk) (fun j hj hk => (hnI_of (h1 j hj).2).2 hk) (fun j hj p => (vfun_of hm8 hv ov hl (by omega) (h1 j hj).1 p).1) W hR hV
  rw [show l.length - 1 + 1 = l.length by omega, List.take_of_length_le (Nat.le_refl _)] at this
  exact this
set_option maxHeartbeats 8000000 in
set_option maxRecDepth 100000 in
theorem xv_any (lv : Int) (sa ea : Option Addr) (cap cap2 : Nat) (l : List Stp) (vs : List (Nat × Nat)) (hl : ∀ o ∈ l, o.ok) (hv : ltE vs) (W : World) (hR : ORow W sa l) (hV : ERow W ea vs) :
    Calls Try.prog 4 #[.int .i64 lv, .slice sa l.length cap, .slice ea vs.length cap2] W fun e w' => e = .returned (.bool true) ∧ Below W.heap.size W w' := by
  have HA := Hid.mkX awake16
  by_cases hm : 210 < l.length
  · have hm' : (210 : Int) < (l.length : Int) := by omega
    clear hl hR hV hv
    go_enter Try.func4, Try.ntmps4
    go_wp2_with (go_at_call 7; refine (HA.out.go _).mono ?_; rintro e w1 ⟨rfl, hb1⟩)
    go_ret
    exact ⟨rfl, hb1⟩
  · have hm' : ¬ (210 : Int) < (l.length : Int) := by omega
    by_cases hn : 20 < vs.length
    · have hn' : (20 : Int) < (vs.length : Int) := by omega
      clear hl hR hV hv
      go_enter Try.func4, Try.ntmps4
      go_wp2_with (go_at_call 7; refine (HA.out.go _).mono ?_; rintro e w1 ⟨rfl, hb1⟩)
      go_ret
      exact ⟨rfl, hb1⟩
    · have hn' : ¬ (20 : Int) < (vs.length : Int) := by omega
      have H1 : Hid (∀ w, Below W.heap.size W w → Calls Try.prog 8 #[.slice sa l.length cap] w fun e w' => ∃ ra rc, e = .returned (.slice ra l.length rc) ∧ ORow w' ra l ∧ Below w.heap.size w w') := fun w hb => (rref_own sa cap l (by omega) w (hR.below hb)).mono (by
        rintro e w' ⟨v, rfl, own, hb'⟩
        obtain ⟨ra, rc, rfl, R⟩ := own_steps own
        exact ⟨ra, rc, rfl, R, hb'⟩)
      have H2 : Hid (∀ w, Below W.heap.size W w → Calls Try.prog 15 #[.slice ea vs.length cap2] w fun e w' => ∃ a' cap', e = .returned (.slice a' vs.length cap') ∧ ERow w' a' vs ∧ Below w.heap.size w w') := fun w hb => ref_row ea cap2 vs (by omega) w (hV.below hb)
      have H3 : Hid (∀ w ra rc, ORow w ra l → Calls Try.prog 9 #[.int .i64 lv, .int .i64 (vs.length : Int), .slice ra l.length rc] w fun e w' => e = .returned (.int .i64 (chk lv (vs.length : Int) l)) ∧ Below w.heap.size w w') := fun w ra rc h => rchk lv (vs.length : Int) ra rc l hl (by omega) w h
      have H4 : Hid (∀ w we wc, ERow w we vs → Calls Try.prog 16 #[.int .i64 lv, .slice we vs.length wc] w fun e w' => e = .returned (.bool (vs.all fun e => ofB lv (e.1 : Int) (e.2 : Int))) ∧ Below w.heap.size w w') := fun w we wc h => xrall lv we wc vs hv w h (by omega)
      by_cases hc : chk lv (vs.length : Int) l = 0
      · rw [hc] at H3
        cases ho : (vs.all fun e => ofB lv (e.1 : Int) (e.2 : Int))
        · have HE := Hid.mkX (xeval_of lv sa ea cap cap2 l vs hl hv (by omega) (by omega) W hR hV hc ho)
          rw [ho] at H4
          clear hl hv hR hV hc ho
          go_enter Try.func4, Try.ntmps4
          go_wp2_with (first
            | (go_at_call 14; refine HE.out.mono ?_; rintro e w1 ⟨rfl, hb1⟩; have D1 : Hid (El (w1.alloc (Obj.cells #[.int .u64 0, .int .u64 0] 30)) w1.heap.size 0 0 ∧ Below W.heap.size W (w1.alloc (Obj.cells #[.int .u64 0, .int .u64 0] 30))) := ⟨⟨by simp [go_sem], by simp [go_sem]⟩, hb1.alloc hb1.size _⟩; clear hb1)
            | (go_at_call 8; refine (H1.out _ D1.out.2).mono ?_; rintro e w2 ⟨ra, rc, rfl, R2, hb2⟩; have D2 : Hid (El w2 w1.heap.size 0 0 ∧ ORow w2 ra l ∧ Below W.heap.size W w2) := ⟨D1.out.1.below hb2, R2, D1.out.2.trans (hb2.mono D1.out.2.size)⟩; clear hb2 D1 R2)
            | (go_at_call 15; refine (H2.out _ D2.out.2.2).mono ?_; rintro e w3 ⟨we, wc, rfl, R3, hb3⟩; have D3 : Hid (Xo W w3 w1.heap.size (0, 0) ra we l vs) := ⟨D2.out.1.below hb3, D2.out.2.1.below hb3, R3, D2.out.2.2.trans (hb3.mono D2.out.2.2.size)⟩; clear hb3 D2 R3)
            | (go_at_call 9; refine (H3.out _ _ _ D3.out.r).mono ?_; rintro e w4 ⟨rfl, hb4⟩; have D4 : Hid (Xo W w4 w1.heap.size (0, 0) ra we l vs) := D3.out.below hb4; clear hb4 D3)
            | (go_at_call 16; refine (H4.out _ _ _ D4.out.e).mono ?_; rintro e w5 ⟨rfl, hb5⟩; have D5 : Hid (Xo W w5 w1.heap.size (0, 0) ra we l vs) := D4.out.below hb5; clear hb5 D4)
            | (go_at_call 7; refine (HA.out.go _).mono ?_; rintro e w6 ⟨rfl, hb6⟩; have D6 : Hid (Below W.heap.size W w6) := (D5.out.below hb6).d; obtain ⟨z1, z2⟩ := (D5.out.below hb6).bx; clear hb6 D5))
          go_ret
          exact ⟨rfl, D6.out⟩
        · obtain ⟨m, hm8, rfl⟩ := chk_lev hc
          have ov : ofT m vs := fun e he => List.all_eq_true.1 ho e he
          have HE := Hid.mkX (xeval_ok m hm8 sa ea cap cap2 l vs hl hv (by omega) W hR hV (by omega) hc ov)
          have h0 := (chk_in hc).1
          have H5 : Hid (∀ w ra rc we wc, ORow w ra l → ERow w we vs → Calls Try.prog 17 #[.slice ra l.length rc, .int .i64 ((l.length : Int) - 1), .slice we vs.length wc] w fun e w' => e = .returned (.agg #[.int .u64 ((vfun vs l (l.length - 1)).1 : Int), .int .u64 ((vfun vs l (l.length - 1)).2 : Int)]) ∧ Below w.heap.size w w') := fun w ra rc we wc h1 h2 => by
            have := rval_last hm8 hl hv ov (by omega) hc ra we rc wc w h1 h2
            rw [show ((l.length - 1 : Nat) : Int) = (l.length : Int) - 1 by omega] at this
            exact this
          rw [ho] at H4
          have e1 : IntKind.i64.wrap ((l.length : Int) - 1) = (l.length : Int) - 1 := by rw [IntKind.wrap_i64]; omega
          generalize vfun vs l (l.length - 1) = x at *
          clear hl hv hR hV hc ho ov
          generalize l.length = L at *
          generalize vs.length = N at *
          go_enter Try.func4, Try.ntmps4
          go_wp2_with (first
            | (go_at_call 14; refine HE.out.mono ?_; rintro e w1 ⟨rfl, hb1⟩; have D1 : Hid (El (w1.alloc (Obj.cells #[.int .u64 (x.1 : Int), .int .u64 (x.2 : Int)] 30)) w1.heap.size x.1 x.2 ∧ Below W.heap.size W (w1.alloc (Obj.cells #[.int .u64 (x.1 : Int), .int .u64 (x.2 : Int)] 30))) := ⟨⟨by simp [go_sem], by simp [go_sem]⟩, hb1.alloc hb1.size _⟩; clear hb1)
            | (go_at_call 8; refine (H1.out _ D1.out.2).mono ?_; rintro e w2 ⟨ra, rc, rfl, R2, hb2⟩; have D2 : Hid (El w2 w1.heap.size x.1 x.2 ∧ ORow w2 ra l ∧ Below W.heap.size W w2) := ⟨D1.out.1.below hb2, R2, D1.out.2.trans (hb2.mono D1.out.2.size)⟩; clear hb2 D1 R2)
            | (go_at_call 15; refine (H2.out _ D2.out.2.2).mono ?_; rintro e w3 ⟨we, wc, rfl, R3, hb3⟩; have D3 : Hid (Xo W w3 w1.heap.size x ra we l vs) := ⟨D2.out.1.below hb3, D2.out.2.1.below hb3, R3, D2.out.2.2.trans (hb3.mono D2.out.2.2.size)⟩; clear hb3 D2 R3)
            | (go_at_call 9; refine (H3.out _ _ _ D3.out.r).mono ?_; rintro e w4 ⟨rfl, hb4⟩; have D4 : Hid (Xo W w4 w1.heap.size x ra we l vs) := D3.out.below hb4; clear hb4 D3)
            | (go_at_call 16; refine (H4.out _ _ _ D4.out.e).mono ?_; rintro e w5 ⟨rfl, hb5⟩; have D5 : Hid (Xo W w5 w1.heap.size x ra we l vs) := D4.out.below hb5; clear hb5 D4))
          have K := D5
          clear D5 HE H1 H2 H3 H4
          generalize w1.heap.size = q at *
          obtain ⟨v1, v0⟩ := K.out.bx
          go_region_held3 (fun w => w.cell? ⟨q, 0, none⟩ = some (.int .u64 (x.1 : Int)) ∧ w.cell? ⟨q, 1, none⟩ = some (.int .u64 (x.2 : Int))) (go_keep) (first | (go_at_call 7; refine (HA.out.go _).mono ?_; rintro e w' ⟨rfl, hb'⟩; have K' : Hid (Xo W w' q x ra we l vs) := Xo.below (w' := w') (by first | exact K.out | exact K.out.drew) hb'; clear v1 v0 K hb'; have K := K'; clear K'; obtain ⟨v1, v0⟩ := K.out.bx) | (go_at_call 17; refine (H5.out _ ra rc we wc (by first | exact K.out.r | exact K.out.drew.r) (by first | exact K.out.e | exact K.out.drew.e)).mono ?_; rintro e w' ⟨rfl, hb'⟩; have K' : Hid (Xo W w' q x ra we l vs) := Xo.below (w' := w') (by first | exact K.out | exact K.out.drew) hb'; clear v1 v0 K hb'; have K := K'; clear K'; obtain ⟨v1, v0⟩ := K.out.bx))
          go_wp2
          go_ret
          refine ⟨?_, by first | exact K.out.d | exact K.out.d.drew⟩
          simp
      · have HE := Hid.mkX (xeval_err lv (chk lv (vs.length : Int) l) sa ea cap cap2 l vs hl (by omega) W hR rfl hc)
        clear hl hv hR hV H4
        generalize chk lv (vs.length : Int) l = c at *
        have hc1 : (c == 0) = false := by rw [beq_eq_false_iff_ne]; exact hc
        have hc2 : (c != 0) = true := by simp [hc]
        go_enter Try.func4, Try.ntmps4
        go_wp2_with (first
          | (go_at_call 14; refine HE.out.mono ?_; rintro e w1 ⟨rfl, hb1⟩; have D1 : Hid (El (w1.alloc (Obj.cells #[.int .u64 0, .int .u64 0] 30)) w1.heap.size 0 0 ∧ Below W.heap.size W (w1.alloc (Obj.cells #[.int .u64 0, .int .u64 0] 30))) := ⟨⟨by simp [go_sem], by simp [go_sem]⟩, hb1.alloc hb1.size _⟩; clear hb1)
          | (go_at_call 8; refine (H1.out _ D1.out.2).mono ?_; rintro e w2 ⟨ra, rc, rfl, R2, hb2⟩; have D2 : Hid (El w2 w1.heap.size 0 0 ∧ ORow w2 ra l ∧ Below W.heap.size W w2) := ⟨D1.out.1.below hb2, R2, D1.out.2.trans (hb2.mono D1.out.2.size)⟩; clear hb2 D1 R2)
          | (go_at_call 15; refine (H2.out _ D2.out.2.2).mono ?_; rintro e w3 ⟨we, wc, rfl, R3, hb3⟩; have D3 : Hid (Xo W w3 w1.heap.size (0, 0) ra we l vs) := ⟨D2.out.1.below hb3, D2.out.2.1.below hb3, R3, D2.out.2.2.trans (hb3.mono D2.out.2.2.size)⟩; clear hb3 D2 R3)
          | (go_at_call 9; refine (H3.out _ _ _ D3.out.r).mono ?_; rintro e w4 ⟨rfl, hb4⟩; have D4 : Hid (Xo W w4 w1.heap.size (0, 0) ra we l vs) := D3.out.below hb4; clear hb4 D3)
          | (go_at_call 7; refine (HA.out.go _).mono ?_; rintro e w6 ⟨rfl, hb6⟩; have D6 : Hid (Below W.heap.size W w6) := (D4.out.below hb6).d; obtain ⟨z1, z2⟩ := (D4.out.below hb6).bx; clear hb6 D4))
        go_ret
        exact ⟨by simp, D6.out⟩
end Go.Proofs.Ytfehecmajmhmaaa
