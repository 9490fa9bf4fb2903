/- ExprValues: the walk of the law over the seat's translation; steepleref06.All. -/
import Derived.Test.YtfhojakhoobnhaaPExN
import Derived.Test.YtfhojakhoobnhaaPScD
namespace Go.Proofs.Ytfhojakhoobnhaa
open Go.RowKit
open Cb
open Tw (pm)

set_option maxHeartbeats 2000000 in
theorem xrall (l : Int) (a : Option Addr) (cap : Nat) (es : List (Nat × Nat)) (hes : ltE es) (W : World) (hr : ERow W a es) (h10 : es.length ≤ 100000) :
    Calls Try.prog 41 #[.int .i64 l, .slice a es.length cap] W fun e w' => e = .returned (.bool (es.all fun e => ofB l (e.1 : Int) (e.2 : Int))) ∧ Below W.heap.size W w' := by
  have HR : Hid (ERow W a es) := hr
  have HO : Hid (∀ j : Nat, Ret 19 #[.int .i64 l, .agg #[.int .u64 ((es.getD j (0, 0)).1 : Int), .int .u64 ((es.getD j (0, 0)).2 : Int)]] (.bool (ofB l ((es.getD j (0, 0)).1 : Int) ((es.getD j (0, 0)).2 : Int)))) := fun j => rof_any l _ _ (hes.at j).1 (hes.at j).2
  clear hr hes
  go_enter Try.func41, Try.ntmps41
  go_wp2_with fail
  go_loopw [5] (fun u wr => ∃ j : Nat, j ≤ es.length ∧ u = .int .i64 j ∧ Hid ((es.take j).all (fun e => ofB l (e.1 : Int) (e.2 : Int)) = true) ∧ Below W.heap.size W wr) (fun u _ => es.length - (intOf u).toNat)
  case atStart => exact ⟨0, Nat.zero_le _, rfl, (by rfl), Below.refl _ _⟩
  case round =>
    obtain ⟨j, hj, rfl, HT, hD⟩ := hrel
    by_cases hlt : j < es.length
    · obtain ⟨b, off, rfl, hb, c1, c0⟩ := HR.out.cells j hlt
      have d1 : wr.cell? ⟨b, off + j * 2, none⟩ = some (.int .u64 ((es.getD j (0, 0)).1 : Nat)) := by rw [hD.cell (p := ⟨b, off + j * 2, none⟩) hb]; exact c1
      have d0 : wr.cell? ⟨b, off + j * 2 + 1, none⟩ = some (.int .u64 ((es.getD j (0, 0)).2 : Nat)) := by rw [hD.cell (p := ⟨b, off + j * 2 + 1, none⟩) hb]; exact c0
      have H1 := HO.out j
      have HD : Hid (Below W.heap.size W wr) := hD
      have HS : Hid (es.take (j + 1) = es.take j ++ [es.getD j (0, 0)]) := take_sn es j hlt
      have HM : Hid (es.getD j (0, 0) ∈ es) := by show _ ∈ _; rw [show es.getD j (0, 0) = es[j] by simp [hlt]]; exact List.getElem_mem hlt
      clear hD c1 c0 HR HO
      generalize es.getD j (0, 0) = x at *
      rcases hB : ofB l (x.1 : Int) (x.2 : Int) with _ | _
      · rw [hB] at H1
        go_wp2_with fail
        refine (H1.go _).mono ?_
        rintro e w4 ⟨rfl, hb4⟩
        have HD4 : Hid (Below W.heap.size W w4) := HD.out.trans (hb4.mono HD.out.size)
        clear hb4 d1 d0 HD
        go_wp2
        go_ret
        refine ⟨?_, HD4.out⟩
        rw [show (es.all fun e => ofB l (e.1 : Int) (e.2 : Int)) = false from by
          rw [List.all_eq_false]; exact ⟨x, HM.out, by rw [hB]; decide⟩]
        rfl
      · rw [hB] at H1
        go_wp2_with fail
        refine (H1.go _).mono ?_
        rintro e w4 ⟨rfl, hb4⟩
        have HD4 : Hid (Below W.heap.size W w4) := HD.out.trans (hb4.mono HD.out.size)
        clear hb4 d1 d0 HD
        go_wp2
        exact ⟨⟨j + 1, hlt, by simp, (by show _ = _; rw [HS.out, List.all_append, HT.out]; simp [hB]), HD4.out⟩, by simp [intOf]; omega⟩
    · have HD : Hid (Below W.heap.size W wr) := hD
      obtain rfl : j = es.length := by omega
      clear hD
      go_wp2
      go_ret
      refine ⟨?_, HD.out⟩
      have := HT.out
      rw [List.take_of_length_le (Nat.le_refl _)] at this
      rw [this]
      rfl
/-- An element in its box, steps and elements as the document has them. -/
structure Xo (W w : World) (q : Nat) (x : Nat × Nat) (ra we : Option Addr) (l : List Stp) (vs : List (Nat × Nat)) : Prop where
  bx : El w q x.1 x.2
  r : ORow w ra l
  e : ERow w we vs
  d : Below W.heap.size W w
theorem Xo.below {W w w' : World} {q : Nat} {x : Nat × Nat} {ra we : Option Addr} {l : List Stp} {vs : List (Nat × Nat)} (h : Xo W w q x ra we l vs) (hb : Below w.heap.size w w') : Xo W w' q x ra we l vs :=
  ⟨h.bx.below hb, h.r.below hb, h.e.below hb, h.d.trans (hb.mono h.d.size)⟩
theorem Xo.drew {W w : World} {q : Nat} {x : Nat × Nat} {ra we : Option Addr} {l : List Stp} {vs : List (Nat × Nat)} (h : Xo W w q x ra we l vs) : Xo W w.drew q x ra we l vs := h.below (Below.refl _ _).drew
theorem chk_in {m : Nat} {n : Int} {l : List Stp} (h : chk (m : Int) n l = 0) : 0 < l.length ∧ chkF (m : Int) n l l.length = 0 := by
  unfold chk at h
  by_cases h1 : (0 ≤ (m : Int) ∧ (m : Int) ≤ 7) ∧ (0 : Int) ≤ n
  · rw [if_pos h1] at h
    by_cases h2 : l.length = 0
    · rw [if_pos h2] at h; exact absurd h (by decide)
    · rw [if_neg h2] at h
      by_cases h3 : 200 < l.length
      · rw [if_pos h3] at h; exact absurd h (by decide)
      · rw [if_neg h3] at h; exact ⟨by omega, h⟩
  · rw [if_neg h1] at h; exact absurd h (by decide)
theorem chk_lev {lv n : Int} {l : List Stp} (h : chk lv n l = 0) : ∃ m : Nat, m < 8 ∧ lv = (m : Int) := by
  unfold chk at h
  by_cases h1 : (0 ≤ lv ∧ lv ≤ 7) ∧ (0 : Int) ≤ n
  · exact ⟨lv.toNat, by omega, by omega⟩
  · rw [if_neg h1] at h; exact absurd h (by decide)
theorem rval_last {m : Nat} (hm8 : m < 8) {l : List Stp} {vs : List (Nat × Nat)} (hl : ∀ o ∈ l, o.ok) (hv : ltE vs) (ov : ofT m vs) (hm : l.length ≤ 1000) (hc : chk (m : Int) (vs.length : Int) l = 0) (sa ea : Option Addr) (cap cap2 : Nat) (W : World) (hR : ORow W sa l) (hV : ERow W ea vs) :
    Calls Try.prog 70 #[.slice sa l.length cap, .int .i64 ((l.length - 1 : Nat) : Int), .slice ea vs.length cap2] W fun e w' => e = .returned (.agg #[.int .u64 ((vfun vs l (l.length - 1)).1 : Int), .int .u64 ((vfun vs l (l.length - 1)).2 : Int)]) ∧ Below W.heap.size W w' := by
  obtain ⟨h0, hk⟩ := chk_in hc
  have h1 : ∀ j, j ≤ l.length - 1 → chkF (m : Int) (vs.length : Int) l j = 0 ∧ hnI (m : Int) (vs.length : Int) (j : Int) (l.getD j zst) = 0 := fun j hj => by
    have := chkF_zero hk j (by omega)
    exact ⟨this.1, er_hnI this.2⟩
  have := rval sa ea cap cap2 l vs (l.length - 1) (by omega) hm (fun j hj hk => frm_ahead (hnI_frm (h1 j hj).2) hk) (fun j hj hk => (hnI_of (h1 j hj).2).2 hk) (fun j hj p => (vfun_of hm8 hv ov hl (by omega) (h1 j hj).1 p).1) W hR hV
  rw [show l.length - 1 + 1 = l.length by omega, List.take_of_length_le (Nat.le_refl _)] at this
  exact this
end Go.Proofs.Ytfhojakhoobnhaa

/- Contracts of sumcheck.Check, Sum, round and Round over the seat's translation. -/
namespace Go.Proofs.Ytfhojakhoobnhaa
open Go.RowKit
open Cb Ln Sc
open Tw (pm)

theorem hnI_up {lv vr vr' n : Int} {o : Stp} (hv : vr ≤ vr') (h : hnI lv vr n o = 0) : hnI 7 vr' n o = 0 := by
  have hf := hnI_frm h
  obtain ⟨h1, h2⟩ := hnI_of h
  unfold hnI
  rw [if_pos hf, if_pos (by unfold ofB; simp [levelB]), if_neg]
  rintro ⟨hk, hn⟩
  have := h2 hk
  omega
theorem chkF_up {lv vr vr' : Int} (hv : vr ≤ vr') {l : List Stp} : ∀ {i : Nat}, chkF lv vr l i = 0 → chkF 7 vr' l i = 0
  | 0, _ => rfl
  | i + 1, h => by
    have h0 : chkF lv vr l i = 0 := Classical.byContradiction fun hc => by rw [chkF, if_neg hc] at h; exact hc h
    rw [chkF, if_pos h0] at h
    rw [chkF, if_pos (chkF_up hv h0)]
    have h1 := er_hnI h
    unfold er at h ⊢
    rw [if_pos h1] at h
    rw [if_pos (hnI_up hv h1)]
    exact h
theorem chk_up {lv vr vr' : Int} (hv : vr ≤ vr') {l : List Stp} (h : chk lv vr l = 0) : chk 7 vr' l = 0 := by
  unfold chk at h ⊢
  by_cases h1 : (0 ≤ lv ∧ lv ≤ 7) ∧ 0 ≤ vr
  · rw [if_pos h1] at h
    rw [if_pos ⟨⟨by decide, by decide⟩, by omega⟩]
    by_cases h2 : l.length = 0
    · rw [if_pos h2] at h; exact absurd h (by decide)
    · rw [if_neg h2] at h ⊢
      by_cases h3 : 200 < l.length
      · rw [if_pos h3] at h; exact absurd h (by decide)
      · rw [if_neg h3] at h ⊢; exact chkF_up hv h
  · rw [if_neg h1] at h; exact absurd h (by decide)
theorem dgI_dgm {lv vr : Int} {l : List Stp} (hv : vr ≤ 9223372036854775807) (h : chk lv vr l = 0) : dgI l = (dgm l : Int) := by
  unfold dgI dgm
  rw [if_pos (chk_up hv h)]
  omega
/-- What is wrong with tables and an expression. -/
def sck (lv : Int) (l : List Stp) (ts : List (List (Nat × Nat))) : Int :=
  if chk lv (ts.length : Int) l = 0 then (if vrs ts < 0 ∨ fitB lv (dgI l) = false then 6 else if allG lv ts = true then 0 else 5) else chk lv (ts.length : Int) l
set_option maxHeartbeats 4000000 in
set_option maxRecDepth 100000 in
theorem scheck (lv : Int) (sa a : Option Addr) (scap cap : Nat) (l : List Stp) (ts : List (List (Nat × Nat))) (hl : ∀ o ∈ l, o.ok) (hm : l.length ≤ 100000) (h10 : ts.length ≤ 1000) (hlen : ∀ t ∈ ts, t.length ≤ 1000) (ht : ltT ts) (W : World) (hR : ORow W sa l) (hT : TRow W a ts) :
    Calls Try.prog 24 #[.int .i64 lv, .slice sa l.length scap, .slice a ts.length cap] W fun e w' => e = .returned (.int .i64 (sck lv l ts)) ∧ Below W.heap.size W w' := by
  have HX := Hid.mkS (xcheck lv (ts.length : Int) sa scap l hl hm W hR)
  have HV : Hid (∀ w, Below W.heap.size W w → Calls Try.prog 44 #[.slice a ts.length cap] w fun e w' => e = .returned (.int .i64 (vrs ts)) ∧ Below w.heap.size w w') := fun w hb => svars a cap ts (by omega) (fun t h => by have := hlen t h; omega) w (hT.below hb)
  have HD : Hid (∀ w, Below W.heap.size W w → Calls Try.prog 58 #[.slice sa l.length scap] w fun e w' => e = .returned (.int .i64 (dgI l)) ∧ Below w.heap.size w w') := fun w hb => sdegree sa scap l hl hm w (hR.below hb)
  have HF := Hid.mkS (lfits lv (dgI l))
  obtain ⟨y, hy⟩ : ∃ y, y = sck lv l ts := ⟨_, rfl⟩
  rw [← hy]
  unfold sck at hy
  have HT := Hid.mkS hT
  have HB : Hid (ltT ts ∧ (∀ t ∈ ts, t.length ≤ 1000)) := ⟨ht, hlen⟩
  clear hT hR hl ht hlen
  by_cases h0 : chk lv (ts.length : Int) l = 0
  case neg =>
    rw [if_neg h0] at hy
    rw [← hy] at HX h0
    have h0' : (y != 0) = true := by simp [h0]
    clear hy
    go_enter Try.func24, Try.ntmps24
    go_wp2_with (go_at_call 54; refine HX.out.mono ?_; rintro e w1 ⟨rfl, hb1⟩)
    go_ret
    exact ⟨rfl, hb1⟩
  rw [if_pos h0] at hy
  rw [h0] at HX
  clear h0
  generalize dgI l = dl at *
  generalize vrs ts = vr at *
  by_cases h1 : vr < 0
  · rw [if_pos (Or.inl h1)] at hy
    subst hy
    go_enter Try.func24, Try.ntmps24
    go_wp2_with (first | (go_at_call 54; refine HX.out.mono ?_; rintro e w1 ⟨rfl, hb1⟩) | (go_at_call 44; refine (HV.out _ hb1).mono ?_; rintro e w2 ⟨rfl, hb2⟩; have D2 := Hid.mkS (hb1.trans (hb2.mono hb1.size)); clear hb2))
    go_ret
    exact ⟨rfl, D2.out⟩
  rcases hf : fitB lv dl with _ | _
  · rw [if_pos (Or.inr hf)] at hy
    rw [hf] at HF
    subst hy
    go_enter Try.func24, Try.ntmps24
    go_wp2_with (first | (go_at_call 54; refine HX.out.mono ?_; rintro e w1 ⟨rfl, hb1⟩) | (go_at_call 44; refine (HV.out _ hb1).mono ?_; rintro e w2 ⟨rfl, hb2⟩; have D2 := Hid.mkS (hb1.trans (hb2.mono hb1.size)); clear hb2) | (go_at_call 58; refine (HD.out _ D2.out).mono ?_; rintro e w3 ⟨rfl, hb3⟩; have D3 := Hid.mkS (D2.out.trans (hb3.mono D2.out.size)); clear hb3) | (go_at_call 57; refine (HF.out.go _).mono ?_; rintro e w4 ⟨rfl, hb4⟩; have D4 := Hid.mkS (D3.out.trans (hb4.mono D3.out.size)); clear hb4))
    go_ret
    exact ⟨rfl, D4.out⟩
  rw [if_neg (by rintro (h | h); exact h1 h; rw [hf] at h; cases h)] at hy
  rw [hf] at HF
  have HY := Hid.mkS hy
  clear hy hf
  go_enter Try.func24, Try.ntmps24
  go_wp2_with (first | (go_at_call 54; refine HX.out.mono ?_; rintro e w1 ⟨rfl, hb1⟩) | (go_at_call 44; refine (HV.out _ hb1).mono ?_; rintro e w2 ⟨rfl, hb2⟩; have D2 := Hid.mkS (hb1.trans (hb2.mono hb1.size)); clear hb2) | (go_at_call 58; refine (HD.out _ D2.out).mono ?_; rintro e w3 ⟨rfl, hb3⟩; have D3 := Hid.mkS (D2.out.trans (hb3.mono D2.out.size)); clear hb3) | (go_at_call 57; refine (HF.out.go _).mono ?_; rintro e w4 ⟨rfl, hb4⟩; have D4 := Hid.mkS (D3.out.trans (hb4.mono D3.out.size)); clear hb4))
  go_loopw [30] (fun u wr => ∃ j : Nat, j ≤ ts.length ∧ u = .int .i64 j ∧ Hid (allG lv (ts.take j) = true) ∧ Hid (Below W.heap.size W wr)) (fun u _ => ts.length - (intOf u).toNat)
  case atStart => exact ⟨0, Nat.zero_le _, rfl, (by rfl), D4⟩
  case round =>
    obtain ⟨j, hj, rfl, HS, HDw⟩ := hrel
    clear D4 D3 D2 hb1
    by_cases hlt : j < ts.length
    · obtain ⟨b, off, ta, tc, rfl, hb, cb, hEr⟩ := HT.out.cells j hlt
      have db := keepc HDw.out cb
      have HS2 : Hid (ts.take (j + 1) = ts.take j ++ [tb ts j]) := take_ts ts j hlt
      have HM : Hid (tb ts j ∈ ts) := tb_mem hlt
      have HQ : Hid (∀ w, Below W.heap.size W w → Calls Try.prog 45 #[.int .i64 lv, .slice ta (tb ts j).length tc] w fun e w' => e = .returned (.bool ((tb ts j).all fun e => ofB lv (e.1 : Int) (e.2 : Int))) ∧ Below w.heap.size w w') := fun w hb' => sall lv ta tc (tb ts j) (HB.out.1 _ HM.out) w (hEr.below hb') (by have := HB.out.2 _ HM.out; omega)
      clear cb hEr
      rcases hB : ((tb ts j).all fun e => ofB lv (e.1 : Int) (e.2 : Int)) with _ | _
      · rw [hB] at HQ
        have HBf := Hid.mkS hB
        clear hB
        generalize (tb ts j).length = len at *
        go_wp2_with (go_at_call 45; refine (HQ.out _ HDw.out).mono ?_; rintro e w5 ⟨rfl, hb5⟩)
        go_ret
        refine ⟨?_, HDw.out.trans (hb5.mono HDw.out.size)⟩
        rw [HY.out, if_neg (by
          intro h
          have := List.all_eq_true.1 h _ HM.out
          rw [HBf.out] at this; cases this)]
        rfl
      · rw [hB] at HQ
        have HBf := Hid.mkS hB
        clear hB
        generalize (tb ts j).length = len at *
        go_wp2_with (go_at_call 45; refine (HQ.out _ HDw.out).mono ?_; rintro e w5 ⟨rfl, hb5⟩)
        exact ⟨⟨j + 1, hlt, by simp, (by show _ = _; rw [HS2.out]; unfold allG at HS ⊢; rw [List.all_append, HS.out]; simp only [List.all_cons, List.all_nil, Bool.and_true, Bool.true_and]; exact HBf.out), HDw.out.trans (hb5.mono HDw.out.size)⟩, by simp [intOf]; omega⟩
    · obtain rfl : j = ts.length := by omega
      have hall := HS.out
      rw [List.take_of_length_le (Nat.le_refl _)] at hall
      have HYY : Hid (y = 0) := by show _ = _; rw [HY.out, if_pos hall]
      clear hall
      go_wp2
      go_ret
      exact ⟨by rw [HYY.out]; rfl, HDw.out⟩
theorem vrs_two {ts : List (List (Nat × Nat))} {n : Nat} (h0 : 0 < ts.length) (hn : n ≤ 12) (h : lenT ts (2 ^ n)) : vrs ts = (n : Int) := by
  unfold vrs
  rw [if_neg (by omega), if_pos (List.all_eq_true.2 fun t ht => by simp [h t ht, h.at h0]), h.at h0, lgz_two n (by omega), if_pos (by omega)]
theorem vrs_is {ts : List (List (Nat × Nat))} (h : ¬ vrs ts < 0) : ∃ n : Nat, n ≤ 12 ∧ vrs ts = (n : Int) ∧ 0 < ts.length ∧ lenT ts (2 ^ n) := by
  have h' := h
  unfold vrs at h'
  by_cases h0 : ts.length = 0
  · rw [if_pos h0] at h'; exact absurd (by decide) h'
  rw [if_neg h0] at h'
  by_cases h1 : (ts.all fun t => decide (t.length = (tb ts 0).length)) = true
  · rw [if_pos h1] at h'
    rcases lgz_or (tb ts 0).length with e | ⟨k, hk, e1, e2⟩
    · rw [e] at h'; exact absurd (by decide) h'
    · rw [e2] at h'
      by_cases h2 : (k : Int) ≤ 12
      · have hL : lenT ts (2 ^ k) := fun t ht => by rw [← e1]; exact of_decide_eq_true (List.all_eq_true.1 h1 t ht)
        exact ⟨k, by omega, vrs_two (by omega) (by omega) hL, by omega, hL⟩
      · rw [if_neg h2] at h'; exact absurd (by decide) h'
  · rw [if_neg h1] at h'; exact absurd (by decide) h'
/-- What holds where nothing is wrong. -/
structure Fine (k n : Nat) (l : List Stp) (ts : List (List (Nat × Nat))) : Prop where
  k8 : k < 8
  n12 : n ≤ 12
  t0 : 0 < ts.length
  len : lenT ts (2 ^ n)
  chk : chk (k : Int) (ts.length : Int) l = 0
  fit : fitB (k : Int) (dgm l : Int) = true
  oft : ofTs k ts
theorem sck_zero {lv : Int} {l : List Stp} {ts : List (List (Nat × Nat))} (h10 : ts.length ≤ 1000) (h : sck lv l ts = 0) : ∃ k n : Nat, lv = (k : Int) ∧ vrs ts = (n : Int) ∧ Fine k n l ts := by
  unfold sck at h
  by_cases h0 : chk lv (ts.length : Int) l = 0
  · rw [if_pos h0] at h
    by_cases h1 : vrs ts < 0 ∨ fitB lv (dgI l) = false
    · rw [if_pos h1] at h; exact absurd h (by decide)
    · rw [if_neg h1] at h
      by_cases h2 : allG lv ts = true
      · obtain ⟨k, hk, rfl⟩ := chk_lev h0
        obtain ⟨n, hn, e, ht0, hL⟩ := vrs_is (fun h => h1 (Or.inl h))
        refine ⟨k, n, rfl, e, hk, hn, ht0, hL, h0, ?_, fun t ht e he => List.all_eq_true.1 (List.all_eq_true.1 h2 t ht) e he⟩
        rw [← dgI_dgm (by omega) h0]
        cases hq : fitB (k : Int) (dgI l)
        · exact absurd (Or.inr hq) h1
        · rfl
      · rw [if_neg h2] at h; exact absurd h (by decide)
  · rw [if_neg h0] at h; exact absurd h h0
theorem Fine.d8 {k n : Nat} {l : List Stp} {ts : List (List (Nat × Nat))} (h : Fine k n l ts) : dgm l ≤ 8 := by
  have := h.fit
  unfold fitB at this
  rw [Bool.and_eq_true] at this
  have := (of_decide_eq_true this.1).2
  omega
theorem Fine.zero {k n : Nat} {l : List Stp} {ts : List (List (Nat × Nat))} (h10 : ts.length ≤ 1000) (h : Fine k n l ts) : sck (k : Int) l ts = 0 := by
  unfold sck
  rw [if_pos h.chk, if_neg, if_pos]
  · exact List.all_eq_true.2 fun t ht => List.all_eq_true.2 fun e he => h.oft t ht e he
  · rintro (h1 | h1)
    · rw [vrs_two h.t0 h.n12 h.len] at h1; omega
    · rw [dgI_dgm (by omega) h.chk, h.fit] at h1; cases h1
theorem Fine.bnd {k n : Nat} {l : List Stp} {ts : List (List (Nat × Nat))} (h : Fine k (n + 1) l ts) {r : Nat × Nat} (hr : ofE k r) : Fine k n l (bnd ts r) :=
  ⟨h.k8, by have := h.n12; omega, by rw [bnd_len]; exact h.t0, lenT_bnd (by have := h.len; rw [Nat.pow_succ, Nat.mul_comm] at this; exact this) r, by rw [bnd_len]; exact h.chk, h.fit, ofTs_bnd h.k8 h.oft hr⟩
theorem Fine.chkF {k n : Nat} {l : List Stp} {ts : List (List (Nat × Nat))} (h : Fine k n l ts) : chkF (k : Int) (ts.length : Int) l l.length = 0 := (chk_in h.chk).2
theorem Fine.total {k n : Nat} {l : List Stp} {ts : List (List (Nat × Nat))} (h : Fine k n l ts) (sa a : Option Addr) (scap cap : Nat) (hl : ∀ o ∈ l, o.ok) (hm : l.length ≤ 100000) (h10 : ts.length ≤ 1000) (ht : ltT ts) (W : World) (hR : ORow W sa l) (hT : TRow W a ts) :
    Calls Try.prog 49 #[.int .i64 (k : Int), .slice sa l.length scap, .slice a ts.length cap] W fun e w' => e = .returned (.tuple #[.agg #[.int .u64 ((sv l ts (2 ^ n)).1 : Int), .int .u64 ((sv l ts (2 ^ n)).2 : Int)], .int .i64 0]) ∧ Below W.heap.size W w' :=
  stotal k h.k8 sa a scap cap (2 ^ n) l ts hl hm h.t0 h10 h.len (Nat.le_trans (Nat.pow_le_pow_right (by decide) h.n12) (by decide)) ht h.oft h.chk h.chkF W hR hT
set_option maxHeartbeats 1000000 in
set_option maxRecDepth 100000 in
theorem ssum_err (lv E : Int) (sa a : Option Addr) (scap cap : Nat) (l : List Stp) (ts : List (List (Nat × Nat))) (hl : ∀ o ∈ l, o.ok) (hm : l.length ≤ 100000) (h10 : ts.length ≤ 1000) (hlen : ∀ t ∈ ts, t.length ≤ 1000) (ht : ltT ts) (W : World) (hR : ORow W sa l) (hT : TRow W a ts) (hE : sck lv l ts = E) (h0 : ¬ E = 0) :
    Calls Try.prog 20 #[.int .i64 lv, .slice sa l.length scap, .slice a ts.length cap] W fun e w' => e = .returned (.tuple #[.agg #[.int .u64 0, .int .u64 0], .int .i64 E]) ∧ Below W.heap.size W w' := by
  have HC : Hid (∀ w, Below W.heap.size W w → Calls Try.prog 24 #[.int .i64 lv, .slice sa l.length scap, .slice a ts.length cap] w fun e w' => e = .returned (.int .i64 E) ∧ Below w.heap.size w w') := fun w hb => by
    have := scheck lv sa a scap cap l ts hl hm h10 hlen ht w (hR.below hb) (hT.below hb)
    rw [hE] at this
    exact this
  have K0 := Hid.mkS (Rm.start W)
  have h0' : (E != 0) = true := by simp [h0]
  clear hE hR hT hl ht hlen
  go_enter Try.func20, Try.ntmps20
  go_wp2_with (go_at_call 24; refine (HC.out _ K0.out.d).mono ?_; rintro e w1 ⟨rfl, hb1⟩; have K1 := Hid.mkS (K0.out.below hb1); clear hb1; obtain ⟨⟨r1, r0⟩, t1, t0⟩ := K1.out.room)
  refine bodyPost_ret (v := .tuple #[.agg #[.int .u64 0, .int .u64 0], .int .i64 E]) (by simp [results, Try.results20, go_sem, *]) rfl ⟨rfl, ?_⟩
  exact below2 (p := W.heap.size) K1.out.d (Nat.le_refl _) _ _
set_option maxHeartbeats 1000000 in
set_option maxRecDepth 100000 in
theorem ssum_ok {k n : Nat} {l : List Stp} {ts : List (List (Nat × Nat))} (hF : Fine k n l ts) (sa a : Option Addr) (scap cap : Nat) (hl : ∀ o ∈ l, o.ok) (hm : l.length ≤ 100000) (h10 : ts.length ≤ 1000) (hlen : ∀ t ∈ ts, t.length ≤ 1000) (ht : ltT ts) (W : World) (hR : ORow W sa l) (hT : TRow W a ts) :
    Calls Try.prog 20 #[.int .i64 (k : Int), .slice sa l.length scap, .slice a ts.length cap] W fun e w' => e = .returned (.tuple #[.agg #[.int .u64 ((sv l ts (2 ^ n)).1 : Int), .int .u64 ((sv l ts (2 ^ n)).2 : Int)], .int .i64 0]) ∧ Below W.heap.size W w' := by
  have HC : Hid (∀ w, Below W.heap.size W w → Calls Try.prog 24 #[.int .i64 (k : Int), .slice sa l.length scap, .slice a ts.length cap] w fun e w' => e = .returned (.int .i64 0) ∧ Below w.heap.size w w') := fun w hb => by
    have := scheck (k : Int) sa a scap cap l ts hl hm h10 hlen ht w (hR.below hb) (hT.below hb)
    rw [hF.zero h10] at this
    exact this
  have HS : Hid (∀ w, Below W.heap.size W w → Calls Try.prog 49 #[.int .i64 (k : Int), .slice sa l.length scap, .slice a ts.length cap] w fun e w' => e = .returned (.tuple #[.agg #[.int .u64 ((sv l ts (2 ^ n)).1 : Int), .int .u64 ((sv l ts (2 ^ n)).2 : Int)], .int .i64 0]) ∧ Below w.heap.size w w') := fun w hb => hF.total sa a scap cap hl hm h10 ht w (hR.below hb) (hT.below hb)
  have K0 := Hid.mkS (Rm.start W)
  clear hR hT hl ht hlen hF
  generalize sv l ts (2 ^ n) = y at *
  go_enter Try.func20, Try.ntmps20
  go_wp2_with (first | (go_at_call 24; refine (HC.out _ K0.out.d).mono ?_; rintro e w1 ⟨rfl, hb1⟩; have K1 := Hid.mkS (K0.out.below hb1); clear hb1) | (go_at_call 49; refine (HS.out _ K1.out.d).mono ?_; rintro e w2 ⟨rfl, hb2⟩; have K2 := Hid.mkS (K1.out.below hb2); clear hb2; obtain ⟨⟨r1, r0⟩, t1, t0⟩ := K2.out.room))
  refine bodyPost_ret (v := .tuple #[.agg #[.int .u64 (y.1 : Int), .int .u64 (y.2 : Int)], .int .i64 0]) (by simp [results, Try.results20, go_sem, *]) rfl ⟨rfl, ?_⟩
  exact below2 (p := W.heap.size) K2.out.d (Nat.le_refl _) _ _
end Go.Proofs.Ytfhojakhoobnhaa
