/- SumcheckProves where there are too few or too many elements, or one is not of the level. -/
import Derived.Test.YtfhojakhoobnhaaScW
namespace Go.Proofs.Ytfhojakhoobnhaa
open Go.RowKit
open Cb Ln Sc
open Tw (pm)

set_option maxHeartbeats 4000000 in
set_option maxRecDepth 100000 in
theorem scp_arg (k n : Nat) (sa a ra : Option Addr) (scap cap rcap : Nat) (l : List Stp) (ts : List (List (Nat × Nat))) (r : List (Nat × Nat)) (hl : ∀ o ∈ l, o.ok) (ht : ltT ts) (hr : ltE r) (W : World) (hR : ORow W sa l) (hT : TRow W a ts) (hE : ERow W ra r) (h1 : few20 l ts = true) (h6 : r.length ≤ 6) (hFn : Fine k n l ts) (hn : ¬ r.length = n) :
    Calls Try.prog 4 #[.int .i64 (k : Int), .agg #[.slice sa l.length scap, .slice a ts.length cap], .slice ra r.length rcap] W fun e w' => e = .returned (.bool true) ∧ Below W.heap.size W w' := by
  have AW := Hid.mkS awake20
  have HF : Hid (∀ w, Below W.heap.size W w → Calls Try.prog 14 #[.agg #[.slice sa l.length scap, .slice a ts.length cap]] w fun e w' => e = .returned (.bool (few20 l ts)) ∧ Below w.heap.size w w') := fun w hb => sfew20 sa a scap cap l ts w (hT.below hb)
  have K0 := Hid.mkS (Px.start W sa a l.length scap ts.length cap 45)
  obtain ⟨f1, f2, f3⟩ := few20_true h1
  have hlen : ∀ t ∈ ts, t.length ≤ 1000 := fun t h => by have := f3 t h; omega
  rw [h1] at HF
  have h6' : ¬ (6 : Int) < (r.length : Int) := by omega
  have HRf : Hid (∀ w, Below W.heap.size W w → Calls Try.prog 15 #[.slice sa l.length scap] w fun e w' => ∃ a' cap', e = .returned (.slice a' l.length cap') ∧ ORow w' a' l ∧ Below w.heap.size w w') := fun w hb => by
    refine (rref_own sa scap l (by omega) w (hR.below hb)).mono ?_
    rintro e w' ⟨v, rfl, ho, hb'⟩
    obtain ⟨a', cap', rfl, hO⟩ := own_steps ho
    exact ⟨a', cap', rfl, hO, hb'⟩
  have HRs : Hid (∀ w, Below W.heap.size W w → Calls Try.prog 12 #[.slice a ts.length cap] w fun e w' => ∃ a' cap', e = .returned (.slice a' ts.length cap') ∧ TRow w' a' ts ∧ Below w.heap.size w w') := fun w hb => refs_any a cap ts (by omega) hlen w (hT.below hb)
  have HCk : Hid (∀ (w : World) (a1 a2 : Option Addr) (c1 c2 : Nat), ORow w a1 l → TRow w a2 ts → Calls Try.prog 17 #[.int .i64 (k : Int), .slice a1 l.length c1, .slice a2 ts.length c2] w fun e w' => e = .returned (.int .i64 (sck (k : Int) l ts)) ∧ Below w.heap.size w w') := fun w a1 a2 c1 c2 h1 h2 => rck (k : Int) a1 a2 c1 c2 l ts hl (by omega) (by omega) hlen ht w h1 h2
  have hz := hFn.zero (by omega)
  have hv := vrs_two hFn.t0 hFn.n12 hFn.len
  rw [hz] at HCk
  have HPr : Hid (∀ w, Below W.heap.size W w → Calls Try.prog 16 #[.int .i64 (k : Int), .slice sa l.length scap, .slice a ts.length cap, .slice ra r.length rcap] w fun e w' => e = .returned (.tuple #[.agg #[.slice none 0 0, .slice none 0 0], .int .i64 1]) ∧ Below w.heap.size w w') := fun w hb => sprove_err (k : Int) _ sa a ra scap cap rcap l ts r hl (by omega) (by omega) hlen ht hr (by omega) w (hR.below hb) (hT.below hb) (hE.below hb) (by unfold pvE; rw [if_pos hz, hv, if_neg (by omega)]) (by decide)
  have HLg : Hid (Ret 18 #[.int .i64 ((2 ^ n : Nat) : Int)] (.int .i64 (n : Int))) := by
    have := rlog_any (2 ^ n)
    rw [lgz_two n (by have := hFn.n12; omega)] at this
    exact this
  obtain ⟨b0, off0, ra0, rc0, ha0, hb0, cb0, _⟩ := hT.cells 0 hFn.t0
  rw [Nat.add_zero, hFn.len.at hFn.t0] at cb0
  have HCB := Hid.mkS cb0
  have htn0 : 0 < ts.length := hFn.t0
  have htn0' : (0 : Int) < (ts.length : Int) := by omega
  obtain ⟨ln, hln⟩ : ∃ ln, ln = l.length := ⟨_, rfl⟩
  obtain ⟨tn, htn⟩ : ∃ tn, tn = ts.length := ⟨_, rfl⟩
  obtain ⟨rn, hrn⟩ : ∃ rn, rn = r.length := ⟨_, rfl⟩
  rw [← hln] at HF HRf HCk HPr K0 ⊢
  rw [← htn] at HF HRs HCk HPr K0 htn0 htn0' ⊢
  rw [← hrn] at HPr h6' ⊢
  have hn' : ¬ (n : Int) = (rn : Int) := by omega
  clear hl ht hr hR hT hE f1 f2 f3 hlen hln htn hrn h1 h6 hFn hz hv cb0 hn
  subst ha0
  generalize 2 ^ n = N2 at *
  go_enter Try.func4, Try.ntmps4
  go_upto_region 3 with (go_at_call 14; refine (HF.out _ K0.out.d).mono ?_; rintro e w1 ⟨rfl, hb1⟩; have K := Hid.mkS (K0.out.below hb1); clear hb1 K0; have l0 := K.out.l0; have t0 := K.out.t0)
  go_region_held3 (fun w => w.cell? ⟨W.heap.size, 0, none⟩ = some (.slice sa ln scap) ∧ w.cell? ⟨W.heap.size, 1, none⟩ = some (.slice (some ⟨b0, off0, none⟩) tn cap)) (first | (go_keep; done) | exact ⟨K.out.l0, K.out.t0⟩) (first
    | (go_at_call 15; refine (HRf.out _ (by first | exact K.out.d | exact K.out.d.drew)).mono ?_; rintro e w5 ⟨a5, c5, rfl, hR5, hb5⟩; have K' : Hid (Px W w5 sa (some ⟨b0, off0, none⟩) ln scap tn cap) := (by first | exact K.out.below hb5 | exact (K.out.below (Below.refl _ _).drew).below hb5); have R5 := Hid.mkS hR5; clear hb5 hR5 K l0 t0; have K := K'; clear K'; have l0 := K.out.l0; have t0 := K.out.t0)
    | (go_at_call 12; refine (HRs.out _ (by first | exact K.out.d | exact K.out.d.drew)).mono ?_; rintro e w6 ⟨a6, c6, rfl, hT6, hb6⟩; have K' : Hid (Px W w6 sa (some ⟨b0, off0, none⟩) ln scap tn cap) := (by first | exact K.out.below hb6 | exact (K.out.below (Below.refl _ _).drew).below hb6); have R6 : Hid (Py W w6 sa (some ⟨b0, off0, none⟩) a5 a6 ln scap tn cap l ts) := ⟨K'.out, (by first | exact R5.out.below hb6 | exact (R5.out.below (Below.refl _ _).drew).below hb6), hT6⟩; clear hb6 hT6 K l0 t0 R5; have K := K'; clear K'; have l0 := K.out.l0; have t0 := K.out.t0))
  go_wp2_with (first | (go_at_call 16; refine (HPr.out _ R6.out.x.d).mono ?_; rintro e w7 ⟨rfl, hb7⟩; have K7 : Hid (Pe W (w7.alloc (Obj.cells #[.slice none 0 0, .slice none 0 0] 50)) sa (some ⟨b0, off0, none⟩) a5 a6 ln scap tn cap l ts w7.heap.size) := ⟨(R6.out.below hb7).below ((Below.refl _ _).alloc (Nat.le_refl _) _), by simp [go_sem], by simp [go_sem]⟩; clear hb7 R6 K l0 t0) | (go_at_call 17; refine (HCk.out _ _ _ _ _ K7.out.y.r K7.out.y.t).mono ?_; rintro e w8 ⟨rfl, hb8⟩; have K8 := Hid.mkS (K7.out.below hb8); clear hb8 K7; have l0 := K8.out.y.x.l0; have t0 := K8.out.y.x.t0; have cb := keepc K8.out.y.x.d HCB.out) | (go_at_call 18; refine (HLg.out.go _).mono ?_; rintro e w10 ⟨rfl, hb10⟩; have K10 := Hid.mkS (K8.out.below hb10); clear hb10 K8 l0 t0 cb))
  obtain ⟨q, hq⟩ : ∃ q, q = w7.heap.size := ⟨_, rfl⟩
  rw [← hq] at K10 ⊢
  clear hq
  go_loopw [11, 12] (fun v u wr => v = .int .i64 1 ∧ u = .int .i64 0 ∧ Hid (Pe W wr sa (some ⟨b0, off0, none⟩) a5 a6 ln scap tn cap l ts q)) (fun _ _ _ => 0)
  case atStart => exact ⟨rfl, rfl, K10⟩
  case round =>
    obtain ⟨rfl, rfl, KL⟩ := hrel
    go_wp2_with (go_at_call 9; refine (AW.out.go _).mono ?_; rintro e w9 ⟨rfl, hb9⟩; have K9 := Hid.mkS (KL.out.below hb9); clear hb9; have b0 := K9.out.b0; have b1 := K9.out.b1)
    go_ret
    exact ⟨rfl, K9.out.y.x.d⟩
set_option maxHeartbeats 4000000 in
set_option maxRecDepth 100000 in
theorem scp_fld (k n : Nat) (sa a ra : Option Addr) (scap cap rcap : Nat) (l : List Stp) (ts : List (List (Nat × Nat))) (r : List (Nat × Nat)) (hl : ∀ o ∈ l, o.ok) (ht : ltT ts) (hr : ltE r) (W : World) (hR : ORow W sa l) (hT : TRow W a ts) (hE : ERow W ra r) (h1 : few20 l ts = true) (h6 : r.length ≤ 6) (hFn : Fine k n l ts) (hn : r.length = n) (hno : (r.all fun e => ofB (k : Int) (e.1 : Int) (e.2 : Int)) = false) :
    Calls Try.prog 4 #[.int .i64 (k : Int), .agg #[.slice sa l.length scap, .slice a ts.length cap], .slice ra r.length rcap] W fun e w' => e = .returned (.bool true) ∧ Below W.heap.size W w' := by
  have AW := Hid.mkS awake20
  have HF : Hid (∀ w, Below W.heap.size W w → Calls Try.prog 14 #[.agg #[.slice sa l.length scap, .slice a ts.length cap]] w fun e w' => e = .returned (.bool (few20 l ts)) ∧ Below w.heap.size w w') := fun w hb => sfew20 sa a scap cap l ts w (hT.below hb)
  have K0 := Hid.mkS (Px.start W sa a l.length scap ts.length cap 45)
  obtain ⟨f1, f2, f3⟩ := few20_true h1
  have hlen : ∀ t ∈ ts, t.length ≤ 1000 := fun t h => by have := f3 t h; omega
  rw [h1] at HF
  have h6' : ¬ (6 : Int) < (r.length : Int) := by omega
  have HRf : Hid (∀ w, Below W.heap.size W w → Calls Try.prog 15 #[.slice sa l.length scap] w fun e w' => ∃ a' cap', e = .returned (.slice a' l.length cap') ∧ ORow w' a' l ∧ Below w.heap.size w w') := fun w hb => by
    refine (rref_own sa scap l (by omega) w (hR.below hb)).mono ?_
    rintro e w' ⟨v, rfl, ho, hb'⟩
    obtain ⟨a', cap', rfl, hO⟩ := own_steps ho
    exact ⟨a', cap', rfl, hO, hb'⟩
  have HRs : Hid (∀ w, Below W.heap.size W w → Calls Try.prog 12 #[.slice a ts.length cap] w fun e w' => ∃ a' cap', e = .returned (.slice a' ts.length cap') ∧ TRow w' a' ts ∧ Below w.heap.size w w') := fun w hb => refs_any a cap ts (by omega) hlen w (hT.below hb)
  have HCk : Hid (∀ (w : World) (a1 a2 : Option Addr) (c1 c2 : Nat), ORow w a1 l → TRow w a2 ts → Calls Try.prog 17 #[.int .i64 (k : Int), .slice a1 l.length c1, .slice a2 ts.length c2] w fun e w' => e = .returned (.int .i64 (sck (k : Int) l ts)) ∧ Below w.heap.size w w') := fun w a1 a2 c1 c2 h1 h2 => rck (k : Int) a1 a2 c1 c2 l ts hl (by omega) (by omega) hlen ht w h1 h2
  have hz := hFn.zero (by omega)
  have hv := vrs_two hFn.t0 hFn.n12 hFn.len
  rw [hz] at HCk
  have HPr : Hid (∀ w, Below W.heap.size W w → Calls Try.prog 16 #[.int .i64 (k : Int), .slice sa l.length scap, .slice a ts.length cap, .slice ra r.length rcap] w fun e w' => e = .returned (.tuple #[.agg #[.slice none 0 0, .slice none 0 0], .int .i64 5]) ∧ Below w.heap.size w w') := fun w hb => sprove_err (k : Int) _ sa a ra scap cap rcap l ts r hl (by omega) (by omega) hlen ht hr (by omega) w (hR.below hb) (hT.below hb) (hE.below hb) (by unfold pvE; rw [if_pos hz, hv, if_pos (by omega), hno, if_neg (by decide)]) (by decide)
  have HLg : Hid (Ret 18 #[.int .i64 ((2 ^ n : Nat) : Int)] (.int .i64 (n : Int))) := by
    have := rlog_any (2 ^ n)
    rw [lgz_two n (by have := hFn.n12; omega)] at this
    exact this
  obtain ⟨b0, off0, ra0, rc0, ha0, hb0, cb0, _⟩ := hT.cells 0 hFn.t0
  rw [Nat.add_zero, hFn.len.at hFn.t0] at cb0
  have HCB := Hid.mkS cb0
  have htn0 : 0 < ts.length := hFn.t0
  have htn0' : (0 : Int) < (ts.length : Int) := by omega
  obtain ⟨ln, hln⟩ : ∃ ln, ln = l.length := ⟨_, rfl⟩
  obtain ⟨tn, htn⟩ : ∃ tn, tn = ts.length := ⟨_, rfl⟩
  obtain ⟨rn, hrn⟩ : ∃ rn, rn = r.length := ⟨_, rfl⟩
  rw [← hln] at HF HRf HCk HPr K0 ⊢
  rw [← htn] at HF HRs HCk HPr K0 htn0 htn0' ⊢
  rw [← hrn] at HPr h6' ⊢
  have hn' : (n : Int) = (rn : Int) := by omega
  have HOf : Hid (∀ j : Nat, Ret 19 #[.int .i64 (k : Int), .agg #[.int .u64 ((r.getD j (0, 0)).1 : Int), .int .u64 ((r.getD j (0, 0)).2 : Int)]] (.bool (ofB (k : Int) ((r.getD j (0, 0)).1 : Int) ((r.getD j (0, 0)).2 : Int)))) := fun j => rof_any (k : Int) _ _ (hr.at j).1 (hr.at j).2
  have HEr := Hid.mkS hE
  have HNo := Hid.mkS hno
  have HRN := Hid.mkS hrn
  have hrn6 : rn ≤ 6 := by omega
  obtain rfl : n = rn := by omega
  clear hl ht hr hR hT hE f1 f2 f3 hlen hln htn hrn h1 h6 hFn hz hv cb0 hn hno hn'
  subst ha0
  generalize 2 ^ n = N2 at *
  go_enter Try.func4, Try.ntmps4
  go_upto_region 3 with (go_at_call 14; refine (HF.out _ K0.out.d).mono ?_; rintro e w1 ⟨rfl, hb1⟩; have K := Hid.mkS (K0.out.below hb1); clear hb1 K0; have l0 := K.out.l0; have t0 := K.out.t0)
  go_region_held3 (fun w => w.cell? ⟨W.heap.size, 0, none⟩ = some (.slice sa ln scap) ∧ w.cell? ⟨W.heap.size, 1, none⟩ = some (.slice (some ⟨b0, off0, none⟩) tn cap)) (first | (go_keep; done) | exact ⟨K.out.l0, K.out.t0⟩) (first
    | (go_at_call 15; refine (HRf.out _ (by first | exact K.out.d | exact K.out.d.drew)).mono ?_; rintro e w5 ⟨a5, c5, rfl, hR5, hb5⟩; have K' : Hid (Px W w5 sa (some ⟨b0, off0, none⟩) ln scap tn cap) := (by first | exact K.out.below hb5 | exact (K.out.below (Below.refl _ _).drew).below hb5); have R5 := Hid.mkS hR5; clear hb5 hR5 K l0 t0; have K := K'; clear K'; have l0 := K.out.l0; have t0 := K.out.t0)
    | (go_at_call 12; refine (HRs.out _ (by first | exact K.out.d | exact K.out.d.drew)).mono ?_; rintro e w6 ⟨a6, c6, rfl, hT6, hb6⟩; have K' : Hid (Px W w6 sa (some ⟨b0, off0, none⟩) ln scap tn cap) := (by first | exact K.out.below hb6 | exact (K.out.below (Below.refl _ _).drew).below hb6); have R6 : Hid (Py W w6 sa (some ⟨b0, off0, none⟩) a5 a6 ln scap tn cap l ts) := ⟨K'.out, (by first | exact R5.out.below hb6 | exact (R5.out.below (Below.refl _ _).drew).below hb6), hT6⟩; clear hb6 hT6 K l0 t0 R5; have K := K'; clear K'; have l0 := K.out.l0; have t0 := K.out.t0))
  go_wp2_with (first | (go_at_call 16; refine (HPr.out _ R6.out.x.d).mono ?_; rintro e w7 ⟨rfl, hb7⟩; have K7 : Hid (Pe W (w7.alloc (Obj.cells #[.slice none 0 0, .slice none 0 0] 50)) sa (some ⟨b0, off0, none⟩) a5 a6 ln scap tn cap l ts w7.heap.size) := ⟨(R6.out.below hb7).below ((Below.refl _ _).alloc (Nat.le_refl _) _), by simp [go_sem], by simp [go_sem]⟩; clear hb7 R6 K l0 t0) | (go_at_call 17; refine (HCk.out _ _ _ _ _ K7.out.y.r K7.out.y.t).mono ?_; rintro e w8 ⟨rfl, hb8⟩; have K8 := Hid.mkS (K7.out.below hb8); clear hb8 K7; have l0 := K8.out.y.x.l0; have t0 := K8.out.y.x.t0; have cb := keepc K8.out.y.x.d HCB.out) | (go_at_call 18; refine (HLg.out.go _).mono ?_; rintro e w10 ⟨rfl, hb10⟩; have K10 := Hid.mkS (K8.out.below hb10); clear hb10 K8 l0 t0 cb))
  obtain ⟨q, hq⟩ : ∃ q, q = w7.heap.size := ⟨_, rfl⟩
  rw [← hq] at K10 ⊢
  clear hq
  go_loopw [11, 12] (fun v u wr => ∃ (i : Nat) (x : Int), i ≤ n ∧ u = .int .i64 i ∧ v = .int .i64 x ∧ Hid (x = 5 ∨ (x = 0 ∧ (r.take i).all (fun e => ofB (k : Int) (e.1 : Int) (e.2 : Int)) = true)) ∧ Hid (Pe W wr sa (some ⟨b0, off0, none⟩) a5 a6 ln scap tn cap l ts q)) (fun _ u _ => n - (intOf u).toNat)
  case atStart => exact ⟨0, 0, Nat.zero_le _, rfl, rfl, Or.inr ⟨rfl, rfl⟩, K10⟩
  case round =>
    obtain ⟨i, x, hi, rfl, rfl, HX, KL⟩ := hrel
    rcases HX.out with rfl | ⟨rfl, hall⟩
    · clear HX
      go_wp2_with (go_at_call 9; refine (AW.out.go _).mono ?_; rintro e w9 ⟨rfl, hb9⟩; have K9 := Hid.mkS (KL.out.below hb9); clear hb9; have b0 := K9.out.b0; have b1 := K9.out.b1)
      go_ret
      exact ⟨rfl, K9.out.y.x.d⟩
    · clear HX
      have hlt : i < n := by
        rcases Nat.lt_or_ge i n with h | h
        · exact h
        · rw [List.take_of_length_le (by rw [← HRN.out]; exact h), HNo.out] at hall
          cases hall
      obtain ⟨b, off, rfl, hb, c1, c0⟩ := HEr.out.cells i (by rw [← HRN.out]; exact hlt)
      have d1 := keepc KL.out.y.x.d c1
      have d0 := keepc KL.out.y.x.d c0
      have HO1 := Hid.mkS (HOf.out i)
      have HTk : Hid (r.take (i + 1) = r.take i ++ [r.getD i (0, 0)]) := take_sn r i (by rw [← HRN.out]; exact hlt)
      have i1 : (i : Int) < (n : Int) := by omega
      have i2 : (0 : Int) ≤ (i : Int) := by omega
      have HAl := Hid.mkS hall
      clear c1 c0 hall
      generalize r.getD i (0, 0) = y at *
      rcases hB : ofB (k : Int) (y.1 : Int) (y.2 : Int) with _ | _
      · rw [hB] at HO1
        clear hB
        go_wp2_with (go_at_call 19; refine (HO1.out.go _).mono ?_; rintro e w11 ⟨rfl, hb11⟩; have K11 := Hid.mkS (KL.out.below hb11); clear hb11)
        exact ⟨⟨i + 1, 5, hlt, by simp, rfl, Or.inl rfl, K11⟩, by simp [intOf]; omega⟩
      · rw [hB] at HO1
        have HA2 : Hid ((r.take (i + 1)).all (fun e => ofB (k : Int) (e.1 : Int) (e.2 : Int)) = true) := by show _ = _; rw [HTk.out, List.all_append, HAl.out]; simp [hB]
        clear hB
        go_wp2_with (go_at_call 19; refine (HO1.out.go _).mono ?_; rintro e w11 ⟨rfl, hb11⟩; have K11 := Hid.mkS (KL.out.below hb11); clear hb11)
        exact ⟨⟨i + 1, 0, hlt, by simp, rfl, Or.inr ⟨rfl, HA2.out⟩, K11⟩, by simp [intOf]; omega⟩
end Go.Proofs.Ytfhojakhoobnhaa
