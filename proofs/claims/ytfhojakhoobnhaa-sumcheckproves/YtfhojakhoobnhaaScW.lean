/- SumcheckProves' guards and errors over the seat's translation. -/
import Derived.Test.YtfhojakhoobnhaaScV
namespace Go.Proofs.Ytfhojakhoobnhaa
open Go.RowKit
open Cb Ln Sc
open Tw (pm)

/-- With what the document has of the case. -/
structure Py (W w : World) (sa a ra ta : Option Addr) (ln scap tn cap : Nat) (l : List Stp) (ts : List (List (Nat × Nat))) : Prop where
  x : Px W w sa a ln scap tn cap
  r : ORow w ra l
  t : TRow w ta ts
theorem Py.below {W w w' : World} {sa a ra ta : Option Addr} {ln scap tn cap : Nat} {l : List Stp} {ts : List (List (Nat × Nat))} (h : Py W w sa a ra ta ln scap tn cap l ts) (hb : Below w.heap.size w w') : Py W w' sa a ra ta ln scap tn cap l ts := ⟨h.x.below hb, h.r.below hb, h.t.below hb⟩
/-- With a proof that says nothing. -/
structure Pe (W w : World) (sa a ra ta : Option Addr) (ln scap tn cap : Nat) (l : List Stp) (ts : List (List (Nat × Nat))) (q : Nat) : Prop where
  y : Py W w sa a ra ta ln scap tn cap l ts
  b0 : w.cell? ⟨q, 0, none⟩ = some (.slice none 0 0)
  b1 : w.cell? ⟨q, 1, none⟩ = some (.slice none 0 0)
theorem Pe.below {W w w' : World} {sa a ra ta : Option Addr} {ln scap tn cap : Nat} {l : List Stp} {ts : List (List (Nat × Nat))} {q : Nat} (h : Pe W w sa a ra ta ln scap tn cap l ts q) (hb : Below w.heap.size w w') : Pe W w' sa a ra ta ln scap tn cap l ts q := ⟨h.y.below hb, keepc hb h.b0, keepc hb h.b1⟩
set_option maxHeartbeats 2000000 in
set_option maxRecDepth 100000 in
theorem scp_far (lv : Int) (sa a ra : Option Addr) (scap cap rcap : Nat) (l : List Stp) (ts : List (List (Nat × Nat))) (r : List (Nat × Nat)) (W : World) (hT : TRow W a ts) (hno : few20 l ts = false ∨ 6 < r.length) :
    Calls Try.prog 4 #[.int .i64 lv, .agg #[.slice sa l.length scap, .slice a ts.length cap], .slice ra r.length rcap] W fun e w' => e = .returned (.bool true) ∧ Below W.heap.size W w' := by
  have AW := Hid.mkS awake20
  have HF : Hid (∀ w, Below W.heap.size W w → Calls Try.prog 14 #[.agg #[.slice sa l.length scap, .slice a ts.length cap]] w fun e w' => e = .returned (.bool (few20 l ts)) ∧ Below w.heap.size w w') := fun w hb => sfew20 sa a scap cap l ts w (hT.below hb)
  have K0 := Hid.mkS (Px.start W sa a l.length scap ts.length cap 45)
  clear hT
  rcases hB : few20 l ts with _ | _
  · rw [hB] at HF
    clear hno
    go_enter Try.func4, Try.ntmps4
    go_wp2_with (first | (go_at_call 14; refine (HF.out _ K0.out.d).mono ?_; rintro e w1 ⟨rfl, hb1⟩; have K := Hid.mkS (K0.out.below hb1); clear hb1 K0; have l0 := K.out.l0; have t0 := K.out.t0) | (go_at_call 9; refine (AW.out.go _).mono ?_; rintro e w2 ⟨rfl, hb2⟩; have K2 := Hid.mkS (K.out.below hb2); clear hb2))
    go_ret
    exact ⟨rfl, K2.out.d⟩
  · rw [hB] at HF
    have h6 : (6 : Int) < (r.length : Int) := by
      rcases hno with h | h
      · rw [hB] at h; cases h
      · omega
    clear hno
    go_enter Try.func4, Try.ntmps4
    go_wp2_with (first | (go_at_call 14; refine (HF.out _ K0.out.d).mono ?_; rintro e w1 ⟨rfl, hb1⟩; have K := Hid.mkS (K0.out.below hb1); clear hb1 K0; have l0 := K.out.l0; have t0 := K.out.t0) | (go_at_call 9; refine (AW.out.go _).mono ?_; rintro e w2 ⟨rfl, hb2⟩; have K2 := Hid.mkS (K.out.below hb2); clear hb2))
    go_ret
    exact ⟨rfl, K2.out.d⟩
set_option maxHeartbeats 4000000 in
set_option maxRecDepth 100000 in
/-- Where Check finds something. -/
theorem scp_chk (lv : Int) (sa a ra : Option Addr) (scap cap rcap : Nat) (l : List Stp) (ts : List (List (Nat × Nat))) (r : List (Nat × Nat)) (hl : ∀ o ∈ l, o.ok) (ht : ltT ts) (hr : ltE r) (W : World) (hR : ORow W sa l) (hT : TRow W a ts) (hE : ERow W ra r) (h1 : few20 l ts = true) (h6 : r.length ≤ 6) (h0 : ¬ sck lv l ts = 0) :
    Calls Try.prog 4 #[.int .i64 lv, .agg #[.slice sa l.length scap, .slice a ts.length cap], .slice ra r.length rcap] W fun e w' => e = .returned (.bool true) ∧ Below W.heap.size W w' := by
  have AW := Hid.mkS awake20
  have HF : Hid (∀ w, Below W.heap.size W w → Calls Try.prog 14 #[.agg #[.slice sa l.length scap, .slice a ts.length cap]] w fun e w' => e = .returned (.bool (few20 l ts)) ∧ Below w.heap.size w w') := fun w hb => sfew20 sa a scap cap l ts w (hT.below hb)
  have K0 := Hid.mkS (Px.start W sa a l.length scap ts.length cap 45)
  obtain ⟨f1, f2, f3⟩ := few20_true h1
  have hlen : ∀ t ∈ ts, t.length ≤ 1000 := fun t h => by have := f3 t h; omega
  rw [h1] at HF
  have h6' : ¬ (6 : Int) < (r.length : Int) := by omega
  have HRf : Hid (∀ w, Below W.heap.size W w → Calls Try.prog 15 #[.slice sa l.length scap] w fun e w' => ∃ a' cap', e = .returned (.slice a' l.length cap') ∧ ORow w' a' l ∧ Below w.heap.size w w') := fun w hb => by
    refine (rref_own sa scap l (by omega) w (hR.below hb)).mono ?_
    rintro e w' ⟨v, rfl, ho, hb'⟩
    obtain ⟨a', cap', rfl, hO⟩ := own_steps ho
    exact ⟨a', cap', rfl, hO, hb'⟩
  have HRs : Hid (∀ w, Below W.heap.size W w → Calls Try.prog 12 #[.slice a ts.length cap] w fun e w' => ∃ a' cap', e = .returned (.slice a' ts.length cap') ∧ TRow w' a' ts ∧ Below w.heap.size w w') := fun w hb => refs_any a cap ts (by omega) hlen w (hT.below hb)
  have HCk : Hid (∀ (w : World) (a1 a2 : Option Addr) (c1 c2 : Nat), ORow w a1 l → TRow w a2 ts → Calls Try.prog 17 #[.int .i64 lv, .slice a1 l.length c1, .slice a2 ts.length c2] w fun e w' => e = .returned (.int .i64 (sck lv l ts)) ∧ Below w.heap.size w w') := fun w a1 a2 c1 c2 h1 h2 => rck lv a1 a2 c1 c2 l ts hl (by omega) (by omega) hlen ht w h1 h2
  have HPr : Hid (∀ w, Below W.heap.size W w → Calls Try.prog 16 #[.int .i64 lv, .slice sa l.length scap, .slice a ts.length cap, .slice ra r.length rcap] w fun e w' => e = .returned (.tuple #[.agg #[.slice none 0 0, .slice none 0 0], .int .i64 (sck lv l ts)]) ∧ Below w.heap.size w w') := fun w hb => sprove_err lv _ sa a ra scap cap rcap l ts r hl (by omega) (by omega) hlen ht hr (by omega) w (hR.below hb) (hT.below hb) (hE.below hb) (by unfold pvE; rw [if_neg h0]) h0
  obtain ⟨ln, hln⟩ : ∃ ln, ln = l.length := ⟨_, rfl⟩
  obtain ⟨tn, htn⟩ : ∃ tn, tn = ts.length := ⟨_, rfl⟩
  obtain ⟨rn, hrn⟩ : ∃ rn, rn = r.length := ⟨_, rfl⟩
  rw [← hln] at HF HRf HCk HPr K0 ⊢
  rw [← htn] at HF HRs HCk HPr K0 ⊢
  rw [← hrn] at HPr h6' ⊢
  clear hl ht hr hR hT hE f1 f2 f3 hlen hln htn hrn h1 h6
  generalize sck lv l ts = E at *
  have h0' : (E != 0) = true := by simp [h0]
  have h0'' : (E == 0) = false := by simp [h0]
  go_enter Try.func4, Try.ntmps4
  go_upto_region 3 with (go_at_call 14; refine (HF.out _ K0.out.d).mono ?_; rintro e w1 ⟨rfl, hb1⟩; have K := Hid.mkS (K0.out.below hb1); clear hb1 K0; have l0 := K.out.l0; have t0 := K.out.t0)
  go_region_held3 (fun w => w.cell? ⟨W.heap.size, 0, none⟩ = some (.slice sa ln scap) ∧ w.cell? ⟨W.heap.size, 1, none⟩ = some (.slice a tn cap)) (first | (go_keep; done) | exact ⟨K.out.l0, K.out.t0⟩) (first
    | (go_at_call 15; refine (HRf.out _ (by first | exact K.out.d | exact K.out.d.drew)).mono ?_; rintro e w5 ⟨a5, c5, rfl, hR5, hb5⟩; have K' : Hid (Px W w5 sa a ln scap tn cap) := (by first | exact K.out.below hb5 | exact (K.out.below (Below.refl _ _).drew).below hb5); have R5 := Hid.mkS hR5; clear hb5 hR5 K l0 t0; have K := K'; clear K'; have l0 := K.out.l0; have t0 := K.out.t0)
    | (go_at_call 12; refine (HRs.out _ (by first | exact K.out.d | exact K.out.d.drew)).mono ?_; rintro e w6 ⟨a6, c6, rfl, hT6, hb6⟩; have K' : Hid (Px W w6 sa a ln scap tn cap) := (by first | exact K.out.below hb6 | exact (K.out.below (Below.refl _ _).drew).below hb6); have R6 : Hid (Py W w6 sa a a5 a6 ln scap tn cap l ts) := ⟨K'.out, (by first | exact R5.out.below hb6 | exact (R5.out.below (Below.refl _ _).drew).below hb6), hT6⟩; clear hb6 hT6 K l0 t0 R5; have K := K'; clear K'; have l0 := K.out.l0; have t0 := K.out.t0))
  go_wp2_with (first | (go_at_call 16; refine (HPr.out _ R6.out.x.d).mono ?_; rintro e w7 ⟨rfl, hb7⟩; have K7 : Hid (Pe W (w7.alloc (Obj.cells #[.slice none 0 0, .slice none 0 0] 50)) sa a a5 a6 ln scap tn cap l ts w7.heap.size) := ⟨(R6.out.below hb7).below ((Below.refl _ _).alloc (Nat.le_refl _) _), by simp [go_sem], by simp [go_sem]⟩; clear hb7 R6 K l0 t0) | (go_at_call 17; refine (HCk.out _ _ _ _ _ K7.out.y.r K7.out.y.t).mono ?_; rintro e w8 ⟨rfl, hb8⟩; have K8 := Hid.mkS (K7.out.below hb8); clear hb8 K7; have l0 := K8.out.y.x.l0; have t0 := K8.out.y.x.t0))
  obtain ⟨q, hq⟩ : ∃ q, q = w7.heap.size := ⟨_, rfl⟩
  rw [← hq] at K8 ⊢
  clear hq
  go_loopw [11, 12] (fun v u wr => v = .int .i64 E ∧ u = .int .i64 0 ∧ Hid (Pe W wr sa a a5 a6 ln scap tn cap l ts q)) (fun _ _ _ => 0)
  case atStart => exact ⟨rfl, rfl, K8⟩
  case round =>
    obtain ⟨rfl, rfl, KL⟩ := hrel
    go_wp2_with (go_at_call 9; refine (AW.out.go _).mono ?_; rintro e w9 ⟨rfl, hb9⟩; have K9 := Hid.mkS (KL.out.below hb9); clear hb9; have b0 := K9.out.b0; have b1 := K9.out.b1)
    go_ret
    exact ⟨rfl, K9.out.y.x.d⟩
end Go.Proofs.Ytfhojakhoobnhaa
