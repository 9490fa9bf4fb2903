/- The document's Degree, and SumcheckCounts' guards over the seat's translation. -/
import Derived.Test.YtfhojakhoobnhaaScQ
namespace Go.Proofs.Ytfhojakhoobnhaa
open Go.RowKit
open Cb Ln Sc
open Tw (pm)

set_option maxHeartbeats 1000000 in
theorem rdegree {k : Nat} {vr : Int} (sa : Option Addr) (cap : Nat) (l : List Stp) (hm : l.length ≤ 1000) (hc : chk (k : Int) vr l = 0) (W : World) (hR : ORow W sa l) :
    Calls Try.prog 21 #[.slice sa l.length cap] W fun e w' => e = .returned (.int .i64 (dgm l : Int)) ∧ Below W.heap.size W w' := by
  obtain ⟨h0, hk⟩ := chk_in hc
  have hz := chkF_zero hk (l.length - 1) (by omega)
  have HD : Hid (Calls Try.prog 50 #[.slice sa l.length cap, .int .i64 ((l.length - 1 : Nat) : Int)] W fun e w' => e = .returned (.int .i64 (dfun l (l.length - 1) : Nat)) ∧ Below W.heap.size W w') := by
    have := rdeg_at (k : Int) vr sa cap l (l.length - 1) (by omega) hm hz.1 (hnI_frm (er_hnI hz.2)) W hR
    rw [← dfun_new (by omega), show l.length - 1 + 1 = l.length by omega, List.take_of_length_le (Nat.le_refl _)] at this
    exact this
  obtain ⟨m, hm1⟩ : ∃ m, m = l.length - 1 := ⟨_, rfl⟩
  have hw : IntKind.i64.wrap ((l.length : Int) - 1) = (m : Int) := by rw [IntKind.wrap_i64]; omega
  have hw2 : (l.length : Int) - 1 = (m : Int) := by omega
  obtain ⟨y, hy⟩ : ∃ y, y = dfun l m := ⟨_, rfl⟩
  rw [← hm1, ← hy] at HD
  have HY : Hid (dgm l = max 1 y) := by show _ = _; unfold dgm; rw [← hm1, ← hy]
  clear hR hc hk hz hm1 hy
  by_cases h1 : (y : Int) < 1
  · have HZ : Hid (dgm l = 1) := by show _ = _; rw [HY.out]; omega
    go_enter Try.func21, Try.ntmps21
    go_wp2_with (go_at_call 50; refine HD.out.mono ?_; rintro e w1 ⟨rfl, hb1⟩)
    go_ret
    exact ⟨by rw [HZ.out]; rfl, hb1⟩
  · have HZ : Hid (dgm l = y) := by show _ = _; rw [HY.out]; omega
    go_enter Try.func21, Try.ntmps21
    go_wp2_with (go_at_call 50; refine HD.out.mono ?_; rintro e w1 ⟨rfl, hb1⟩)
    go_ret
    exact ⟨by rw [HZ.out]; rfl, hb1⟩
/-- A case and a strategy, in boxes of their own. -/
structure Cx (W w : World) (sa a fa ga : Option Addr) (ln scap tn cap fn fcap gn gcap : Nat) (c : Nat × Nat) : Prop where
  l0 : w.cell? ⟨W.heap.size, 0, none⟩ = some (.slice sa ln scap)
  t0 : w.cell? ⟨W.heap.size, 1, none⟩ = some (.slice a tn cap)
  e1 : w.cell? ⟨W.heap.size + 1, 0, none⟩ = some (.int .u64 (c.1 : Int))
  e0 : w.cell? ⟨W.heap.size + 1, 1, none⟩ = some (.int .u64 (c.2 : Int))
  f0 : w.cell? ⟨W.heap.size + 1, 2, none⟩ = some (.slice fa fn fcap)
  g0 : w.cell? ⟨W.heap.size + 1, 3, none⟩ = some (.slice ga gn gcap)
  d : Below W.heap.size W w
theorem Cx.below {W w w' : World} {sa a fa ga : Option Addr} {ln scap tn cap fn fcap gn gcap : Nat} {c : Nat × Nat} (h : Cx W w sa a fa ga ln scap tn cap fn fcap gn gcap c) (hb : Below w.heap.size w w') : Cx W w' sa a fa ga ln scap tn cap fn fcap gn gcap c :=
  ⟨keepc hb h.l0, keepc hb h.t0, keepc hb h.e1, keepc hb h.e0, keepc hb h.f0, keepc hb h.g0, h.d.trans (hb.mono h.d.size)⟩
theorem Cx.start (W : World) (sa a fa ga : Option Addr) (ln scap tn cap fn fcap gn gcap : Nat) (c : Nat × Nat) (T U : TypeId) : Cx W ((W.alloc (Obj.cells #[.slice sa ln scap, .slice a tn cap] T)).alloc (Obj.cells #[.int .u64 (c.1 : Int), .int .u64 (c.2 : Int), .slice fa fn fcap, .slice ga gn gcap] U)) sa a fa ga ln scap tn cap fn fcap gn gcap c :=
  ⟨by simp [go_sem], by simp [go_sem], by simp [go_sem], by simp [go_sem], by simp [go_sem], by simp [go_sem], by go_grown⟩
set_option maxHeartbeats 4000000 in
set_option maxRecDepth 100000 in
/-- What is not gone through. -/
theorem scc_far (lv : Int) (sa a fa ga : Option Addr) (scap cap fcap gcap : Nat) (l : List Stp) (ts : List (List (Nat × Nat))) (c : Nat × Nat) (f : List (Nat × Nat)) (g : List (List (Nat × Nat))) (W : World) (hT : TRow W a ts) (hG : TRowC W ga g) (hno : few20 l ts = false ∨ lv < 0 ∨ 1 < lv ∨ fewT g 4 10 = false ∨ 10 < f.length) :
    Calls Try.prog 5 #[.int .i64 lv, .agg #[.slice sa l.length scap, .slice a ts.length cap], .agg #[.int .u64 (c.1 : Int), .int .u64 (c.2 : Int), .slice fa f.length fcap, .slice ga g.length gcap]] W fun e w' => e = .returned (.bool true) ∧ Below W.heap.size W w' := by
  have AW := Hid.mkS awake20
  have HF : Hid (∀ w, Below W.heap.size W w → Calls Try.prog 14 #[.agg #[.slice sa l.length scap, .slice a ts.length cap]] w fun e w' => e = .returned (.bool (few20 l ts)) ∧ Below w.heap.size w w') := fun w hb => sfew20 sa a scap cap l ts w (hT.below hb)
  have HG : Hid (∀ w, Below W.heap.size W w → Calls Try.prog 8 #[.slice ga g.length gcap, .int .i64 4, .int .i64 10] w fun e w' => e = .returned (.bool (fewT g 4 10)) ∧ Below w.heap.size w w') := fun w hb => sfew ga gcap 4 10 g (by decide) w (hG.t.below hb)
  have K0 := Hid.mkS (Cx.start W sa a fa ga l.length scap ts.length cap f.length fcap g.length gcap c 45 62)
  clear hT hG
  rcases hB : few20 l ts with _ | _
  · rw [hB] at HF
    clear hno
    go_enter Try.func5, Try.ntmps5
    go_wp2_with (first | (go_at_call 14; refine (HF.out _ K0.out.d).mono ?_; rintro e w1 ⟨rfl, hb1⟩; have K := Hid.mkS (K0.out.below hb1); clear hb1; have l0 := K.out.l0; have t0 := K.out.t0; have f0 := K.out.f0; have g0 := K.out.g0) | (go_at_call 9; refine (AW.out.go _).mono ?_; rintro e w4 ⟨rfl, hb4⟩; have K' := Hid.mkS (K.out.below hb4); clear hb4 K l0 t0 f0 g0; have K := K'; clear K'; have l0 := K.out.l0; have t0 := K.out.t0; have f0 := K.out.f0; have g0 := K.out.g0))
    go_ret
    exact ⟨rfl, K.out.d⟩
  rw [hB] at HF
  by_cases h1 : lv < 0
  · clear hno
    go_enter Try.func5, Try.ntmps5
    go_wp2_with (first | (go_at_call 14; refine (HF.out _ K0.out.d).mono ?_; rintro e w1 ⟨rfl, hb1⟩; have K := Hid.mkS (K0.out.below hb1); clear hb1; have l0 := K.out.l0; have t0 := K.out.t0; have f0 := K.out.f0; have g0 := K.out.g0) | (go_at_call 9; refine (AW.out.go _).mono ?_; rintro e w4 ⟨rfl, hb4⟩; have K' := Hid.mkS (K.out.below hb4); clear hb4 K l0 t0 f0 g0; have K := K'; clear K'; have l0 := K.out.l0; have t0 := K.out.t0; have f0 := K.out.f0; have g0 := K.out.g0))
    go_ret
    exact ⟨rfl, K.out.d⟩
  by_cases h2 : 1 < lv
  · clear hno
    go_enter Try.func5, Try.ntmps5
    go_wp2_with (first | (go_at_call 14; refine (HF.out _ K0.out.d).mono ?_; rintro e w1 ⟨rfl, hb1⟩; have K := Hid.mkS (K0.out.below hb1); clear hb1; have l0 := K.out.l0; have t0 := K.out.t0; have f0 := K.out.f0; have g0 := K.out.g0) | (go_at_call 9; refine (AW.out.go _).mono ?_; rintro e w4 ⟨rfl, hb4⟩; have K' := Hid.mkS (K.out.below hb4); clear hb4 K l0 t0 f0 g0; have K := K'; clear K'; have l0 := K.out.l0; have t0 := K.out.t0; have f0 := K.out.f0; have g0 := K.out.g0))
    go_ret
    exact ⟨rfl, K.out.d⟩
  rcases hD : fewT g 4 10 with _ | _
  · rw [hD] at HG
    clear hno
    go_enter Try.func5, Try.ntmps5
    go_wp2_with (first | (go_at_call 14; refine (HF.out _ K0.out.d).mono ?_; rintro e w1 ⟨rfl, hb1⟩; have K := Hid.mkS (K0.out.below hb1); clear hb1; have l0 := K.out.l0; have t0 := K.out.t0; have f0 := K.out.f0; have g0 := K.out.g0) | (go_at_call 8; refine (HG.out _ K.out.d).mono ?_; rintro e w2 ⟨rfl, hb2⟩; have K' := Hid.mkS (K.out.below hb2); clear hb2 K l0 t0 f0 g0; have K := K'; clear K'; have l0 := K.out.l0; have t0 := K.out.t0; have f0 := K.out.f0; have g0 := K.out.g0) | (go_at_call 9; refine (AW.out.go _).mono ?_; rintro e w4 ⟨rfl, hb4⟩; have K' := Hid.mkS (K.out.below hb4); clear hb4 K l0 t0 f0 g0; have K := K'; clear K'; have l0 := K.out.l0; have t0 := K.out.t0; have f0 := K.out.f0; have g0 := K.out.g0))
    go_ret
    exact ⟨rfl, K.out.d⟩
  rw [hD] at HG
  have h5 : (10 : Int) < (f.length : Int) := by
    rcases hno with h | h | h | h | h
    · rw [hB] at h; cases h
    · exact absurd h h1
    · exact absurd h h2
    · rw [hD] at h; cases h
    · omega
  clear hno
  go_enter Try.func5, Try.ntmps5
  go_wp2_with (first | (go_at_call 14; refine (HF.out _ K0.out.d).mono ?_; rintro e w1 ⟨rfl, hb1⟩; have K := Hid.mkS (K0.out.below hb1); clear hb1; have l0 := K.out.l0; have t0 := K.out.t0; have f0 := K.out.f0; have g0 := K.out.g0) | (go_at_call 8; refine (HG.out _ K.out.d).mono ?_; rintro e w2 ⟨rfl, hb2⟩; have K' := Hid.mkS (K.out.below hb2); clear hb2 K l0 t0 f0 g0; have K := K'; clear K'; have l0 := K.out.l0; have t0 := K.out.t0; have f0 := K.out.f0; have g0 := K.out.g0) | (go_at_call 9; refine (AW.out.go _).mono ?_; rintro e w4 ⟨rfl, hb4⟩; have K' := Hid.mkS (K.out.below hb4); clear hb4 K l0 t0 f0 g0; have K := K'; clear K'; have l0 := K.out.l0; have t0 := K.out.t0; have f0 := K.out.f0; have g0 := K.out.g0))
  go_ret
  exact ⟨rfl, K.out.d⟩
set_option maxHeartbeats 4000000 in
set_option maxRecDepth 100000 in
/-- What is no composition of tables of four. -/
theorem scc_err (lv : Int) (sa a fa ga : Option Addr) (scap cap fcap gcap : Nat) (l : List Stp) (ts : List (List (Nat × Nat))) (c : Nat × Nat) (f : List (Nat × Nat)) (g : List (List (Nat × Nat))) (hl : ∀ o ∈ l, o.ok) (ht : ltT ts) (W : World) (hR : ORow W sa l) (hT : TRow W a ts) (hG : TRowC W ga g) (h1 : few20 l ts = true) (h2 : ¬ lv < 0) (h3 : ¬ 1 < lv) (h4 : fewT g 4 10 = true) (h5 : f.length ≤ 10) (hno : ¬ sck lv l ts = 0 ∨ ¬ (tb ts 0).length = 4) :
    Calls Try.prog 5 #[.int .i64 lv, .agg #[.slice sa l.length scap, .slice a ts.length cap], .agg #[.int .u64 (c.1 : Int), .int .u64 (c.2 : Int), .slice fa f.length fcap, .slice ga g.length gcap]] W fun e w' => e = .returned (.bool true) ∧ Below W.heap.size W w' := by
  have AW := Hid.mkS awake20
  have HF : Hid (∀ w, Below W.heap.size W w → Calls Try.prog 14 #[.agg #[.slice sa l.length scap, .slice a ts.length cap]] w fun e w' => e = .returned (.bool (few20 l ts)) ∧ Below w.heap.size w w') := fun w hb => sfew20 sa a scap cap l ts w (hT.below hb)
  have HG : Hid (∀ w, Below W.heap.size W w → Calls Try.prog 8 #[.slice ga g.length gcap, .int .i64 4, .int .i64 10] w fun e w' => e = .returned (.bool (fewT g 4 10)) ∧ Below w.heap.size w w') := fun w hb => sfew ga gcap 4 10 g (by decide) w (hG.t.below hb)
  have K0 := Hid.mkS (Cx.start W sa a fa ga l.length scap ts.length cap f.length fcap g.length gcap c 45 62)
  obtain ⟨f1, f2, f3⟩ := few20_true h1
  have HC : Hid (∀ w, Below W.heap.size W w → Calls Try.prog 24 #[.int .i64 lv, .slice sa l.length scap, .slice a ts.length cap] w fun e w' => e = .returned (.int .i64 (sck lv l ts)) ∧ Below w.heap.size w w') := fun w hb => scheck lv sa a scap cap l ts hl (by omega) (by omega) (fun t h => by have := f3 t h; omega) ht w (hR.below hb) (hT.below hb)
  rw [h1] at HF
  rw [h4] at HG
  have h5' : ¬ (10 : Int) < (f.length : Int) := by omega
  by_cases h6 : sck lv l ts = 0
  · obtain ⟨k, n, rfl, _, hFn⟩ := sck_zero (by omega) h6
    have h7 : ¬ (tb ts 0).length = 4 := by rcases hno with h | h; exact absurd h6 h; exact h
    obtain ⟨b0, off0, ra0, rc0, rfl, hb0, cb0, _⟩ := hT.cells 0 hFn.t0
    rw [Nat.add_zero] at cb0
    have HCB := Hid.mkS cb0
    have h8 : ¬ ((tb ts 0).length : Int) = 4 := by omega
    have ht0 : 0 < ts.length := hFn.t0
    have ht0' : (0 : Int) < (ts.length : Int) := by omega
    rw [h6] at HC
    clear hT hG hR hl ht f1 f2 f3 hno h6 h7 hFn cb0 h1 h4
    generalize (tb ts 0).length = len at *
    go_enter Try.func5, Try.ntmps5
    go_wp2_with (first | (go_at_call 14; refine (HF.out _ K0.out.d).mono ?_; rintro e w1 ⟨rfl, hb1⟩; have K := Hid.mkS (K0.out.below hb1); clear hb1; have l0 := K.out.l0; have t0 := K.out.t0; have f0 := K.out.f0; have g0 := K.out.g0) | (go_at_call 8; refine (HG.out _ K.out.d).mono ?_; rintro e w2 ⟨rfl, hb2⟩; have K' := Hid.mkS (K.out.below hb2); clear hb2 K l0 t0 f0 g0; have K := K'; clear K'; have l0 := K.out.l0; have t0 := K.out.t0; have f0 := K.out.f0; have g0 := K.out.g0) | (go_at_call 24; refine (HC.out _ K.out.d).mono ?_; rintro e w3 ⟨rfl, hb3⟩; have K' := Hid.mkS (K.out.below hb3); clear hb3 K l0 t0 f0 g0; have K := K'; clear K'; have l0 := K.out.l0; have t0 := K.out.t0; have f0 := K.out.f0; have g0 := K.out.g0; have cb := keepc K.out.d HCB.out) | (go_at_call 9; refine (AW.out.go _).mono ?_; rintro e w4 ⟨rfl, hb4⟩; have K' := Hid.mkS (K.out.below hb4); clear hb4 K l0 t0 f0 g0; have K := K'; clear K'; have l0 := K.out.l0; have t0 := K.out.t0; have f0 := K.out.f0; have g0 := K.out.g0))
    go_ret
    exact ⟨rfl, K.out.d⟩
  · clear hT hG hR hl ht f1 f2 f3 hno h1 h4
    generalize sck lv l ts = E at *
    have h0' : (E != 0) = true := by simp [h6]
    go_enter Try.func5, Try.ntmps5
    go_wp2_with (first | (go_at_call 14; refine (HF.out _ K0.out.d).mono ?_; rintro e w1 ⟨rfl, hb1⟩; have K := Hid.mkS (K0.out.below hb1); clear hb1; have l0 := K.out.l0; have t0 := K.out.t0; have f0 := K.out.f0; have g0 := K.out.g0) | (go_at_call 8; refine (HG.out _ K.out.d).mono ?_; rintro e w2 ⟨rfl, hb2⟩; have K' := Hid.mkS (K.out.below hb2); clear hb2 K l0 t0 f0 g0; have K := K'; clear K'; have l0 := K.out.l0; have t0 := K.out.t0; have f0 := K.out.f0; have g0 := K.out.g0) | (go_at_call 24; refine (HC.out _ K.out.d).mono ?_; rintro e w3 ⟨rfl, hb3⟩; have K' := Hid.mkS (K.out.below hb3); clear hb3 K l0 t0 f0 g0; have K := K'; clear K'; have l0 := K.out.l0; have t0 := K.out.t0; have f0 := K.out.f0; have g0 := K.out.g0) | (go_at_call 9; refine (AW.out.go _).mono ?_; rintro e w4 ⟨rfl, hb4⟩; have K' := Hid.mkS (K.out.below hb4); clear hb4 K l0 t0 f0 g0; have K := K'; clear K'; have l0 := K.out.l0; have t0 := K.out.t0; have f0 := K.out.f0; have g0 := K.out.g0))
    go_ret
    exact ⟨rfl, K.out.d⟩
end Go.Proofs.Ytfhojakhoobnhaa
