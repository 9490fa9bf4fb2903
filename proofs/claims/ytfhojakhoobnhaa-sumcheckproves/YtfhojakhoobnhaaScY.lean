/- SumcheckProves where all is well, over the seat's translation; all of it. -/
import Derived.Test.YtfhojakhoobnhaaScX
import Derived.Test.YtfhojakhoobnhaaScS
import Derived.Test.YtfhojakhoobnhaaLnK
namespace Go.Proofs.Ytfhojakhoobnhaa
open Go.RowKit
open Cb Ln Sc
open Tw (pm)

/-- With a proof. -/
structure Pm (W w : World) (sa a ra ta : Option Addr) (ln scap tn cap : Nat) (l : List Stp) (ts : List (List (Nat × Nat))) (q g1 g2 n : Nat) (rd : List (List (Nat × Nat))) (en : List (Nat × Nat)) : Prop where
  y : Py W w sa a ra ta ln scap tn cap l ts
  p0 : w.cell? ⟨q, 0, none⟩ = some (.slice (some ⟨g1, 0, none⟩) n n)
  p1 : w.cell? ⟨q, 1, none⟩ = some (.slice (some ⟨g2, 0, none⟩) tn tn)
  t : TRowC w (some ⟨g1, 0, none⟩) rd
  e : ERow w (some ⟨g2, 0, none⟩) en
theorem Pm.below {W w w' : World} {sa a ra ta : Option Addr} {ln scap tn cap : Nat} {l : List Stp} {ts : List (List (Nat × Nat))} {q g1 g2 n : Nat} {rd : List (List (Nat × Nat))} {en : List (Nat × Nat)} (h : Pm W w sa a ra ta ln scap tn cap l ts q g1 g2 n rd en) (hb : Below w.heap.size w w') : Pm W w' sa a ra ta ln scap tn cap l ts q g1 g2 n rd en := ⟨h.y.below hb, keepc hb h.p0, keepc hb h.p1, h.t.below hb, h.e.below hb⟩
/-- With the sum. -/
structure Ps (W w : World) (sa a ra ta : Option Addr) (ln scap tn cap : Nat) (l : List Stp) (ts : List (List (Nat × Nat))) (q g1 g2 n : Nat) (rd : List (List (Nat × Nat))) (en : List (Nat × Nat)) (q13 : Nat) (S : Nat × Nat) : Prop where
  m : Pm W w sa a ra ta ln scap tn cap l ts q g1 g2 n rd en
  s : El w q13 S.1 S.2
theorem Ps.below {W w w' : World} {sa a ra ta : Option Addr} {ln scap tn cap : Nat} {l : List Stp} {ts : List (List (Nat × Nat))} {q g1 g2 n : Nat} {rd : List (List (Nat × Nat))} {en : List (Nat × Nat)} {q13 : Nat} {S : Nat × Nat} (h : Ps W w sa a ra ta ln scap tn cap l ts q g1 g2 n rd en q13 S) (hb : Below w.heap.size w w') : Ps W w' sa a ra ta ln scap tn cap l ts q g1 g2 n rd en q13 S := ⟨h.m.below hb, h.s.below hb⟩
/-- What is asked in the end. -/
structure Pz (W w : World) (sa a : Option Addr) (ln scap tn cap : Nat) (q g2 : Nat) (en : List (Nat × Nat)) (q15 : Nat) (y : Nat × Nat) : Prop where
  x : Px W w sa a ln scap tn cap
  p1 : w.cell? ⟨q, 1, none⟩ = some (.slice (some ⟨g2, 0, none⟩) tn tn)
  e : ERow w (some ⟨g2, 0, none⟩) en
  c : El w q15 y.1 y.2
theorem Pz.below {W w w' : World} {sa a : Option Addr} {ln scap tn cap q g2 : Nat} {en : List (Nat × Nat)} {q15 : Nat} {y : Nat × Nat} (h : Pz W w sa a ln scap tn cap q g2 en q15 y) (hb : Below w.heap.size w w') : Pz W w' sa a ln scap tn cap q g2 en q15 y := ⟨h.x.below hb, keepc hb h.p1, h.e.below hb, h.c.below hb⟩
theorem erow_lt {w : World} {g : Nat} {es : List (Nat × Nat)} (h : ERow w (some ⟨g, 0, none⟩) es) (h0 : 0 < es.length) : g < w.heap.size := by
  obtain ⟨b, off, e, hb, _⟩ := h.cells 0 h0
  simp only [Option.some.injEq, Addr.mk.injEq] at e
  omega
theorem off2 {w : World} {b g o : Nat} {u v x : Value} (hb : b < g) (h : w.cell? ⟨b, o, none⟩ = some x) : ((w.setCell ⟨g, 0, none⟩ u).setCell ⟨g, 1, none⟩ v).cell? ⟨b, o, none⟩ = some x := by
  have n1 : ¬ g = b := by omega
  have n2 : ¬ b = g := by omega
  simp [go_sem, *]
theorem Px.set2 {W w : World} {sa a : Option Addr} {ln scap tn cap : Nat} (h : Px W w sa a ln scap tn cap) {g : Nat} (hg : W.heap.size < g) (u v : Value) : Px W ((w.setCell ⟨g, 0, none⟩ u).setCell ⟨g, 1, none⟩ v) sa a ln scap tn cap :=
  ⟨off2 hg h.l0, off2 hg h.t0, below2 h.d (by omega) _ _⟩
set_option maxHeartbeats 20000000 in
set_option maxRecDepth 100000 in
theorem scp_main (k n : Nat) (sa a ra : Option Addr) (scap cap rcap : Nat) (l : List Stp) (ts : List (List (Nat × Nat))) (r : List (Nat × Nat)) (hl : ∀ o ∈ l, o.ok) (ht : ltT ts) (hr : ltE r) (W : World) (hR : ORow W sa l) (hT : TRow W a ts) (hE : ERow W ra r) (h1 : few20 l ts = true) (h6 : r.length ≤ 6) (hFn : Fine k n l ts) (hn : r.length = n) (hro : ofT k r) :
    Calls Try.prog 4 #[.int .i64 (k : Int), .agg #[.slice sa l.length scap, .slice a ts.length cap], .slice ra r.length rcap] W fun e w' => e = .returned (.bool true) ∧ Below W.heap.size W w' := by
  have AW := Hid.mkS awake20
  have HF : Hid (∀ w, Below W.heap.size W w → Calls Try.prog 14 #[.agg #[.slice sa l.length scap, .slice a ts.length cap]] w fun e w' => e = .returned (.bool (few20 l ts)) ∧ Below w.heap.size w w') := fun w hb => sfew20 sa a scap cap l ts w (hT.below hb)
  have K0 := Hid.mkS (Px.start W sa a l.length scap ts.length cap 45)
  obtain ⟨f1, f2, f3⟩ := few20_true h1
  have hlen : ∀ t ∈ ts, t.length ≤ 1000 := fun t h => by have := f3 t h; omega
  rw [h1] at HF
  have h6' : ¬ (6 : Int) < (r.length : Int) := by omega
  have HRf : Hid (∀ w, Below W.heap.size W w → Calls Try.prog 15 #[.slice sa l.length scap] w fun e w' => ∃ a' cap', e = .returned (.slice a' l.length cap') ∧ ORow w' a' l ∧ Below w.heap.size w w') := fun w hb => by
    refine (rref_own sa scap l (by omega) w (hR.below hb)).mono ?_
    rintro e w' ⟨v, rfl, ho, hb'⟩
    obtain ⟨a', cap', rfl, hO⟩ := own_steps ho
    exact ⟨a', cap', rfl, hO, hb'⟩
  have HRs : Hid (∀ w, Below W.heap.size W w → Calls Try.prog 12 #[.slice a ts.length cap] w fun e w' => ∃ a' cap', e = .returned (.slice a' ts.length cap') ∧ TRow w' a' ts ∧ Below w.heap.size w w') := fun w hb => refs_any a cap ts (by omega) hlen w (hT.below hb)
  have HCk : Hid (∀ (w : World) (a1 a2 : Option Addr) (c1 c2 : Nat), ORow w a1 l → TRow w a2 ts → Calls Try.prog 17 #[.int .i64 (k : Int), .slice a1 l.length c1, .slice a2 ts.length c2] w fun e w' => e = .returned (.int .i64 (sck (k : Int) l ts)) ∧ Below w.heap.size w w') := fun w a1 a2 c1 c2 h1 h2 => rck (k : Int) a1 a2 c1 c2 l ts hl (by omega) (by omega) hlen ht w h1 h2
  have hz := hFn.zero (by omega)
  have hv := vrs_two hFn.t0 hFn.n12 hFn.len
  rw [hz] at HCk
  subst hn
  have HPr : Hid (∀ w, Below W.heap.size W w → Calls Try.prog 16 #[.int .i64 (k : Int), .slice sa l.length scap, .slice a ts.length cap, .slice ra r.length rcap] w fun e w' => ∃ g1 g2, e = .returned (.tuple #[.agg #[.slice (some ⟨g1, 0, none⟩) r.length r.length, .slice (some ⟨g2, 0, none⟩) ts.length ts.length], .int .i64 0]) ∧ TRowC w' (some ⟨g1, 0, none⟩) (rds l ts r) ∧ ERow w' (some ⟨g2, 0, none⟩) (cor (bnds ts r) 0) ∧ Below w.heap.size w w') := fun w hb => sprove_ok hFn (by omega) sa a ra scap cap rcap r rfl hr hro hl (by omega) (by omega) hlen ht w (hR.below hb) (hT.below hb) (hE.below hb)
  have HS : Hid (∀ w, Below W.heap.size W w → Calls Try.prog 20 #[.int .i64 (k : Int), .slice sa l.length scap, .slice a ts.length cap] w fun e w' => e = .returned (.tuple #[.agg #[.int .u64 ((sv l ts (2 ^ r.length)).1 : Int), .int .u64 ((sv l ts (2 ^ r.length)).2 : Int)], .int .i64 0]) ∧ Below w.heap.size w w') := fun w hb => ssum_ok hFn sa a scap cap hl (by omega) (by omega) hlen ht w (hR.below hb) (hT.below hb)
  have HDg : Hid (∀ (w : World) (a' : Option Addr) (c' : Nat), ORow w a' l → Calls Try.prog 21 #[.slice a' l.length c'] w fun e w' => e = .returned (.int .i64 (dgm l : Int)) ∧ Below w.heap.size w w') := fun w a' c' hO => rdegree a' c' l (by omega) hFn.chk w hO
  have HV : Hid (∀ (w : World) (g1 : Nat), Below W.heap.size W w → TRowC w (some ⟨g1, 0, none⟩) (rds l ts r) → Calls Try.prog 10 #[.int .i64 (k : Int), .int .i64 (dgm l : Int), .agg #[.int .u64 ((sv l ts (2 ^ r.length)).1 : Int), .int .u64 ((sv l ts (2 ^ r.length)).2 : Int)], .slice (some ⟨g1, 0, none⟩) r.length r.length, .slice ra r.length rcap] w fun e w' => e = .returned (.tuple #[.agg #[.int .u64 ((lv l (cor (bnds ts r) 0)).1 : Int), .int .u64 ((lv l (cor (bnds ts r) 0)).2 : Int)], .int .i64 0]) ∧ Below w.heap.size w w') := fun w g1 hb h => by
    have := sver (k : Int) (dgm l : Int) (sv l ts (2 ^ r.length)) (lt_sv hFn.k8 hl hFn.chkF ht hFn.oft _).1 (some ⟨g1, 0, none⟩) ra r.length rcap (rds l ts r) r (by rw [rds_len]; omega) (by omega) (fun t h => by
      obtain ⟨p, hp, rfl⟩ := List.getElem_of_mem h
      rw [rds_len] at hp
      have h9 := rds_one l ts r p hp
      rw [show tb (rds l ts r) p = (rds l ts r)[p] by simp [tb, List.getD, rds_len, hp]] at h9
      have := hFn.d8
      omega) (rds_of hl r ts hFn ht hro).1 hr w h (hE.below hb)
    rw [vfR_true hFn hl ht hro, rds_len] at this
    exact this
  have HAt : Hid (∀ (m : Nat) (w : World) (ta : Option Addr) (tc : Nat), m < ts.length → Below W.heap.size W w → ERow w ta (tb ts m) → Calls Try.prog 22 #[.int .i64 (k : Int), .slice ta (2 ^ r.length : Nat) tc, .slice ra r.length rcap] w fun e w' => e = .returned (.tuple #[.agg #[.int .u64 ((el (cor (bnds ts r) 0) m).1 : Int), .int .u64 ((el (cor (bnds ts r) 0) m).2 : Int)], .int .i64 0]) ∧ Below w.heap.size w w') := fun m w ta tc hm hb h1 => by
    have hlm := hFn.len.at hm
    have := at_ok k hFn.k8 ta ra tc rcap (tb ts m) r (ht.at m) hr (hlen _ (tb_mem hm)) (by omega) hlm (hFn.oft.at m) hro _ (ends_at hFn ht hr hm) w h1 (hE.below hb)
    rw [hlm] at this
    exact this
  have hvs : ltE (cor (bnds ts r) 0) ∧ ofT k (cor (bnds ts r) 0) ∧ (cor (bnds ts r) 0).length = ts.length := by
    have hb1 : ∀ (r : List (Nat × Nat)) (us : List (List (Nat × Nat))), ltT us → ofTs k us → ofT k r → ltT (bnds us r) ∧ ofTs k (bnds us r) := by
      intro r
      induction r with
      | nil => intro us h1 h2 _; exact ⟨h1, h2⟩
      | cons x r ih => intro us h1 h2 h3; exact ih (bnd us x) (ltT_bnd h1 x) (ofTs_bnd hFn.k8 h2 (h3 x (by simp))) (fun e he => h3 e (by simp [he]))
    obtain ⟨h1, h2⟩ := hb1 r ts ht hFn.oft hro
    exact ⟨ltE_cor h1 0, ofT_cor hFn.k8 h2 0, by rw [cor_len, bnds_len]⟩
  have HEv : Hid (∀ (w : World) (g2 : Nat), Below W.heap.size W w → ERow w (some ⟨g2, 0, none⟩) (cor (bnds ts r) 0) → Calls Try.prog 23 #[.int .i64 (k : Int), .slice sa l.length scap, .slice (some ⟨g2, 0, none⟩) ts.length ts.length] w fun e w' => e = .returned (.tuple #[.agg #[.int .u64 ((lv l (cor (bnds ts r) 0)).1 : Int), .int .u64 ((lv l (cor (bnds ts r) 0)).2 : Int)], .int .i64 0]) ∧ Below w.heap.size w w') := fun w g2 hb hV' => by
    have := xeval_ok k hFn.k8 sa (some ⟨g2, 0, none⟩) scap ts.length l (cor (bnds ts r) 0) hl hvs.1 (by rw [hvs.2.2]; omega) w (hR.below hb) hV' (by omega) (by rw [hvs.2.2]; exact hFn.chk) hvs.2.1
    rw [hvs.2.2] at this
    exact this
  have HLg : Hid (Ret 18 #[.int .i64 ((2 ^ r.length : Nat) : Int)] (.int .i64 (r.length : Int))) := by
    have := rlog_any (2 ^ r.length)
    rw [lgz_two r.length (by have := hFn.n12; omega)] at this
    exact this
  obtain ⟨b0, off0, ra0, rc0, ha0, hb0, cb0, _⟩ := hT.cells 0 hFn.t0
  rw [Nat.add_zero, hFn.len.at hFn.t0] at cb0
  have HCB := Hid.mkS cb0
  have htn0 : 0 < ts.length := hFn.t0
  have htn0' : (0 : Int) < (ts.length : Int) := by omega
  obtain ⟨ln, hln⟩ : ∃ ln, ln = l.length := ⟨_, rfl⟩
  obtain ⟨tn, htn⟩ : ∃ tn, tn = ts.length := ⟨_, rfl⟩
  obtain ⟨n, hrn⟩ : ∃ n, n = r.length := ⟨_, rfl⟩
  have HVS : Hid ((cor (bnds ts r) 0).length = tn) := by show _ = _; rw [htn]; exact hvs.2.2
  have HOf : Hid (∀ j : Nat, Ret 19 #[.int .i64 (k : Int), .agg #[.int .u64 ((r.getD j (0, 0)).1 : Int), .int .u64 ((r.getD j (0, 0)).2 : Int)]] (.bool true)) := fun j => by
    have := rof_any (k : Int) _ _ (hr.at j).1 (hr.at j).2
    rw [show ofB (k : Int) ((r.getD j (0, 0)).1 : Int) ((r.getD j (0, 0)).2 : Int) = true from hro.el hFn.k8 j] at this
    exact this
  have HEr := Hid.mkS hE
  have HRN := Hid.mkS hrn
  have htn5 : tn ≤ 5 := by rw [htn]; exact f2
  have HTs : Hid (TRow W a ts ∧ lenT ts (2 ^ n) ∧ tn = ts.length) := ⟨hT, by rw [hrn]; exact hFn.len, htn⟩
  clear hl ht hr hR hT hE f1 f2 f3 hlen h1 hFn hz hv hvs hro
  rw [← hln] at HF HRf HCk HPr HS HDg HEv K0 ⊢
  rw [← htn] at HF HRs HCk HPr HS HAt HEv K0 htn0 htn0' ⊢
  rw [← hrn] at HPr HS HV HAt HLg HCB h6' h6 ⊢
  clear hln htn hrn cb0
  subst ha0
  generalize lv l (cor (bnds ts r) 0) = yv at *
  generalize cor (bnds ts r) 0 = en at *
  generalize rds l ts r = rd at *
  generalize sv l ts (2 ^ n) = S at *
  generalize dgm l = dl at *
  generalize 2 ^ n = N2 at *
  go_enter Try.func4, Try.ntmps4
  go_upto_region 3 with (go_at_call 14; refine (HF.out _ K0.out.d).mono ?_; rintro e w1 ⟨rfl, hb1⟩; have K := Hid.mkS (K0.out.below hb1); clear hb1 K0; have l0 := K.out.l0; have t0 := K.out.t0)
  go_region_held3 (fun w => w.cell? ⟨W.heap.size, 0, none⟩ = some (.slice sa ln scap) ∧ w.cell? ⟨W.heap.size, 1, none⟩ = some (.slice (some ⟨b0, off0, none⟩) tn cap)) (first | (go_keep; done) | exact ⟨K.out.l0, K.out.t0⟩) (first
    | (go_at_call 15; refine (HRf.out _ (by first | exact K.out.d | exact K.out.d.drew)).mono ?_; rintro e w5 ⟨a5, c5, rfl, hR5, hb5⟩; have K' : Hid (Px W w5 sa (some ⟨b0, off0, none⟩) ln scap tn cap) := (by first | exact K.out.below hb5 | exact (K.out.below (Below.refl _ _).drew).below hb5); have R5 := Hid.mkS hR5; clear hb5 hR5 K l0 t0; have K := K'; clear K'; have l0 := K.out.l0; have t0 := K.out.t0)
    | (go_at_call 12; refine (HRs.out _ (by first | exact K.out.d | exact K.out.d.drew)).mono ?_; rintro e w6 ⟨a6, c6, rfl, hT6, hb6⟩; have K' : Hid (Px W w6 sa (some ⟨b0, off0, none⟩) ln scap tn cap) := (by first | exact K.out.below hb6 | exact (K.out.below (Below.refl _ _).drew).below hb6); have R6 : Hid (Py W w6 sa (some ⟨b0, off0, none⟩) a5 a6 ln scap tn cap l ts) := ⟨K'.out, (by first | exact R5.out.below hb6 | exact (R5.out.below (Below.refl _ _).drew).below hb6), hT6⟩; clear hb6 hT6 K l0 t0 R5; have K := K'; clear K'; have l0 := K.out.l0; have t0 := K.out.t0))
  go_wp2_with (first | (go_at_call 16; refine (HPr.out _ R6.out.x.d).mono ?_; rintro e w7 ⟨g1, g2, rfl, hT7, hE7, hb7⟩; have K7 : Hid (Pm W (w7.alloc (Obj.cells #[.slice (some ⟨g1, 0, none⟩) n n, .slice (some ⟨g2, 0, none⟩) tn tn] 50)) sa (some ⟨b0, off0, none⟩) a5 a6 ln scap tn cap l ts w7.heap.size g1 g2 n rd en) := ⟨(R6.out.below hb7).below ((Below.refl _ _).alloc (Nat.le_refl _) _), by simp [go_sem], by simp [go_sem], hT7.below ((Below.refl _ _).alloc (Nat.le_refl _) _), hE7.below ((Below.refl _ _).alloc (Nat.le_refl _) _)⟩; clear hb7 hT7 hE7 R6 K l0 t0) | (go_at_call 17; refine (HCk.out _ _ _ _ _ K7.out.y.r K7.out.y.t).mono ?_; rintro e w8 ⟨rfl, hb8⟩; have K8 := Hid.mkS (K7.out.below hb8); clear hb8 K7; have l0 := K8.out.y.x.l0; have t0 := K8.out.y.x.t0; have cb := keepc K8.out.y.x.d HCB.out) | (go_at_call 18; refine (HLg.out.go _).mono ?_; rintro e w10 ⟨rfl, hb10⟩; have K10 := Hid.mkS (K8.out.below hb10); clear hb10 K8 l0 t0 cb))
  obtain ⟨q, hq⟩ : ∃ q, q = w7.heap.size := ⟨_, rfl⟩
  rw [← hq] at K10 ⊢
  clear hq HRf HRs HCk HPr HF HLg
  go_loopw [11, 12] (fun v u wr => ∃ i : Nat, i ≤ n ∧ u = .int .i64 i ∧ v = .int .i64 0 ∧ Hid (Pm W wr sa (some ⟨b0, off0, none⟩) a5 a6 ln scap tn cap l ts q g1 g2 n rd en)) (fun _ u _ => n - (intOf u).toNat)
  case atStart => exact ⟨0, Nat.zero_le _, rfl, rfl, K10⟩
  case round =>
    obtain ⟨i, hi, rfl, rfl, K⟩ := hrel
    clear K10
    by_cases hlt : i < n
    · obtain ⟨b, off, rfl, hb, c1, c0⟩ := HEr.out.cells i (by rw [← HRN.out]; exact hlt)
      have d1 := keepc K.out.y.x.d c1
      have d0 := keepc K.out.y.x.d c0
      have HO1 := Hid.mkS (HOf.out i)
      have i1 : (i : Int) < (n : Int) := by omega
      have i2 : (0 : Int) ≤ (i : Int) := by omega
      clear c1 c0
      generalize r.getD i (0, 0) = y at *
      go_wp2_with (go_at_call 19; refine (HO1.out.go _).mono ?_; rintro e w11 ⟨rfl, hb11⟩; have K11 := Hid.mkS (K.out.below hb11); clear hb11)
      exact ⟨⟨i + 1, hlt, by simp, rfl, K11⟩, by simp [intOf]; omega⟩
    · obtain rfl : i = n := by omega
      have l0 := K.out.y.x.l0
      have t0 := K.out.y.x.t0
      go_upto_region 16 with (go_at_call 20; refine (HS.out _ K.out.y.x.d).mono ?_; rintro e w12 ⟨rfl, hb12⟩; have K12 : Hid (Ps W (w12.alloc (Obj.cells #[.int .u64 (S.1 : Int), .int .u64 (S.2 : Int)] 24)) sa (some ⟨b0, off0, none⟩) a5 a6 ln scap tn cap l ts q g1 g2 i rd en w12.heap.size S) := ⟨(K.out.below hb12).below ((Below.refl _ _).alloc (Nat.le_refl _) _), ⟨by simp [go_sem], by simp [go_sem]⟩⟩; clear hb12 K l0 t0)
      obtain ⟨q13, hq13⟩ : ∃ q13, q13 = w12.heap.size := ⟨_, rfl⟩
      obtain ⟨wq, hwq⟩ : ∃ wq, wq = (w12.alloc (Obj.cells #[.int .u64 (S.1 : Int), .int .u64 (S.2 : Int)] 24)) := ⟨_, rfl⟩
      rw [← hwq, ← hq13] at K12
      rw [← hwq, ← hq13]
      clear hwq hq13 HS HOf
      have hen : 0 < en.length := by rw [HVS.out]; exact htn0
      go_cut [15, 16] (fun p15 p16 wx => ∃ q15 : Nat, p15 = .pointer (some ⟨q15, 0, none⟩) ∧ p16 = .int .i64 0 ∧ Hid (Pz W wx sa (some ⟨b0, off0, none⟩) ln scap tn cap q g2 en q15 yv))
      case first =>
        have K := K12
        have s1 := K.out.s.hi
        have s0 := K.out.s.lo
        have p0 := K.out.m.p0
        have hzq : q13 < wq.heap.size := K.out.s.lt
        have hyq : q < wq.heap.size := cell_lt p0
        have hwq2 : W.heap.size < wq.heap.size := cell_lt K.out.m.y.x.l0
        have hgq2 : g2 < wq.heap.size := erow_lt K.out.m.e hen
        go_region_held3 (fun w => w.cell? ⟨q13, 0, none⟩ = some (.int .u64 (S.1 : Int)) ∧ w.cell? ⟨q13, 1, none⟩ = some (.int .u64 (S.2 : Int)) ∧ w.cell? ⟨q, 0, none⟩ = some (.slice (some ⟨g1, 0, none⟩) i i)) (first | (go_keep; done) | exact ⟨K.out.s.hi, K.out.s.lo, K.out.m.p0⟩ | exact ⟨off2 (by omega) K.out.s.hi, off2 (by omega) K.out.s.lo, off2 (by omega) K.out.m.p0⟩) (first
          | (go_at_call 21; refine (HDg.out _ _ _ (by first | exact K.out.m.y.r | exact (K.out.m.y.r).below (Below.refl _ _).drew | exact (K.out.m.y.r).below ((Below.refl _ _).alloc (Nat.le_refl _) _) | exact ((K.out.m.y.r).below (Below.refl _ _).drew).below ((Below.refl _ _).alloc (Nat.le_refl _) _) | exact ((K.out.m.y.r).below ((Below.refl _ _).alloc (Nat.le_refl _) _)).below (Below.refl _ _).drew)).mono ?_; rintro e w13 ⟨rfl, hb13⟩; have K' : Hid (Ps W w13 sa (some ⟨b0, off0, none⟩) a5 a6 ln scap tn cap l ts q g1 g2 i rd en q13 S) := (by first | exact K.out.below hb13 | exact (K.out.below (Below.refl _ _).drew).below hb13 | exact (K.out.below ((Below.refl _ _).alloc (Nat.le_refl _) _)).below hb13 | exact ((K.out.below (Below.refl _ _).drew).below ((Below.refl _ _).alloc (Nat.le_refl _) _)).below hb13 | exact ((K.out.below ((Below.refl _ _).alloc (Nat.le_refl _) _)).below (Below.refl _ _).drew).below hb13); (first | (have B' := B.below hb13; clear B; have B := B'; clear B') | (have B : Ew w13 _ 0 0 := (Ew.roomN _ _).below hb13) | (have B : Ew w13 _ 0 0 := (Ew.roomN _ _).drew.below hb13) | skip); clear hb13 K s1 s0 p0; have K := K'; clear K'; have s1 := K.out.s.hi; have s0 := K.out.s.lo; have p0 := K.out.m.p0; (try (have v1 := B.hi; have v0 := B.lo; have u1 := B.fhi; have u0 := B.flo)); have hzw13 : q13 < w13.heap.size := K.out.s.lt; have hyw13 : q < w13.heap.size := cell_lt p0; have hww13 : W.heap.size < w13.heap.size := cell_lt K.out.m.y.x.l0; have hgw13 : g2 < w13.heap.size := erow_lt K.out.m.e hen)
          | (go_at_call 10; refine (HV.out _ _ (by first | exact K.out.m.y.x.d | exact (K.out.below (Below.refl _ _).drew).m.y.x.d | exact (K.out.below ((Below.refl _ _).alloc (Nat.le_refl _) _)).m.y.x.d | exact ((K.out.below (Below.refl _ _).drew).below ((Below.refl _ _).alloc (Nat.le_refl _) _)).m.y.x.d | exact ((K.out.below ((Below.refl _ _).alloc (Nat.le_refl _) _)).below (Below.refl _ _).drew).m.y.x.d) (by first | exact K.out.m.t | exact (K.out.m.t).below (Below.refl _ _).drew | exact (K.out.m.t).below ((Below.refl _ _).alloc (Nat.le_refl _) _) | exact ((K.out.m.t).below (Below.refl _ _).drew).below ((Below.refl _ _).alloc (Nat.le_refl _) _) | exact ((K.out.m.t).below ((Below.refl _ _).alloc (Nat.le_refl _) _)).below (Below.refl _ _).drew)).mono ?_; rintro e w14 ⟨rfl, hb14⟩; have K' : Hid (Ps W w14 sa (some ⟨b0, off0, none⟩) a5 a6 ln scap tn cap l ts q g1 g2 i rd en q13 S) := (by first | exact K.out.below hb14 | exact (K.out.below (Below.refl _ _).drew).below hb14 | exact (K.out.below ((Below.refl _ _).alloc (Nat.le_refl _) _)).below hb14 | exact ((K.out.below (Below.refl _ _).drew).below ((Below.refl _ _).alloc (Nat.le_refl _) _)).below hb14 | exact ((K.out.below ((Below.refl _ _).alloc (Nat.le_refl _) _)).below (Below.refl _ _).drew).below hb14); (first | (have B' := B.below hb14; clear B; have B := B'; clear B') | (have B : Ew w14 _ 0 0 := (Ew.roomN _ _).below hb14) | (have B : Ew w14 _ 0 0 := (Ew.roomN _ _).drew.below hb14) | skip); clear hb14 K s1 s0 p0; have K := K'; clear K'; have s1 := K.out.s.hi; have s0 := K.out.s.lo; have p0 := K.out.m.p0; (try (have v1 := B.hi; have v0 := B.lo; have u1 := B.fhi; have u0 := B.flo)); have hzw14 : q13 < w14.heap.size := K.out.s.lt; have hyw14 : q < w14.heap.size := cell_lt p0; have hww14 : W.heap.size < w14.heap.size := cell_lt K.out.m.y.x.l0; have hgw14 : g2 < w14.heap.size := erow_lt K.out.m.e hen))
        all_goals
          go_wp2_with fail
          go_meet
          first
            | exact ⟨_, rfl, rfl, ⟨K.out.m.y.x.below ((Below.refl _ _).alloc (Nat.le_refl _) _), keepc ((Below.refl _ _).alloc (Nat.le_refl _) _) K.out.m.p1, K.out.m.e.below ((Below.refl _ _).alloc (Nat.le_refl _) _), (Ew.newN _ yv _).toEl⟩⟩
            | exact ⟨_, rfl, rfl, ⟨Px.set2 K.out.m.y.x (by omega) _ _, off2 (by omega) K.out.m.p1, ERow.set2 K.out.m.e (by omega), Elw.put B yv⟩⟩
      case rest =>
        obtain ⟨q15, rfl, rfl, K⟩ := hcut
        clear K12 HDg HV
        have p1 := K.out.p1
        have t0 := K.out.x.t0
        go_wp2_with fail
        go_loopw [17] (fun u wr => ∃ m : Nat, m ≤ tn ∧ u = .int .i64 m ∧ Hid (Pz W wr sa (some ⟨b0, off0, none⟩) ln scap tn cap q g2 en q15 yv)) (fun u _ => tn - (intOf u).toNat)
        case atStart => exact ⟨0, Nat.zero_le _, rfl, K⟩
        case round =>
          obtain ⟨m, hm, rfl, K⟩ := hrel
          clear p1 t0
          have p1 := K.out.p1
          have t0 := K.out.x.t0
          have l0 := K.out.x.l0
          by_cases hlm : m < tn
          · obtain ⟨b', off', ta, tc, e', hb', ct, hEt⟩ := HTs.out.1.cells m (by rw [← HTs.out.2.2]; exact hlm)
            simp only [Option.some.injEq, Addr.mk.injEq] at e'
            obtain ⟨rfl, rfl, _⟩ := e'
            rw [HTs.out.2.1.at (by rw [← HTs.out.2.2]; exact hlm)] at ct
            have ctw := keepc K.out.x.d ct
            have HAm : Hid (∀ w, Below W.heap.size W w → Calls Try.prog 22 #[.int .i64 (k : Int), .slice ta N2 tc, .slice ra i rcap] w fun e w' => e = .returned (.tuple #[.agg #[.int .u64 ((el en m).1 : Int), .int .u64 ((el en m).2 : Int)], .int .i64 0]) ∧ Below w.heap.size w w') := fun w hb => HAt.out m w ta tc hlm hb (hEt.below hb)
            have HEn : Hid (∀ w, ERow w (some ⟨g2, 0, none⟩) en → w.cell? ⟨g2, m * 2, none⟩ = some (.int .u64 ((el en m).1 : Int)) ∧ w.cell? ⟨g2, m * 2 + 1, none⟩ = some (.int .u64 ((el en m).2 : Int))) := fun w h => by
              obtain ⟨b, off, e, _, c1, c0⟩ := h.cells m (by rw [HVS.out]; exact hlm)
              simp only [Option.some.injEq, Addr.mk.injEq] at e
              obtain ⟨rfl, rfl, _⟩ := e
              rw [Nat.zero_add] at c1 c0
              exact ⟨c1, c0⟩
            have m1 : (m : Int) < (tn : Int) := by omega
            have m2 : (0 : Int) ≤ (m : Int) := by omega
            clear ct hEt
            generalize el en m = x at *
            go_upto_region 23 with (go_at_call 22; refine (HAm.out _ K.out.x.d).mono ?_; rintro e w16 ⟨rfl, hb16⟩; have K16 : Hid (Pz W (w16.alloc (Obj.cells #[.int .u64 (x.1 : Int), .int .u64 (x.2 : Int)] 24)) sa (some ⟨b0, off0, none⟩) ln scap tn cap q g2 en q15 yv) := (K.out.below hb16).below ((Below.refl _ _).alloc (Nat.le_refl _) _); have V16 : Hid (El (w16.alloc (Obj.cells #[.int .u64 (x.1 : Int), .int .u64 (x.2 : Int)] 24)) w16.heap.size x.1 x.2) := ⟨by simp [go_sem], by simp [go_sem]⟩; clear hb16 K p1 t0 l0 ctw)
            obtain ⟨q18, hq18⟩ : ∃ q18, q18 = w16.heap.size := ⟨_, rfl⟩
            obtain ⟨wv, hwv⟩ : ∃ wv, wv = (w16.alloc (Obj.cells #[.int .u64 (x.1 : Int), .int .u64 (x.2 : Int)] 24)) := ⟨_, rfl⟩
            rw [← hwv] at K16
            rw [← hwv, ← hq18] at V16
            rw [← hwv, ← hq18]
            clear hwv hq18
            have v1 := V16.out.hi
            have v0 := V16.out.lo
            have p1 := K16.out.p1
            obtain ⟨z1, z0⟩ := HEn.out _ K16.out.e
            go_region_held3 (fun w => w.cell? ⟨q18, 0, none⟩ = some (.int .u64 (x.1 : Int)) ∧ w.cell? ⟨q18, 1, none⟩ = some (.int .u64 (x.2 : Int)) ∧ w.cell? ⟨q, 1, none⟩ = some (.slice (some ⟨g2, 0, none⟩) tn tn) ∧ w.cell? ⟨g2, m * 2, none⟩ = some (.int .u64 (x.1 : Int)) ∧ w.cell? ⟨g2, m * 2 + 1, none⟩ = some (.int .u64 (x.2 : Int))) (go_keep) (fail)
            go_wp2_with fail
            exact ⟨⟨m + 1, hlm, by simp, (by first | exact K16.out | exact K16.out.below (Below.refl _ _).drew)⟩, by simp [intOf]; omega⟩
          · obtain rfl : m = tn := by omega
            go_wp2_with (first | (go_at_call 23; refine (HEv.out _ _ K.out.x.d K.out.e).mono ?_; rintro e w17 ⟨rfl, hb17⟩; have K17 := Hid.mkS ((K.out.below hb17).below (w' := w17.alloc (Obj.cells #[.int .u64 (yv.1 : Int), .int .u64 (yv.2 : Int)] 24)) ((Below.refl _ _).alloc (Nat.le_refl _) _)); have V17 : Hid (El (w17.alloc (Obj.cells #[.int .u64 (yv.1 : Int), .int .u64 (yv.2 : Int)] 24)) w17.heap.size yv.1 yv.2) := ⟨by simp [go_sem], by simp [go_sem]⟩; clear hb17) | (go_at_call 9; refine (AW.out.go _).mono ?_; rintro e w18 ⟨rfl, hb18⟩; have K18 := Hid.mkS (K17.out.below hb18); have V18 := Hid.mkS (V17.out.below hb18); clear hb18; have v1 := V18.out.hi; have v0 := V18.out.lo; have c1 := K18.out.c.hi; have c0 := K18.out.c.lo))
            go_ret
            exact ⟨rfl, K18.out.x.d⟩
end Go.Proofs.Ytfhojakhoobnhaa
