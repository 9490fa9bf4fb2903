/- The walk of SumcheckSplits over the seat's translation. -/
import Derived.Test.YtfhojakhoobnhaaScK
namespace Go.Proofs.Ytfhojakhoobnhaa
open Go.RowKit
open Cb Ln Sc
open Tw (pm)

/-- A case and an element, in boxes of their own. -/
structure Sx (W w : World) (sa a : Option Addr) (ln scap tn cap : Nat) (r : Nat × Nat) : Prop where
  l0 : w.cell? ⟨W.heap.size, 0, none⟩ = some (.slice sa ln scap)
  t0 : w.cell? ⟨W.heap.size, 1, none⟩ = some (.slice a tn cap)
  e1 : w.cell? ⟨W.heap.size + 1, 0, none⟩ = some (.int .u64 (r.1 : Int))
  e0 : w.cell? ⟨W.heap.size + 1, 1, none⟩ = some (.int .u64 (r.2 : Int))
  d : Below W.heap.size W w
theorem Sx.below {W w w' : World} {sa a : Option Addr} {ln scap tn cap : Nat} {r : Nat × Nat} (h : Sx W w sa a ln scap tn cap r) (hb : Below w.heap.size w w') : Sx W w' sa a ln scap tn cap r :=
  ⟨keepc hb h.l0, keepc hb h.t0, keepc hb h.e1, keepc hb h.e0, h.d.trans (hb.mono h.d.size)⟩
theorem Sx.start (W : World) (sa a : Option Addr) (ln scap tn cap : Nat) (r : Nat × Nat) (T U : TypeId) : Sx W ((W.alloc (Obj.cells #[.slice sa ln scap, .slice a tn cap] T)).alloc (Obj.cells #[.int .u64 (r.1 : Int), .int .u64 (r.2 : Int)] U)) sa a ln scap tn cap r :=
  ⟨by simp [go_sem], by simp [go_sem], by simp [go_sem], by simp [go_sem], by go_grown⟩
/-- With a row of values and what was found so far. -/
structure Sy (W w : World) (sa a : Option Addr) (ln scap tn cap : Nat) (r : Nat × Nat) (g : Nat) (rv : List (Nat × Nat)) : Prop where
  x : Sx W w sa a ln scap tn cap r
  v : ERow w (some ⟨g, 0, none⟩) rv
theorem Sy.below {W w w' : World} {sa a : Option Addr} {ln scap tn cap : Nat} {r : Nat × Nat} {g : Nat} {rv : List (Nat × Nat)} (h : Sy W w sa a ln scap tn cap r g rv) (hb : Below w.heap.size w w') : Sy W w' sa a ln scap tn cap r g rv := ⟨h.x.below hb, h.v.below hb⟩
theorem trc1 {w : World} {b g dd rc : Nat} {rv : List (Nat × Nat)} (h : w.cell? ⟨b, 0, none⟩ = some (.slice (some ⟨g, 0, none⟩) dd rc)) (hl : rv.length = dd) (hc : dd ≤ rc) (hE : ERow w (some ⟨g, 0, none⟩) rv) : TRowC w (some ⟨b, 0, none⟩) [rv] := ⟨fun i hi => by
  simp at hi
  subst hi
  refine ⟨b, 0, _, rc, rfl, cell_lt h, ?_, ?_, hE⟩
  · show _ = some (Value.slice (some ⟨g, 0, none⟩) rv.length rc)
    rw [hl]; exact h
  · show rv.length ≤ rc
    rw [hl]; exact hc⟩
/-- What is held together in the end. -/
structure Fz (W w : World) (q9 q13 q15 g : Nat) (S S2 : Nat × Nat) (rv : List (Nat × Nat)) : Prop where
  d : Below W.heap.size W w
  v : ERow w (some ⟨g, 0, none⟩) rv
  s : El w q9 S.1 S.2
  t : El w q13 S2.1 S2.2
  c : El w q15 S2.1 S2.2
theorem Fz.below {W w w' : World} {q9 q13 q15 g : Nat} {S S2 : Nat × Nat} {rv : List (Nat × Nat)} (h : Fz W w q9 q13 q15 g S S2 rv) (hb : Below w.heap.size w w') : Fz W w' q9 q13 q15 g S S2 rv := ⟨h.d.trans (hb.mono h.d.size), h.v.below hb, h.s.below hb, h.t.below hb, h.c.below hb⟩
theorem Fz.facts {W w : World} {q9 q13 q15 g : Nat} {S S2 : Nat × Nat} {rv : List (Nat × Nat)} (h : Fz W w q9 q13 q15 g S S2 rv) (hr : 1 < rv.length) :
    w.cell? ⟨g, 0, none⟩ = some (.int .u64 ((el rv 0).1 : Int)) ∧ w.cell? ⟨g, 1, none⟩ = some (.int .u64 ((el rv 0).2 : Int)) ∧ w.cell? ⟨g, 2, none⟩ = some (.int .u64 ((el rv 1).1 : Int)) ∧ w.cell? ⟨g, 3, none⟩ = some (.int .u64 ((el rv 1).2 : Int)) ∧ w.cell? ⟨q9, 0, none⟩ = some (.int .u64 (S.1 : Int)) ∧ w.cell? ⟨q9, 1, none⟩ = some (.int .u64 (S.2 : Int)) ∧ w.cell? ⟨q13, 0, none⟩ = some (.int .u64 (S2.1 : Int)) ∧ w.cell? ⟨q13, 1, none⟩ = some (.int .u64 (S2.2 : Int)) ∧ w.cell? ⟨q15, 0, none⟩ = some (.int .u64 (S2.1 : Int)) ∧ w.cell? ⟨q15, 1, none⟩ = some (.int .u64 (S2.2 : Int)) := by
  obtain ⟨b, off, e, _, c1, c0⟩ := h.v.cells 0 (by omega)
  obtain ⟨b', off', e', _, c3, c2⟩ := h.v.cells 1 hr
  simp only [Option.some.injEq, Addr.mk.injEq] at e e'
  obtain ⟨rfl, rfl, _⟩ := e
  obtain ⟨rfl, rfl, _⟩ := e'
  exact ⟨c1, c0, c3, c2, h.s.hi, h.s.lo, h.t.hi, h.t.lo, h.c.hi, h.c.lo⟩
set_option maxHeartbeats 8000000 in
set_option maxRecDepth 100000 in
theorem scs_any (lv : Int) (sa a : Option Addr) (scap cap : Nat) (l : List Stp) (ts : List (List (Nat × Nat))) (r : Nat × Nat) (hl : ∀ o ∈ l, o.ok) (ht : ltT ts) (hr : lt2 r) (W : World) (hR : ORow W sa l) (hT : TRow W a ts) :
    Calls Try.prog 6 #[.int .i64 lv, .agg #[.slice sa l.length scap, .slice a ts.length cap], .agg #[.int .u64 (r.1 : Int), .int .u64 (r.2 : Int)]] W fun e w' => e = .returned (.bool true) ∧ Below W.heap.size W w' := by
  have AW := Hid.mkS awake20
  have HF : Hid (∀ w, Below W.heap.size W w → Calls Try.prog 14 #[.agg #[.slice sa l.length scap, .slice a ts.length cap]] w fun e w' => e = .returned (.bool (few20 l ts)) ∧ Below w.heap.size w w') := fun w hb => sfew20 sa a scap cap l ts w (hT.below hb)
  have K0 := Hid.mkS (Sx.start W sa a l.length scap ts.length cap r 45 24)
  rcases hB : few20 l ts with _ | _
  · rw [hB] at HF
    clear hB hT hR hl ht hr
    go_enter Try.func6, Try.ntmps6
    go_wp2_with (first | (go_at_call 14; refine (HF.out _ K0.out.d).mono ?_; rintro e w1 ⟨rfl, hb1⟩; have K1 := Hid.mkS (K0.out.below hb1); clear hb1) | (go_at_call 9; refine (AW.out.go _).mono ?_; rintro e w2 ⟨rfl, hb2⟩; have K2 := Hid.mkS (K1.out.below hb2); clear hb2))
    go_ret
    exact ⟨rfl, K2.out.d⟩
  obtain ⟨hf1, hf2, hf3⟩ := few20_true hB
  rw [hB] at HF
  clear hB
  have hlen : ∀ t ∈ ts, t.length ≤ 1000 := fun t h => by have := hf3 t h; omega
  by_cases h0 : rdE lv l ts = 0
  case neg =>
    have HRd : Hid (∀ w, Below W.heap.size W w → Calls Try.prog 25 #[.int .i64 lv, .slice sa l.length scap, .slice a ts.length cap] w fun e w' => e = .returned (.tuple #[.slice none 0 0, .int .i64 (rdE lv l ts)]) ∧ Below w.heap.size w w') := fun w hb => srnd_err lv _ sa a scap cap l ts hl (by omega) (by omega) hlen ht w (hR.below hb) (hT.below hb) rfl h0
    clear hT hR hl ht hr hf1 hf2 hf3 hlen
    generalize rdE lv l ts = E at *
    have h0' : (E != 0) = true := by simp [h0]
    go_enter Try.func6, Try.ntmps6
    go_wp2_with (first | (go_at_call 14; refine (HF.out _ K0.out.d).mono ?_; rintro e w1 ⟨rfl, hb1⟩; have K1 := Hid.mkS (K0.out.below hb1); clear hb1; have l0 := K1.out.l0; have t0 := K1.out.t0) | (go_at_call 25; refine (HRd.out _ K1.out.d).mono ?_; rintro e w2 ⟨rfl, hb2⟩; have K2 := Hid.mkS (K1.out.below hb2); clear hb2) | (go_at_call 9; refine (AW.out.go _).mono ?_; rintro e w3 ⟨rfl, hb3⟩; have K3 := Hid.mkS (K2.out.below hb3); clear hb3))
    go_ret
    exact ⟨rfl, K3.out.d⟩
  obtain ⟨k, n, rfl, hF⟩ : ∃ k n : Nat, lv = (k : Int) ∧ Fine k (n + 1) l ts := by
    unfold rdE at h0
    by_cases h1 : sck lv l ts = 0
    · rw [if_pos h1] at h0
      obtain ⟨k, n, e, ev, hF⟩ := sck_zero (by omega) h1
      rcases n with _ | n
      · rw [if_pos (by rw [ev]; rfl)] at h0; cases h0
      · exact ⟨k, n, e, hF⟩
    · rw [if_neg h1] at h0; exact absurd h0 h1
  clear h0
  have hn : n ≤ 3 := by
    have h1 := hf3 _ (tb_mem hF.t0)
    rw [hF.len.at hF.t0] at h1
    rcases Nat.lt_or_ge 3 n with h | h
    · have : 2 ^ 5 ≤ 2 ^ (n + 1) := Nat.pow_le_pow_right (by decide) (by omega)
      omega
    · exact h
  have HRd : Hid (∀ w, Below W.heap.size W w → Calls Try.prog 25 #[.int .i64 (k : Int), .slice sa l.length scap, .slice a ts.length cap] w fun e w' => ∃ g, e = .returned (.tuple #[.slice (some ⟨g, 0, none⟩) (dgm l + 1) (dgm l + 1), .int .i64 0]) ∧ ERow w' (some ⟨g, 0, none⟩) (rnd l ts (2 ^ n)) ∧ Below w.heap.size w w') := fun w hb => srnd_ok hF (by omega) sa a scap cap hl (by omega) (by omega) hlen ht w (hR.below hb) (hT.below hb)
  have HO := Hid.mkS (rof_any (k : Int) r.1 r.2 hr.1 hr.2)
  rcases hro : ofB (k : Int) (r.1 : Int) (r.2 : Int) with _ | _
  · rw [hro] at HO
    clear hT hR hl ht hr hf1 hf2 hf3 hlen hF hro
    generalize rnd l ts (2 ^ n) = rv at *
    generalize dgm l + 1 = dd at *
    go_enter Try.func6, Try.ntmps6
    go_wp2_with (first | (go_at_call 14; refine (HF.out _ K0.out.d).mono ?_; rintro e w1 ⟨rfl, hb1⟩; have K1 := Hid.mkS (K0.out.below hb1); clear hb1; have l0 := K1.out.l0; have t0 := K1.out.t0) | (go_at_call 25; refine (HRd.out _ K1.out.d).mono ?_; rintro e w2 ⟨g, rfl, hE2, hb2⟩; have K2 := Hid.mkS (K1.out.below hb2); clear hb2 hE2; have e1 := K2.out.e1; have e0 := K2.out.e0) | (go_at_call 19; refine (HO.out.go _).mono ?_; rintro e w3 ⟨rfl, hb3⟩; have K3 := Hid.mkS (K2.out.below hb3); clear hb3) | (go_at_call 9; refine (AW.out.go _).mono ?_; rintro e w4 ⟨rfl, hb4⟩; have K4 := Hid.mkS (K3.out.below hb4); clear hb4))
    go_ret
    exact ⟨rfl, K4.out.d⟩
  rw [hro] at HO
  have ro : ofE k r := hro
  obtain ⟨hver, hrl, hspl⟩ := split_ver hF hl ht ro
  have HS : Hid (∀ w, Below W.heap.size W w → Calls Try.prog 20 #[.int .i64 (k : Int), .slice sa l.length scap, .slice a ts.length cap] w fun e w' => e = .returned (.tuple #[.agg #[.int .u64 ((sv l ts (2 ^ (n + 1))).1 : Int), .int .u64 ((sv l ts (2 ^ (n + 1))).2 : Int)], .int .i64 0]) ∧ Below w.heap.size w w') := fun w hb => ssum_ok hF sa a scap cap hl (by omega) (by omega) hlen ht w (hR.below hb) (hT.below hb)
  have HBi : Hid (∀ w, Below W.heap.size W w → Calls Try.prog 26 #[.int .i64 (k : Int), .slice a ts.length cap, .agg #[.int .u64 (r.1 : Int), .int .u64 (r.2 : Int)]] w fun e w' => ∃ g, e = .returned (.tuple #[.slice (some ⟨g, 0, none⟩) ts.length ts.length, .int .i64 0]) ∧ TRow w' (some ⟨g, 0, none⟩) (bnd ts r) ∧ Below w.heap.size w w') := fun w hb => sbind_ok k n hF.k8 a cap ts r (by omega) (by omega) (by rw [Nat.add_comm]; exact hF.len) ht hF.oft hr ro w (hT.below hb)
  have HS2 : Hid (∀ w g, Below W.heap.size W w → TRow w (some ⟨g, 0, none⟩) (bnd ts r) → Calls Try.prog 20 #[.int .i64 (k : Int), .slice sa l.length scap, .slice (some ⟨g, 0, none⟩) ts.length ts.length] w fun e w' => e = .returned (.tuple #[.agg #[.int .u64 ((sv l (bnd ts r) (2 ^ n)).1 : Int), .int .u64 ((sv l (bnd ts r) (2 ^ n)).2 : Int)], .int .i64 0]) ∧ Below w.heap.size w w') := fun w g hb hT' => by
    have := ssum_ok (hF.bnd ro) sa (some ⟨g, 0, none⟩) scap ts.length hl (by omega) (by rw [bnd_len]; omega) (fun t h => by
      obtain ⟨s, hs, rfl⟩ := List.mem_map.1 h
      rw [fst1, half_len]; have := hlen s hs; omega) (ltT_bnd ht r) w (hR.below hb) hT'
    rw [bnd_len] at this
    exact this
  have HV : Hid (∀ w b rb, TRowC w (some ⟨b, 0, none⟩) [rnd l ts (2 ^ n)] → ERow w (some ⟨rb, 0, none⟩) [r] → Calls Try.prog 10 #[.int .i64 (k : Int), .int .i64 (dgm l : Int), .agg #[.int .u64 ((sv l ts (2 ^ (n + 1))).1 : Int), .int .u64 ((sv l ts (2 ^ (n + 1))).2 : Int)], .slice (some ⟨b, 0, none⟩) 1 1, .slice (some ⟨rb, 0, none⟩) 1 1] w fun e w' => e = .returned (.tuple #[.agg #[.int .u64 ((sv l (bnd ts r) (2 ^ n)).1 : Int), .int .u64 ((sv l (bnd ts r) (2 ^ n)).2 : Int)], .int .i64 0]) ∧ Below w.heap.size w w') := fun w b rb h1 h2 => by
    have := sver (k : Int) (dgm l : Int) (sv l ts (2 ^ (n + 1))) (lt_sv hF.k8 hl hF.chkF ht hF.oft _).1 (some ⟨b, 0, none⟩) (some ⟨rb, 0, none⟩) 1 1 [rnd l ts (2 ^ n)] [r] (by simp) (by simp) (fun t h => by simp at h; subst h; rw [rnd_len]; have := hF.d8; omega) (fun t h => by simp at h; subst h; exact hrl) (by intro e he; simp at he; subst he; exact hr) w h1 h2
    rw [hver] at this
    exact this
  have HAd : Hid (Ret 27 #[.agg #[.int .u64 ((el (rnd l ts (2 ^ n)) 0).1 : Int), .int .u64 ((el (rnd l ts (2 ^ n)) 0).2 : Int)], .agg #[.int .u64 ((el (rnd l ts (2 ^ n)) 1).1 : Int), .int .u64 ((el (rnd l ts (2 ^ n)) 1).2 : Int)]] (.agg #[.int .u64 ((sv l ts (2 ^ (n + 1))).1 : Int), .int .u64 ((sv l ts (2 ^ (n + 1))).2 : Int)])) := fun w => by
    have := add_any (el (rnd l ts (2 ^ n)) 0).1 (el (rnd l ts (2 ^ n)) 0).2 (el (rnd l ts (2 ^ n)) 1).1 (el (rnd l ts (2 ^ n)) 1).2 (hrl.at 0).1 (hrl.at 0).2 (hrl.at 1).1 (hrl.at 1).2 w
    rw [← hspl]
    exact this
  have HLv := Hid.mkS (rnd_len l ts (2 ^ n))
  have hd8 := hF.d8
  have hd1 : 1 ≤ dgm l := by unfold dgm; omega
  clear hT hR hl ht hr hf1 hf2 hf3 hlen hF hro ro hver hrl hspl
  generalize rnd l ts (2 ^ n) = rv at *
  generalize sv l ts (2 ^ (n + 1)) = S at *
  generalize sv l (bnd ts r) (2 ^ n) = S2 at *
  obtain ⟨dd, hdd⟩ : ∃ dd, dd = dgm l + 1 := ⟨_, rfl⟩
  obtain ⟨dl, hdl⟩ : ∃ dl, dl = dgm l := ⟨_, rfl⟩
  rw [← hdd] at HRd HLv
  rw [← hdl] at HV hdd hd8 hd1
  have hw : IntKind.i64.wrap ((dd : Int) - 1) = (dl : Int) := by rw [IntKind.wrap_i64]; omega
  have hw2 : (dd : Int) - 1 = (dl : Int) := by omega
  have hdd2 : 1 < dd := by omega
  have hdd3 : (1 : Int) < (dd : Int) := by omega
  have hdd4 : (0 : Int) < (dd : Int) := by omega
  have hdd5 : 0 < dd := by omega
  have hdd9 : dd ≤ 9 := by omega
  obtain ⟨tn, htn⟩ : ∃ tn, tn = ts.length := ⟨_, rfl⟩
  rw [← htn] at HF K0 HRd HS HBi HS2 ⊢
  obtain ⟨ln, hln⟩ : ∃ ln, ln = l.length := ⟨_, rfl⟩
  rw [← hln] at HF K0 HRd HS HS2 ⊢
  clear hdd hdl htn hln hd8 hd1
  go_enter Try.func6, Try.ntmps6
  go_upto_region 10 with (first
    | (go_at_call 14; refine (HF.out _ K0.out.d).mono ?_; rintro e w1 ⟨rfl, hb1⟩; have K1 := Hid.mkS (K0.out.below hb1); clear hb1 K0; have l0 := K1.out.l0; have t0 := K1.out.t0)
    | (go_at_call 25; refine (HRd.out _ K1.out.d).mono ?_; rintro e w2 ⟨g, rfl, hE2, hb2⟩; have K2 : Hid (Sy W w2 sa a ln scap tn cap r g rv) := ⟨K1.out.below hb2, hE2⟩; clear hb2 hE2 K1 l0 t0; have l0 := K2.out.x.l0; have t0 := K2.out.x.t0; have e1 := K2.out.x.e1; have e0 := K2.out.x.e0)
    | (go_at_call 19; refine (HO.out.go _).mono ?_; rintro e w3 ⟨rfl, hb3⟩; have K3 := Hid.mkS (K2.out.below hb3); clear hb3 K2 l0 t0 e1 e0; have l0 := K3.out.x.l0; have t0 := K3.out.x.t0)
    | (go_at_call_of 20 (Value.slice a tn cap); refine (HS.out _ K3.out.x.d).mono ?_; rintro e w4 ⟨rfl, hb4⟩; have K4 : Hid (Sy W (w4.alloc (Obj.cells #[.int .u64 (S.1 : Int), .int .u64 (S.2 : Int)] 24)) sa a ln scap tn cap r g rv ∧ El (w4.alloc (Obj.cells #[.int .u64 (S.1 : Int), .int .u64 (S.2 : Int)] 24)) w4.heap.size S.1 S.2) := ⟨(K3.out.below hb4).below ((Below.refl _ _).alloc (Nat.le_refl _) _), ⟨by simp [go_sem], by simp [go_sem]⟩⟩; clear hb4 K3 l0 t0; have l0 := K4.out.1.x.l0; have t0 := K4.out.1.x.t0; have e1 := K4.out.1.x.e1; have e0 := K4.out.1.x.e0)
    | (go_at_call 26; refine (HBi.out _ K4.out.1.x.d).mono ?_; rintro e w5 ⟨g5, rfl, hT5, hb5⟩; have K5 : Hid (Sy W w5 sa a ln scap tn cap r g rv ∧ El w5 w4.heap.size S.1 S.2 ∧ TRow w5 (some ⟨g5, 0, none⟩) (bnd ts r)) := ⟨K4.out.1.below hb5, K4.out.2.below hb5, hT5⟩; clear hb5 hT5 K4 l0 t0 e1 e0; have l0 := K5.out.1.x.l0)
    | (go_at_call 20; refine (HS2.out _ _ K5.out.1.x.d K5.out.2.2).mono ?_; rintro e w6 ⟨rfl, hb6⟩; have K6 : Hid (Sy W (w6.alloc (Obj.cells #[.int .u64 (S2.1 : Int), .int .u64 (S2.2 : Int)] 24)) sa a ln scap tn cap r g rv ∧ El (w6.alloc (Obj.cells #[.int .u64 (S2.1 : Int), .int .u64 (S2.2 : Int)] 24)) w4.heap.size S.1 S.2 ∧ El (w6.alloc (Obj.cells #[.int .u64 (S2.1 : Int), .int .u64 (S2.2 : Int)] 24)) w6.heap.size S2.1 S2.2) := ⟨(K5.out.1.below hb6).below ((Below.refl _ _).alloc (Nat.le_refl _) _), (K5.out.2.1.below hb6).below ((Below.refl _ _).alloc (Nat.le_refl _) _), ⟨by simp [go_sem], by simp [go_sem]⟩⟩; have hz1 : W.heap.size + 1 < w6.heap.size := cell_lt (K5.out.1.below hb6).x.e1; clear hb6 K5 l0; have e1 := K6.out.1.x.e1; have e0 := K6.out.1.x.e0; have s1 := K6.out.2.1.hi; have s0 := K6.out.2.1.lo; have u1 := fun o : Obj => keepc ((Below.refl (w6.alloc (Obj.cells #[.int .u64 (S2.1 : Int), .int .u64 (S2.2 : Int)] 24)).heap.size (w6.alloc (Obj.cells #[.int .u64 (S2.1 : Int), .int .u64 (S2.2 : Int)] 24))).alloc (Nat.le_refl _) o) e1; have u0 := fun o : Obj => keepc ((Below.refl (w6.alloc (Obj.cells #[.int .u64 (S2.1 : Int), .int .u64 (S2.2 : Int)] 24)).heap.size (w6.alloc (Obj.cells #[.int .u64 (S2.1 : Int), .int .u64 (S2.2 : Int)] 24))).alloc (Nat.le_refl _) o) e0)
    | (go_at_call 10; refine (HV.out _ _ _ (trc1 (by simp [go_sem]) HLv.out (Nat.le_refl _) ((K6.out.1.v.below ((Below.refl _ _).alloc (Nat.le_refl _) _)).below ((Below.refl _ _).alloc (Nat.le_refl _) _))) (one_row (by simp [go_sem]) (by simp [go_sem]))).mono ?_; rintro e w7 ⟨rfl, hb7⟩; have K7 : Hid (Sy W (w7.alloc (Obj.cells #[.int .u64 (S2.1 : Int), .int .u64 (S2.2 : Int)] 24)) sa a ln scap tn cap r g rv ∧ El (w7.alloc (Obj.cells #[.int .u64 (S2.1 : Int), .int .u64 (S2.2 : Int)] 24)) w4.heap.size S.1 S.2 ∧ El (w7.alloc (Obj.cells #[.int .u64 (S2.1 : Int), .int .u64 (S2.2 : Int)] 24)) w6.heap.size S2.1 S2.2 ∧ El (w7.alloc (Obj.cells #[.int .u64 (S2.1 : Int), .int .u64 (S2.2 : Int)] 24)) w7.heap.size S2.1 S2.2) := ⟨(((K6.out.1.below ((Below.refl _ _).alloc (Nat.le_refl _) _)).below ((Below.refl _ _).alloc (Nat.le_refl _) _)).below hb7).below ((Below.refl _ _).alloc (Nat.le_refl _) _), (((K6.out.2.1.below ((Below.refl _ _).alloc (Nat.le_refl _) _)).below ((Below.refl _ _).alloc (Nat.le_refl _) _)).below hb7).below ((Below.refl _ _).alloc (Nat.le_refl _) _), (((K6.out.2.2.below ((Below.refl _ _).alloc (Nat.le_refl _) _)).below ((Below.refl _ _).alloc (Nat.le_refl _) _)).below hb7).below ((Below.refl _ _).alloc (Nat.le_refl _) _), ⟨by simp [go_sem], by simp [go_sem]⟩⟩; clear hb7 K6 e1 e0 s1 s0 u1 u0))
  obtain ⟨q9, hq9⟩ : ∃ q9, q9 = w4.heap.size := ⟨_, rfl⟩
  obtain ⟨q13, hq13⟩ : ∃ q13, q13 = w6.heap.size := ⟨_, rfl⟩
  obtain ⟨q15, hq15⟩ : ∃ q15, q15 = w7.heap.size := ⟨_, rfl⟩
  obtain ⟨wq, hwq⟩ : ∃ wq, wq = (w7.alloc (Obj.cells #[.int .u64 (S2.1 : Int), .int .u64 (S2.2 : Int)] 24)) := ⟨_, rfl⟩
  rw [← hwq, ← hq9, ← hq13, ← hq15] at K7
  rw [← hwq, ← hq9, ← hq13, ← hq15]
  clear hwq hq9 hq13 hq15 hz1
  have K : Hid (Fz W wq q9 q13 q15 g S S2 rv) := ⟨K7.out.1.x.d, K7.out.1.v, K7.out.2.1, K7.out.2.2.1, K7.out.2.2.2⟩
  clear K7 HF HRd HO HS HBi HS2 HV
  have hrv : 1 < rv.length := by rw [HLv.out]; exact hdd2
  obtain ⟨v0, v1, v2, v3, s1, s0, t1, t0, c1, c0⟩ := K.out.facts hrv
  go_region_held3 (fun w => w.cell? ⟨g, 0, none⟩ = some (.int .u64 ((el rv 0).1 : Int)) ∧ w.cell? ⟨g, 1, none⟩ = some (.int .u64 ((el rv 0).2 : Int)) ∧ w.cell? ⟨g, 2, none⟩ = some (.int .u64 ((el rv 1).1 : Int)) ∧ w.cell? ⟨g, 3, none⟩ = some (.int .u64 ((el rv 1).2 : Int)) ∧ w.cell? ⟨q9, 0, none⟩ = some (.int .u64 (S.1 : Int)) ∧ w.cell? ⟨q9, 1, none⟩ = some (.int .u64 (S.2 : Int)) ∧ w.cell? ⟨q13, 0, none⟩ = some (.int .u64 (S2.1 : Int)) ∧ w.cell? ⟨q13, 1, none⟩ = some (.int .u64 (S2.2 : Int)) ∧ w.cell? ⟨q15, 0, none⟩ = some (.int .u64 (S2.1 : Int)) ∧ w.cell? ⟨q15, 1, none⟩ = some (.int .u64 (S2.2 : Int))) (first | (go_keep; done) | exact K.out.facts hrv) (first
    | (go_at_call 9; refine (AW.out.go _).mono ?_; rintro e w8 ⟨rfl, hb8⟩; have K' : Hid (Fz W w8 q9 q13 q15 g S S2 rv) := (by first | exact K.out.below hb8 | exact (K.out.below (Below.refl _ _).drew).below hb8); clear hb8 K v0 v1 v2 v3 s1 s0 t1 t0 c1 c0; have K := K'; clear K'; obtain ⟨v0, v1, v2, v3, s1, s0, t1, t0, c1, c0⟩ := K.out.facts hrv)
    | (go_at_call 27; refine (HAd.out.go _).mono ?_; rintro e w9 ⟨rfl, hb9⟩; have K' : Hid (Fz W w9 q9 q13 q15 g S S2 rv) := (by first | exact K.out.below hb9 | exact (K.out.below (Below.refl _ _).drew).below hb9); clear hb9 K v0 v1 v2 v3 s1 s0 t1 t0 c1 c0; have K := K'; clear K'; obtain ⟨v0, v1, v2, v3, s1, s0, t1, t0, c1, c0⟩ := K.out.facts hrv))
  all_goals
    go_wp2
    go_ret
    exact ⟨rfl, by first | exact K.out.d | exact K.out.d.drew⟩
end Go.Proofs.Ytfhojakhoobnhaa
