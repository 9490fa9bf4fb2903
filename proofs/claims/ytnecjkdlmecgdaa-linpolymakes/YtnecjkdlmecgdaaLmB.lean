/- The walk of LinpolyMakes over the seat's translation. -/
import Derived.Test.YtnecjkdlmecgdaaLmA
import Derived.Test.YtnecjkdlmecgdaaLvA
import Derived.Test.YtnecjkdlmecgdaaPSmA
namespace Go.Proofs.Ytnecjkdlmecgdaa
open Go.RowKit
open Cb Rg Sq Lq
open Tw (pm)

set_option linter.unusedVariables false in
set_option maxHeartbeats 2000000 in
theorem lm_far (l : Int) (a : Option Addr) (cap : Nat) (es : List (Nat × Nat)) (hes : ltE es) (i : Int) (x : Nat × Nat) (lx : lt2 x) (h : 12 < es.length) (W : World) (hr : ERow W a es) :
    Calls Try.prog 3 #[.agg #[.int .i64 l, .slice a es.length cap], .int .i64 i, .agg #[.int .u64 (x.1 : Int), .int .u64 (x.2 : Int)]] W fun e w' => e = .returned (.bool true) ∧ Below W.heap.size W w' := by
  have HA := hidT awake5
  have n12 : (12 : Int) < (es.length : Int) := by omega
  clear h hr hes
  generalize es.length = n at *
  go_enter Try.func3, Try.ntmps3
  go_wp2_with (go_at_call 9; refine (HA.out.go _).mono ?_; rintro e w2 ⟨rfl, hb2⟩)
  go_ret
  exact ⟨rfl, (Yb.new W l a n cap x).d.trans (hb2.mono (Yb.new W l a n cap x).d.size)⟩
set_option linter.unusedVariables false in
set_option linter.unusedSimpArgs false in
set_option maxHeartbeats 8000000 in
set_option maxRecDepth 100000 in
theorem lm_err (l : Int) (a : Option Addr) (cap : Nat) (es : List (Nat × Nat)) (hes : ltE es) (i : Int) (x : Nat × Nat) (lx : lt2 x) (h12 : es.length ≤ 12) (E : Int) (hE : ¬ E = 0) (HNw : Hid (∀ w, ERow w a es → Calls Try.prog 10 #[.int .i64 l, .slice a es.length cap] w fun e w' => e = .returned (.tuple #[.pointer none, .int .i64 E]) ∧ Below w.heap.size w w')) (HCk : Hid (∀ ar cr w, es.length ≤ cr → ERow w ar es → Calls Try.prog 11 #[.int .i64 l, .slice ar es.length cr] w fun e w' => e = .returned (.int .i64 E) ∧ Below w.heap.size w w')) (W : World) (hr : ERow W a es) :
    Calls Try.prog 3 #[.agg #[.int .i64 l, .slice a es.length cap], .int .i64 i, .agg #[.int .u64 (x.1 : Int), .int .u64 (x.2 : Int)]] W fun e w' => e = .returned (.bool true) ∧ Below W.heap.size W w' := by
  have HA := hidT awake5
  have HRf : Hid (∀ w, Below W.heap.size W w → Calls Try.prog 12 #[.slice a es.length cap] w fun e w' => ∃ a' c', es.length ≤ c' ∧ e = .returned (.slice a' es.length c') ∧ ERow w' a' es ∧ Below w.heap.size w w') := fun w hw => (sref_own a cap es (by omega) w (hr.below hw)).mono fun e w' ⟨a', c', e1, o, e3⟩ => ⟨a', c', own_cap o, e1, own_erow o, e3⟩
  have n12 : ¬ (12 : Int) < (es.length : Int) := by omega
  have HR := hidT hr
  clear hr hes
  go_enter Try.func3, Try.ntmps3
  go_upto_region 4 with (go_at_call 10; refine (HNw.out _ (HR.out.below (Yb.new W l a es.length cap x).d)).mono ?_; rintro e w1 ⟨rfl, hb1⟩; have B0 : Hid (Yb W w1 l (.slice a es.length cap) x) := (Yb.new W l a es.length cap x).below hb1; obtain ⟨s0, s1, x1, x0, _⟩ := B0.out; clear hb1)
  obtain ⟨wm, hwm⟩ : ∃ wm, wm = w1 := ⟨_, rfl⟩
  subst hwm
  clear s0 s1 x1 x0
  have EE : ∀ w, Below wm.heap.size wm w → w.cell? ⟨W.heap.size, 0, none⟩ = some (.int .i64 (l : Int)) ∧ w.cell? ⟨W.heap.size, 1, none⟩ = some (.slice a es.length cap) ∧ w.cell? ⟨W.heap.size + 1, 0, none⟩ = some (.int .u64 (x.1 : Int)) ∧ w.cell? ⟨W.heap.size + 1, 1, none⟩ = some (.int .u64 (x.2 : Int)) := fun w hb => ⟨keepc hb B0.out.s0, keepc hb B0.out.s1, keepc hb B0.out.x1, keepc hb B0.out.x0⟩
  have K : Hid (Below wm.heap.size wm wm) := Below.refl _ _
  obtain ⟨s0, s1, x1, x0⟩ := EE _ K.out
  refine wp_region_noPanic ?_
  refine wp_region_held_drew (S := fun w => w.cell? ⟨W.heap.size, 0, none⟩ = some (.int .i64 (l : Int)) ∧ w.cell? ⟨W.heap.size, 1, none⟩ = some (.slice a es.length cap) ∧ w.cell? ⟨W.heap.size + 1, 0, none⟩ = some (.int .u64 (x.1 : Int)) ∧ w.cell? ⟨W.heap.size + 1, 1, none⟩ = some (.int .u64 (x.2 : Int))) (by kernel_rfl) (EE _ K.out.drew) (fun hHeld => ?_)
  refine wpAnyH_take (i := 0) (oi := _) (v := ?_) rfl (by kernel_rfl) (by kernel_rfl) (by kernel_rfl) (fun _ _ _ h => h) (Or.inl ⟨by rfl, ?_⟩) (by assumption) ?_
  rotate_left
  · ((intro w hSw; (try dsimp only at hSw); go_simp) <;> (try with_reducible rfl))
  show wpAnyH _ _ _ _ _ _ _ (Act.put _ (some 25) _) _
  simp only [Act.put, List.setIfInBounds_toArray, List.set_cons_succ, List.set_cons_zero]
  refine wpAnyH_take (i := 1) (oi := _) (v := ?_) rfl (by kernel_rfl) (by kernel_rfl) (by kernel_rfl) (fun _ _ _ h => h) (Or.inl ⟨by rfl, ?_⟩) (by assumption) ?_
  rotate_left
  · ((intro w hSw; (try dsimp only at hSw); go_simp) <;> (try with_reducible rfl))
  show wpAnyH _ _ _ _ _ _ _ (Act.put _ (some 26) _) _
  simp only [Act.put, List.setIfInBounds_toArray, List.set_cons_succ, List.set_cons_zero]
  refine wpAnyH_take (i := 2) (oi := _) (v := ?_) rfl (by kernel_rfl) (by kernel_rfl) (by kernel_rfl) (fun _ _ _ h => h) (Or.inl ⟨by rfl, ?_⟩) (by assumption) ?_
  rotate_left
  · ((intro w hSw; (try dsimp only at hSw); go_simp) <;> (try with_reducible rfl))
  show wpAnyH _ _ _ _ _ _ _ (Act.put _ (some 27) _) _
  simp only [Act.put, List.setIfInBounds_toArray, List.set_cons_succ, List.set_cons_zero]
  refine wpAnyH_take (i := 3) (oi := _) (v := ?_) rfl (by kernel_rfl) (by kernel_rfl) (by kernel_rfl) (fun _ _ _ h => h) (Or.inl ⟨by rfl, ?_⟩) (by assumption) ?_
  rotate_left
  · ((intro w hSw; (try dsimp only at hSw); go_simp) <;> (try with_reducible rfl))
  show wpAnyH _ _ _ _ _ _ _ (Act.put _ (some 28) _) _
  simp only [Act.put, List.setIfInBounds_toArray, List.set_cons_succ, List.set_cons_zero]
  refine wpAnyH_take (i := 4) (oi := _) (v := ?_) rfl (by kernel_rfl) (by kernel_rfl) (by kernel_rfl) (fun _ _ _ h => h) (Or.inl ⟨by rfl, ?_⟩) (by assumption) ?_
  rotate_left
  · ((intro w hSw; (try dsimp only at hSw); go_simp) <;> (try with_reducible rfl))
  show wpAnyH _ _ _ _ _ _ _ (Act.put _ (some 29) _) _
  simp only [Act.put, List.setIfInBounds_toArray, List.set_cons_succ, List.set_cons_zero]
  refine wpAnyH_ready (rs := [5]) (by kernel_rfl) (by simp) ?_
  refine AllReadyH.cons (o := _) rfl (fun KK hKK => ?_) AllReadyH.nil
  go_simp
  (go_at_call 12; refine (HRf.out _ (by first | exact B0.out.d.trans (K.out.mono B0.out.d.size) | exact B0.out.d.trans (K.out.drew.mono B0.out.d.size))).mono ?_; rintro e w9 ⟨ar, cr, hcr, rfl, hrr, hb⟩)
  have R9 := hidT (And.intro hcr hrr)
  clear hrr hcr
  have K'' : Hid (Below wm.heap.size wm w9) := (by first | exact K.out.trans (hb.mono K.out.size) | exact K.out.drew.trans (hb.mono K.out.drew.size))
  clear K hb
  have K := K''
  clear K''
  refine hKK.out _ _ ?_ (fun hHeld => ?_)
  · exact EE _ K.out
  clear hKK KK
  try simp only [Act.put]
  refine wpAnyH_ready (rs := [6]) (by kernel_rfl) (by simp) ?_
  refine AllReadyH.cons (o := _) rfl (fun KK hKK => ?_) AllReadyH.nil
  go_simp
  (go_at_call 11; refine (HCk.out _ _ _ R9.out.1 (R9.out.2.below (by first | exact Below.refl _ _ | exact (Below.refl _ _).drew))).mono ?_; rintro e w9 ⟨rfl, hb⟩)
  have K'' : Hid (Below wm.heap.size wm w9) := (by first | exact K.out.trans (hb.mono K.out.size) | exact K.out.drew.trans (hb.mono K.out.drew.size))
  clear K hb
  have K := K''
  clear K''
  refine hKK.out _ _ ?_ (fun hHeld => ?_)
  · exact EE _ K.out
  clear hKK KK
  try simp only [Act.put]
  refine wpAnyH_take (i := 7) (oi := _) (v := ?_) rfl (by kernel_rfl) (by kernel_rfl) (by kernel_rfl) (fun _ _ _ h => h) (Or.inl ⟨by rfl, ?_⟩) (by assumption) ?_
  rotate_left
  · ((intro w hSw; (try dsimp only at hSw); go_simp) <;> (try with_reducible rfl))
  show wpAnyH _ _ _ _ _ _ _ (Act.put _ (some 32) _) _
  simp only [Act.put, List.setIfInBounds_toArray, List.set_cons_succ, List.set_cons_zero]
  refine wpAnyH_take (i := 8) (oi := _) (v := ?_) rfl (by kernel_rfl) (by kernel_rfl) (by kernel_rfl) (fun _ _ _ h => h) (Or.inl ⟨by rfl, ?_⟩) (by assumption) ?_
  rotate_left
  · ((intro w hSw; (try dsimp only at hSw); go_simp) <;> (try with_reducible rfl))
  show wpAnyH _ _ _ _ _ _ _ (Act.put _ (some 33) _) _
  simp only [Act.put, List.setIfInBounds_toArray, List.set_cons_succ, List.set_cons_zero]
  refine wpAnyH_take (i := 9) (oi := _) (v := ?_) rfl (by kernel_rfl) (by kernel_rfl) (by kernel_rfl) (fun _ _ _ h => h) (Or.inl ⟨by rfl, ?_⟩) (by assumption) ?_
  rotate_left
  · ((intro w hSw; (try dsimp only at hSw); go_simp) <;> (try with_reducible rfl))
  show wpAnyH _ _ _ _ _ _ _ (Act.put _ (some 34) _) _
  simp only [Act.put, List.setIfInBounds_toArray, List.set_cons_succ, List.set_cons_zero]
  refine wpAnyH_take (i := 10) (oi := _) (v := ?_) rfl (by kernel_rfl) (by kernel_rfl) (by kernel_rfl) (fun _ _ _ h => h) (Or.inl ⟨by rfl, ?_⟩) (by assumption) ?_
  rotate_left
  · ((intro w hSw; (try dsimp only at hSw); go_simp) <;> (try with_reducible rfl))
  show wpAnyH _ _ _ _ _ _ _ (Act.put _ (some 35) _) _
  simp only [Act.put, List.setIfInBounds_toArray, List.set_cons_succ, List.set_cons_zero]
  refine wpAnyH_take (i := 11) (oi := _) (v := ?_) rfl (by kernel_rfl) (by kernel_rfl) (by kernel_rfl) (fun _ _ _ h => h) (Or.inl ⟨by rfl, ?_⟩) (by assumption) ?_
  rotate_left
  · ((intro w hSw; (try dsimp only at hSw); go_simp) <;> (try with_reducible rfl))
  show wpAnyH _ _ _ _ _ _ _ (Act.put _ (some 36) _) _
  simp only [Act.put, List.setIfInBounds_toArray, List.set_cons_succ, List.set_cons_zero]
  refine wpAnyH_take (i := 12) (oi := _) (v := ?_) rfl (by kernel_rfl) (by kernel_rfl) (by kernel_rfl) (fun _ _ _ h => h) (Or.inl ⟨by rfl, ?_⟩) (by assumption) ?_
  rotate_left
  · ((intro w hSw; (try dsimp only at hSw); go_simp) <;> (try with_reducible rfl))
  show wpAnyH _ _ _ _ _ _ _ (Act.put _ (some 37) _) _
  simp only [Act.put, List.setIfInBounds_toArray, List.set_cons_succ, List.set_cons_zero]
  refine wpAnyH_take (i := 13) (oi := _) (v := ?_) rfl (by kernel_rfl) (by kernel_rfl) (by kernel_rfl) (fun _ _ _ h => h) (Or.inl ⟨by rfl, ?_⟩) (by assumption) ?_
  rotate_left
  · ((intro w hSw; (try dsimp only at hSw); go_simp) <;> (try with_reducible rfl))
  show wpAnyH _ _ _ _ _ _ _ (Act.put _ (some 38) _) _
  simp only [Act.put, List.setIfInBounds_toArray, List.set_cons_succ, List.set_cons_zero]
  refine wpAnyH_take (i := 14) (oi := _) (v := ?_) rfl (by kernel_rfl) (by kernel_rfl) (by kernel_rfl) (fun _ _ _ h => h) (Or.inl ⟨by rfl, ?_⟩) (by assumption) ?_
  rotate_left
  · ((intro w hSw; (try dsimp only at hSw); go_simp) <;> (try with_reducible rfl))
  show wpAnyH _ _ _ _ _ _ _ (Act.put _ (some 39) _) _
  simp only [Act.put, List.setIfInBounds_toArray, List.set_cons_succ, List.set_cons_zero]
  refine wpAnyH_done (by kernel_rfl) ?_ _
  refine NoPanic.normal ?_
  have K9 := hidT K.out
  obtain ⟨s0, s1, x1, x0⟩ := EE _ K9.out
  clear K
  have K := K9
  clear K9 R9
  go_wp2_with (go_at_call 9; refine (HA.out.go _).mono ?_; rintro e w9 ⟨rfl, hb⟩; have K'' : Hid (Below wm.heap.size wm w9) := K.out.trans (hb.mono K.out.size); clear K hb s0 s1 x1 x0; have K := K''; clear K''; obtain ⟨s0, s1, x1, x0⟩ := EE _ K.out)
  go_ret
  exact ⟨by rfl, B0.out.d.trans (K.out.mono B0.out.d.size)⟩
set_option linter.unusedVariables false in
set_option linter.unusedSimpArgs false in
set_option maxHeartbeats 8000000 in
set_option maxRecDepth 100000 in
theorem lm_big (l : Int) (a : Option Addr) (cap : Nat) (es : List (Nat × Nat)) (hes : ltE es) (i : Int) (x : Nat × Nat) (lx : lt2 x) (k : Nat) (hk : k < 8) (hl : l = (k : Int)) (ha : a = none → es.length = 0 ∧ cap = 0) (hcap : es.length ≤ cap) (h10 : es.length ≤ 10) (ot : ofT k es) (hf : Free es es.length) (h6 : 6 < es.length) (W : World) (hr : ERow W a es) :
    Calls Try.prog 3 #[.agg #[.int .i64 l, .slice a es.length cap], .int .i64 i, .agg #[.int .u64 (x.1 : Int), .int .u64 (x.2 : Int)]] W fun e w' => e = .returned (.bool true) ∧ Below W.heap.size W w' := by
  have HA := hidT awake5
  have HRf : Hid (∀ w, Below W.heap.size W w → Calls Try.prog 12 #[.slice a es.length cap] w fun e w' => ∃ a' c', es.length ≤ c' ∧ e = .returned (.slice a' es.length c') ∧ ERow w' a' es ∧ Below w.heap.size w w') := fun w hw => (sref_own a cap es (by omega) w (hr.below hw)).mono fun e w' ⟨a', c', e1, o, e3⟩ => ⟨a', c', own_cap o, e1, own_erow o, e3⟩
  have n12 : ¬ (12 : Int) < (es.length : Int) := by omega
  have HNw := hidT (fun w (hb : Below W.heap.size W w) => new_ok k hk a cap es hes h10 ot hf ha w (hr.below hb))
  rw [← hl] at HNw
  have hall : (es.all fun e => ofB l (e.1 : Int) (e.2 : Int)) = true := List.all_eq_true.2 fun e he => by rw [hl]; exact ot e he
  have HCk : Hid (∀ ar cr w, es.length ≤ cr → ERow w ar es → Calls Try.prog 11 #[.int .i64 l, .slice ar es.length cr] w fun e w' => e = .returned (.int .i64 0) ∧ Below w.heap.size w w') := fun ar cr w hc h => rcheck_ok l ar cr es hes (by omega) h10 hall hc hf w h
  have n6 : (6 : Int) < (es.length : Int) := by omega
  clear hr hes ha ot hf hall hl
  go_enter Try.func3, Try.ntmps3
  go_upto_region 4 with (go_at_call 10; refine (HNw.out _ (Yb.new W l a es.length cap x).d).mono ?_; rintro e w1 ⟨p, ts, a', aT, aB, c, cT, cB, rfl, hS, hU, hb1⟩; have B0 : Hid (Yb W w1 l (.slice a es.length cap) x) := (Yb.new W l a es.length cap x).below hb1; have S0 := hidT hS; have U1 := hidT hU; obtain ⟨s0, s1, x1, x0, _⟩ := B0.out; clear hb1 hS hU)
  obtain ⟨wm, hwm⟩ : ∃ wm, wm = w1 := ⟨_, rfl⟩
  subst hwm
  clear s0 s1 x1 x0
  have EE : ∀ w, Below wm.heap.size wm w → w.cell? ⟨W.heap.size, 0, none⟩ = some (.int .i64 (l : Int)) ∧ w.cell? ⟨W.heap.size, 1, none⟩ = some (.slice a es.length cap) ∧ w.cell? ⟨W.heap.size + 1, 0, none⟩ = some (.int .u64 (x.1 : Int)) ∧ w.cell? ⟨W.heap.size + 1, 1, none⟩ = some (.int .u64 (x.2 : Int)) := fun w hb => ⟨keepc hb B0.out.s0, keepc hb B0.out.s1, keepc hb B0.out.x1, keepc hb B0.out.x0⟩
  have K : Hid (Below wm.heap.size wm wm) := Below.refl _ _
  obtain ⟨s0, s1, x1, x0⟩ := EE _ K.out
  refine wp_region_noPanic ?_
  refine wp_region_held_drew (S := fun w => w.cell? ⟨W.heap.size, 0, none⟩ = some (.int .i64 (l : Int)) ∧ w.cell? ⟨W.heap.size, 1, none⟩ = some (.slice a es.length cap) ∧ w.cell? ⟨W.heap.size + 1, 0, none⟩ = some (.int .u64 (x.1 : Int)) ∧ w.cell? ⟨W.heap.size + 1, 1, none⟩ = some (.int .u64 (x.2 : Int))) (by kernel_rfl) (EE _ K.out.drew) (fun hHeld => ?_)
  refine wpAnyH_take (i := 0) (oi := _) (v := ?_) rfl (by kernel_rfl) (by kernel_rfl) (by kernel_rfl) (fun _ _ _ h => h) (Or.inl ⟨by rfl, ?_⟩) (by assumption) ?_
  rotate_left
  · ((intro w hSw; (try dsimp only at hSw); go_simp) <;> (try with_reducible rfl))
  show wpAnyH _ _ _ _ _ _ _ (Act.put _ (some 25) _) _
  simp only [Act.put, List.setIfInBounds_toArray, List.set_cons_succ, List.set_cons_zero]
  refine wpAnyH_take (i := 1) (oi := _) (v := ?_) rfl (by kernel_rfl) (by kernel_rfl) (by kernel_rfl) (fun _ _ _ h => h) (Or.inl ⟨by rfl, ?_⟩) (by assumption) ?_
  rotate_left
  · ((intro w hSw; (try dsimp only at hSw); go_simp) <;> (try with_reducible rfl))
  show wpAnyH _ _ _ _ _ _ _ (Act.put _ (some 26) _) _
  simp only [Act.put, List.setIfInBounds_toArray, List.set_cons_succ, List.set_cons_zero]
  refine wpAnyH_take (i := 2) (oi := _) (v := ?_) rfl (by kernel_rfl) (by kernel_rfl) (by kernel_rfl) (fun _ _ _ h => h) (Or.inl ⟨by rfl, ?_⟩) (by assumption) ?_
  rotate_left
  · ((intro w hSw; (try dsimp only at hSw); go_simp) <;> (try with_reducible rfl))
  show wpAnyH _ _ _ _ _ _ _ (Act.put _ (some 27) _) _
  simp only [Act.put, List.setIfInBounds_toArray, List.set_cons_succ, List.set_cons_zero]
  refine wpAnyH_take (i := 3) (oi := _) (v := ?_) rfl (by kernel_rfl) (by kernel_rfl) (by kernel_rfl) (fun _ _ _ h => h) (Or.inl ⟨by rfl, ?_⟩) (by assumption) ?_
  rotate_left
  · ((intro w hSw; (try dsimp only at hSw); go_simp) <;> (try with_reducible rfl))
  show wpAnyH _ _ _ _ _ _ _ (Act.put _ (some 28) _) _
  simp only [Act.put, List.setIfInBounds_toArray, List.set_cons_succ, List.set_cons_zero]
  refine wpAnyH_take (i := 4) (oi := _) (v := ?_) rfl (by kernel_rfl) (by kernel_rfl) (by kernel_rfl) (fun _ _ _ h => h) (Or.inl ⟨by rfl, ?_⟩) (by assumption) ?_
  rotate_left
  · ((intro w hSw; (try dsimp only at hSw); go_simp) <;> (try with_reducible rfl))
  show wpAnyH _ _ _ _ _ _ _ (Act.put _ (some 29) _) _
  simp only [Act.put, List.setIfInBounds_toArray, List.set_cons_succ, List.set_cons_zero]
  refine wpAnyH_ready (rs := [5]) (by kernel_rfl) (by simp) ?_
  refine AllReadyH.cons (o := _) rfl (fun KK hKK => ?_) AllReadyH.nil
  go_simp
  (go_at_call 12; refine (HRf.out _ (by first | exact B0.out.d.trans (K.out.mono B0.out.d.size) | exact B0.out.d.trans (K.out.drew.mono B0.out.d.size))).mono ?_; rintro e w9 ⟨ar, cr, hcr, rfl, hrr, hb⟩)
  have R9 := hidT (And.intro hcr hrr)
  clear hrr hcr
  have K'' : Hid (Below wm.heap.size wm w9) := (by first | exact K.out.trans (hb.mono K.out.size) | exact K.out.drew.trans (hb.mono K.out.drew.size))
  clear K hb
  have K := K''
  clear K''
  refine hKK.out _ _ ?_ (fun hHeld => ?_)
  · exact EE _ K.out
  clear hKK KK
  try simp only [Act.put]
  refine wpAnyH_ready (rs := [6]) (by kernel_rfl) (by simp) ?_
  refine AllReadyH.cons (o := _) rfl (fun KK hKK => ?_) AllReadyH.nil
  go_simp
  (go_at_call 11; refine (HCk.out _ _ _ R9.out.1 (R9.out.2.below (by first | exact Below.refl _ _ | exact (Below.refl _ _).drew))).mono ?_; rintro e w9 ⟨rfl, hb⟩)
  have K'' : Hid (Below wm.heap.size wm w9) := (by first | exact K.out.trans (hb.mono K.out.size) | exact K.out.drew.trans (hb.mono K.out.drew.size))
  clear K hb
  have K := K''
  clear K''
  refine hKK.out _ _ ?_ (fun hHeld => ?_)
  · exact EE _ K.out
  clear hKK KK
  try simp only [Act.put]
  refine wpAnyH_take (i := 7) (oi := _) (v := ?_) rfl (by kernel_rfl) (by kernel_rfl) (by kernel_rfl) (fun _ _ _ h => h) (Or.inl ⟨by rfl, ?_⟩) (by assumption) ?_
  rotate_left
  · ((intro w hSw; (try dsimp only at hSw); go_simp) <;> (try with_reducible rfl))
  show wpAnyH _ _ _ _ _ _ _ (Act.put _ (some 32) _) _
  simp only [Act.put, List.setIfInBounds_toArray, List.set_cons_succ, List.set_cons_zero]
  refine wpAnyH_take (i := 8) (oi := _) (v := ?_) rfl (by kernel_rfl) (by kernel_rfl) (by kernel_rfl) (fun _ _ _ h => h) (Or.inl ⟨by rfl, ?_⟩) (by assumption) ?_
  rotate_left
  · ((intro w hSw; (try dsimp only at hSw); go_simp) <;> (try with_reducible rfl))
  show wpAnyH _ _ _ _ _ _ _ (Act.put _ (some 33) _) _
  simp only [Act.put, List.setIfInBounds_toArray, List.set_cons_succ, List.set_cons_zero]
  refine wpAnyH_take (i := 9) (oi := _) (v := ?_) rfl (by kernel_rfl) (by kernel_rfl) (by kernel_rfl) (fun _ _ _ h => h) (Or.inl ⟨by rfl, ?_⟩) (by assumption) ?_
  rotate_left
  · ((intro w hSw; (try dsimp only at hSw); go_simp) <;> (try with_reducible rfl))
  show wpAnyH _ _ _ _ _ _ _ (Act.put _ (some 34) _) _
  simp only [Act.put, List.setIfInBounds_toArray, List.set_cons_succ, List.set_cons_zero]
  refine wpAnyH_take (i := 10) (oi := _) (v := ?_) rfl (by kernel_rfl) (by kernel_rfl) (by kernel_rfl) (fun _ _ _ h => h) (Or.inl ⟨by rfl, ?_⟩) (by assumption) ?_
  rotate_left
  · ((intro w hSw; (try dsimp only at hSw); go_simp) <;> (try with_reducible rfl))
  show wpAnyH _ _ _ _ _ _ _ (Act.put _ (some 35) _) _
  simp only [Act.put, List.setIfInBounds_toArray, List.set_cons_succ, List.set_cons_zero]
  refine wpAnyH_take (i := 11) (oi := _) (v := ?_) rfl (by kernel_rfl) (by kernel_rfl) (by kernel_rfl) (fun _ _ _ h => h) (Or.inl ⟨by rfl, ?_⟩) (by assumption) ?_
  rotate_left
  · ((intro w hSw; (try dsimp only at hSw); go_simp) <;> (try with_reducible rfl))
  show wpAnyH _ _ _ _ _ _ _ (Act.put _ (some 36) _) _
  simp only [Act.put, List.setIfInBounds_toArray, List.set_cons_succ, List.set_cons_zero]
  refine wpAnyH_take (i := 12) (oi := _) (v := ?_) rfl (by kernel_rfl) (by kernel_rfl) (by kernel_rfl) (fun _ _ _ h => h) (Or.inl ⟨by rfl, ?_⟩) (by assumption) ?_
  rotate_left
  · ((intro w hSw; (try dsimp only at hSw); go_simp) <;> (try with_reducible rfl))
  show wpAnyH _ _ _ _ _ _ _ (Act.put _ (some 37) _) _
  simp only [Act.put, List.setIfInBounds_toArray, List.set_cons_succ, List.set_cons_zero]
  refine wpAnyH_take (i := 13) (oi := _) (v := ?_) rfl (by kernel_rfl) (by kernel_rfl) (by kernel_rfl) (fun _ _ _ h => h) (Or.inl ⟨by rfl, ?_⟩) (by assumption) ?_
  rotate_left
  · ((intro w hSw; (try dsimp only at hSw); go_simp) <;> (try with_reducible rfl))
  show wpAnyH _ _ _ _ _ _ _ (Act.put _ (some 38) _) _
  simp only [Act.put, List.setIfInBounds_toArray, List.set_cons_succ, List.set_cons_zero]
  refine wpAnyH_take (i := 14) (oi := _) (v := ?_) rfl (by kernel_rfl) (by kernel_rfl) (by kernel_rfl) (fun _ _ _ h => h) (Or.inl ⟨by rfl, ?_⟩) (by assumption) ?_
  rotate_left
  · ((intro w hSw; (try dsimp only at hSw); go_simp) <;> (try with_reducible rfl))
  show wpAnyH _ _ _ _ _ _ _ (Act.put _ (some 39) _) _
  simp only [Act.put, List.setIfInBounds_toArray, List.set_cons_succ, List.set_cons_zero]
  refine wpAnyH_done (by kernel_rfl) ?_ _
  refine NoPanic.normal ?_
  have K9 := hidT K.out
  obtain ⟨s0, s1, x1, x0⟩ := EE _ K9.out
  clear K
  have K := K9
  clear K9 R9
  go_wp2_with (go_at_call 9; refine (HA.out.go _).mono ?_; rintro e w9 ⟨rfl, hb⟩; have K'' : Hid (Below wm.heap.size wm w9) := K.out.trans (hb.mono K.out.size); clear K hb s0 s1 x1 x0; have K := K''; clear K''; obtain ⟨s0, s1, x1, x0⟩ := EE _ K.out)
  go_ret
  exact ⟨by rfl, B0.out.d.trans (K.out.mono B0.out.d.size)⟩
set_option linter.unusedVariables false in
set_option linter.unusedSimpArgs false in
set_option maxHeartbeats 16000000 in
set_option maxRecDepth 100000 in
theorem lm_neg (l : Int) (a : Option Addr) (cap : Nat) (es : List (Nat × Nat)) (hes : ltE es) (i : Int) (x : Nat × Nat) (lx : lt2 x) (k : Nat) (hk : k < 8) (hl : l = (k : Int)) (ha : a = none → es.length = 0 ∧ cap = 0) (hcap : es.length ≤ cap) (h10 : es.length ≤ 10) (ot : ofT k es) (hf : Free es es.length) (h6 : es.length ≤ 6) (h0 : i < 0) (W : World) (hr : ERow W a es) :
    Calls Try.prog 3 #[.agg #[.int .i64 l, .slice a es.length cap], .int .i64 i, .agg #[.int .u64 (x.1 : Int), .int .u64 (x.2 : Int)]] W fun e w' => e = .returned (.bool true) ∧ Below W.heap.size W w' := by
  have HA := hidT awake5
  have HRf : Hid (∀ w, Below W.heap.size W w → Calls Try.prog 12 #[.slice a es.length cap] w fun e w' => ∃ a' c', es.length ≤ c' ∧ e = .returned (.slice a' es.length c') ∧ ERow w' a' es ∧ Below w.heap.size w w') := fun w hw => (sref_own a cap es (by omega) w (hr.below hw)).mono fun e w' ⟨a', c', e1, o, e3⟩ => ⟨a', c', own_cap o, e1, own_erow o, e3⟩
  have n12 : ¬ (12 : Int) < (es.length : Int) := by omega
  have HNw := hidT (fun w (hb : Below W.heap.size W w) => new_ok k hk a cap es hes h10 ot hf ha w (hr.below hb))
  rw [← hl] at HNw
  have hall : (es.all fun e => ofB l (e.1 : Int) (e.2 : Int)) = true := List.all_eq_true.2 fun e he => by rw [hl]; exact ot e he
  have HCk : Hid (∀ ar cr w, es.length ≤ cr → ERow w ar es → Calls Try.prog 11 #[.int .i64 l, .slice ar es.length cr] w fun e w' => e = .returned (.int .i64 0) ∧ Below w.heap.size w w') := fun ar cr w hc h => rcheck_ok l ar cr es hes (by omega) h10 hall hc hf w h
  have HLk := hidT hl
  have HX := hidT (rof_any l x.1 x.2 lx.1 lx.2)
  have n6 : ¬ (6 : Int) < (es.length : Int) := by omega
  have HV : Hid (hsv k es.length i x = false) := by
    show _ = _
    unfold hsv
    rw [decide_eq_false (by omega)]; rfl
  clear hr hes ha ot hf hall hl 
  go_enter Try.func3, Try.ntmps3
  go_upto_region 4 with (go_at_call 10; refine (HNw.out _ (Yb.new W l a es.length cap x).d).mono ?_; rintro e w1 ⟨p, ts, a', aT, aB, c, cT, cB, rfl, hS, hU, hb1⟩; have B0 : Hid (Yb W w1 l (.slice a es.length cap) x) := (Yb.new W l a es.length cap x).below hb1; have S0 := hidT hS; have U1 := hidT hU; obtain ⟨s0, s1, x1, x0, _⟩ := B0.out; clear hb1 hS hU)
  obtain ⟨wm, hwm⟩ : ∃ wm, wm = w1 := ⟨_, rfl⟩
  subst hwm
  clear s0 s1 x1 x0
  have EE : ∀ w, Below wm.heap.size wm w → w.cell? ⟨W.heap.size, 0, none⟩ = some (.int .i64 (l : Int)) ∧ w.cell? ⟨W.heap.size, 1, none⟩ = some (.slice a es.length cap) ∧ w.cell? ⟨W.heap.size + 1, 0, none⟩ = some (.int .u64 (x.1 : Int)) ∧ w.cell? ⟨W.heap.size + 1, 1, none⟩ = some (.int .u64 (x.2 : Int)) := fun w hb => ⟨keepc hb B0.out.s0, keepc hb B0.out.s1, keepc hb B0.out.x1, keepc hb B0.out.x0⟩
  have K : Hid (Below wm.heap.size wm wm) := Below.refl _ _
  obtain ⟨s0, s1, x1, x0⟩ := EE _ K.out
  have HLv : Hid (∀ w, Below wm.heap.size wm w → Calls Try.prog 13 #[.pointer (some ⟨p, 0, none⟩)] w fun e w' => e = .returned (.int .i64 l) ∧ Below w.heap.size w w') := fun w hb => by rw [HLk.out]; exact slevel (k : Int) p w (S0.out.below hb).c0
  have HDm := hidT (fun w (hb : Below wm.heap.size wm w) => sdimL (S0.out.below hb))
  refine wp_region_noPanic ?_
  refine wp_region_held_drew (S := fun w => w.cell? ⟨W.heap.size, 0, none⟩ = some (.int .i64 (l : Int)) ∧ w.cell? ⟨W.heap.size, 1, none⟩ = some (.slice a es.length cap) ∧ w.cell? ⟨W.heap.size + 1, 0, none⟩ = some (.int .u64 (x.1 : Int)) ∧ w.cell? ⟨W.heap.size + 1, 1, none⟩ = some (.int .u64 (x.2 : Int))) (by kernel_rfl) (EE _ K.out.drew) (fun hHeld => ?_)
  refine wpAnyH_take (i := 0) (oi := _) (v := ?_) rfl (by kernel_rfl) (by kernel_rfl) (by kernel_rfl) (fun _ _ _ h => h) (Or.inl ⟨by rfl, ?_⟩) (by assumption) ?_
  rotate_left
  · ((intro w hSw; (try dsimp only at hSw); go_simp) <;> (try with_reducible rfl))
  show wpAnyH _ _ _ _ _ _ _ (Act.put _ (some 25) _) _
  simp only [Act.put, List.setIfInBounds_toArray, List.set_cons_succ, List.set_cons_zero]
  refine wpAnyH_take (i := 1) (oi := _) (v := ?_) rfl (by kernel_rfl) (by kernel_rfl) (by kernel_rfl) (fun _ _ _ h => h) (Or.inl ⟨by rfl, ?_⟩) (by assumption) ?_
  rotate_left
  · ((intro w hSw; (try dsimp only at hSw); go_simp) <;> (try with_reducible rfl))
  show wpAnyH _ _ _ _ _ _ _ (Act.put _ (some 26) _) _
  simp only [Act.put, List.setIfInBounds_toArray, List.set_cons_succ, List.set_cons_zero]
  refine wpAnyH_take (i := 2) (oi := _) (v := ?_) rfl (by kernel_rfl) (by kernel_rfl) (by kernel_rfl) (fun _ _ _ h => h) (Or.inl ⟨by rfl, ?_⟩) (by assumption) ?_
  rotate_left
  · ((intro w hSw; (try dsimp only at hSw); go_simp) <;> (try with_reducible rfl))
  show wpAnyH _ _ _ _ _ _ _ (Act.put _ (some 27) _) _
  simp only [Act.put, List.setIfInBounds_toArray, List.set_cons_succ, List.set_cons_zero]
  refine wpAnyH_take (i := 3) (oi := _) (v := ?_) rfl (by kernel_rfl) (by kernel_rfl) (by kernel_rfl) (fun _ _ _ h => h) (Or.inl ⟨by rfl, ?_⟩) (by assumption) ?_
  rotate_left
  · ((intro w hSw; (try dsimp only at hSw); go_simp) <;> (try with_reducible rfl))
  show wpAnyH _ _ _ _ _ _ _ (Act.put _ (some 28) _) _
  simp only [Act.put, List.setIfInBounds_toArray, List.set_cons_succ, List.set_cons_zero]
  refine wpAnyH_take (i := 4) (oi := _) (v := ?_) rfl (by kernel_rfl) (by kernel_rfl) (by kernel_rfl) (fun _ _ _ h => h) (Or.inl ⟨by rfl, ?_⟩) (by assumption) ?_
  rotate_left
  · ((intro w hSw; (try dsimp only at hSw); go_simp) <;> (try with_reducible rfl))
  show wpAnyH _ _ _ _ _ _ _ (Act.put _ (some 29) _) _
  simp only [Act.put, List.setIfInBounds_toArray, List.set_cons_succ, List.set_cons_zero]
  refine wpAnyH_ready (rs := [5]) (by kernel_rfl) (by simp) ?_
  refine AllReadyH.cons (o := _) rfl (fun KK hKK => ?_) AllReadyH.nil
  go_simp
  (go_at_call 12; refine (HRf.out _ (by first | exact B0.out.d.trans (K.out.mono B0.out.d.size) | exact B0.out.d.trans (K.out.drew.mono B0.out.d.size))).mono ?_; rintro e w9 ⟨ar, cr, hcr, rfl, hrr, hb⟩)
  have R9 := hidT (And.intro hcr hrr)
  clear hrr hcr
  have K'' : Hid (Below wm.heap.size wm w9) := (by first | exact K.out.trans (hb.mono K.out.size) | exact K.out.drew.trans (hb.mono K.out.drew.size))
  clear K hb
  have K := K''
  clear K''
  refine hKK.out _ _ ?_ (fun hHeld => ?_)
  · exact EE _ K.out
  clear hKK KK
  try simp only [Act.put]
  refine wpAnyH_ready (rs := [6]) (by kernel_rfl) (by simp) ?_
  refine AllReadyH.cons (o := _) rfl (fun KK hKK => ?_) AllReadyH.nil
  go_simp
  (go_at_call 11; refine (HCk.out _ _ _ R9.out.1 (R9.out.2.below (by first | exact Below.refl _ _ | exact (Below.refl _ _).drew))).mono ?_; rintro e w9 ⟨rfl, hb⟩)
  have K'' : Hid (Below wm.heap.size wm w9) := (by first | exact K.out.trans (hb.mono K.out.size) | exact K.out.drew.trans (hb.mono K.out.drew.size))
  clear K hb
  have K := K''
  clear K''
  refine hKK.out _ _ ?_ (fun hHeld => ?_)
  · exact EE _ K.out
  clear hKK KK
  try simp only [Act.put]
  refine wpAnyH_take (i := 7) (oi := _) (v := ?_) rfl (by kernel_rfl) (by kernel_rfl) (by kernel_rfl) (fun _ _ _ h => h) (Or.inl ⟨by rfl, ?_⟩) (by assumption) ?_
  rotate_left
  · ((intro w hSw; (try dsimp only at hSw); go_simp) <;> (try with_reducible rfl))
  show wpAnyH _ _ _ _ _ _ _ (Act.put _ (some 32) _) _
  simp only [Act.put, List.setIfInBounds_toArray, List.set_cons_succ, List.set_cons_zero]
  refine wpAnyH_take (i := 8) (oi := _) (v := ?_) rfl (by kernel_rfl) (by kernel_rfl) (by kernel_rfl) (fun _ _ _ h => h) (Or.inl ⟨by rfl, ?_⟩) (by assumption) ?_
  rotate_left
  · ((intro w hSw; (try dsimp only at hSw); go_simp) <;> (try with_reducible rfl))
  show wpAnyH _ _ _ _ _ _ _ (Act.put _ (some 33) _) _
  simp only [Act.put, List.setIfInBounds_toArray, List.set_cons_succ, List.set_cons_zero]
  refine wpAnyH_take (i := 9) (oi := _) (v := ?_) rfl (by kernel_rfl) (by kernel_rfl) (by kernel_rfl) (fun _ _ _ h => h) (Or.inl ⟨by rfl, ?_⟩) (by assumption) ?_
  rotate_left
  · ((intro w hSw; (try dsimp only at hSw); go_simp) <;> (try with_reducible rfl))
  show wpAnyH _ _ _ _ _ _ _ (Act.put _ (some 34) _) _
  simp only [Act.put, List.setIfInBounds_toArray, List.set_cons_succ, List.set_cons_zero]
  refine wpAnyH_take (i := 10) (oi := _) (v := ?_) rfl (by kernel_rfl) (by kernel_rfl) (by kernel_rfl) (fun _ _ _ h => h) (Or.inl ⟨by rfl, ?_⟩) (by assumption) ?_
  rotate_left
  · ((intro w hSw; (try dsimp only at hSw); go_simp) <;> (try with_reducible rfl))
  show wpAnyH _ _ _ _ _ _ _ (Act.put _ (some 35) _) _
  simp only [Act.put, List.setIfInBounds_toArray, List.set_cons_succ, List.set_cons_zero]
  refine wpAnyH_take (i := 11) (oi := _) (v := ?_) rfl (by kernel_rfl) (by kernel_rfl) (by kernel_rfl) (fun _ _ _ h => h) (Or.inl ⟨by rfl, ?_⟩) (by assumption) ?_
  rotate_left
  · ((intro w hSw; (try dsimp only at hSw); go_simp) <;> (try with_reducible rfl))
  show wpAnyH _ _ _ _ _ _ _ (Act.put _ (some 36) _) _
  simp only [Act.put, List.setIfInBounds_toArray, List.set_cons_succ, List.set_cons_zero]
  refine wpAnyH_take (i := 12) (oi := _) (v := ?_) rfl (by kernel_rfl) (by kernel_rfl) (by kernel_rfl) (fun _ _ _ h => h) (Or.inl ⟨by rfl, ?_⟩) (by assumption) ?_
  rotate_left
  · ((intro w hSw; (try dsimp only at hSw); go_simp) <;> (try with_reducible rfl))
  show wpAnyH _ _ _ _ _ _ _ (Act.put _ (some 37) _) _
  simp only [Act.put, List.setIfInBounds_toArray, List.set_cons_succ, List.set_cons_zero]
  refine wpAnyH_take (i := 13) (oi := _) (v := ?_) rfl (by kernel_rfl) (by kernel_rfl) (by kernel_rfl) (fun _ _ _ h => h) (Or.inl ⟨by rfl, ?_⟩) (by assumption) ?_
  rotate_left
  · ((intro w hSw; (try dsimp only at hSw); go_simp) <;> (try with_reducible rfl))
  show wpAnyH _ _ _ _ _ _ _ (Act.put _ (some 38) _) _
  simp only [Act.put, List.setIfInBounds_toArray, List.set_cons_succ, List.set_cons_zero]
  refine wpAnyH_take (i := 14) (oi := _) (v := ?_) rfl (by kernel_rfl) (by kernel_rfl) (by kernel_rfl) (fun _ _ _ h => h) (Or.inl ⟨by rfl, ?_⟩) (by assumption) ?_
  rotate_left
  · ((intro w hSw; (try dsimp only at hSw); go_simp) <;> (try with_reducible rfl))
  show wpAnyH _ _ _ _ _ _ _ (Act.put _ (some 39) _) _
  simp only [Act.put, List.setIfInBounds_toArray, List.set_cons_succ, List.set_cons_zero]
  refine wpAnyH_done (by kernel_rfl) ?_ _
  refine NoPanic.normal ?_
  have K9 := hidT K.out
  obtain ⟨s0, s1, x1, x0⟩ := EE _ K9.out
  clear K
  have K := K9
  clear K9 R9
  go_upto_region 8 with fail
  refine wp_region_noPanic ?_
  refine wp_region_held_drew (S := fun w => w.cell? ⟨W.heap.size, 0, none⟩ = some (.int .i64 (l : Int)) ∧ w.cell? ⟨W.heap.size, 1, none⟩ = some (.slice a es.length cap) ∧ w.cell? ⟨W.heap.size + 1, 0, none⟩ = some (.int .u64 (x.1 : Int)) ∧ w.cell? ⟨W.heap.size + 1, 1, none⟩ = some (.int .u64 (x.2 : Int))) (by kernel_rfl) (EE _ K.out.drew) (fun hHeld => ?_)
  refine wpAnyH_take (i := 0) (oi := _) (v := ?_) rfl (by kernel_rfl) (by kernel_rfl) (by kernel_rfl) (fun _ _ _ h => h) (Or.inl ⟨by rfl, ?_⟩) (by assumption) ?_
  rotate_left
  · ((intro w hSw; (try dsimp only at hSw); go_simp) <;> (try with_reducible rfl))
  show wpAnyH _ _ _ _ _ _ _ (Act.put _ (some 49) _) _
  simp only [Act.put, List.setIfInBounds_toArray, List.set_cons_succ, List.set_cons_zero]
  refine wpAnyH_take (i := 2) (oi := _) (v := ?_) rfl (by kernel_rfl) (by kernel_rfl) (by kernel_rfl) (fun _ _ _ h => h) (Or.inl ⟨by rfl, ?_⟩) (by assumption) ?_
  rotate_left
  · ((intro w hSw; (try dsimp only at hSw); go_simp) <;> (try with_reducible rfl))
  show wpAnyH _ _ _ _ _ _ _ (Act.put _ (some 51) _) _
  simp only [Act.put, List.setIfInBounds_toArray, List.set_cons_succ, List.set_cons_zero]
  refine wpAnyH_take (i := 3) (oi := _) (v := ?_) rfl (by kernel_rfl) (by kernel_rfl) (by kernel_rfl) (fun _ _ _ h => h) (Or.inl ⟨by rfl, ?_⟩) (by assumption) ?_
  rotate_left
  · ((intro w hSw; (try dsimp only at hSw); go_simp) <;> (try with_reducible rfl))
  show wpAnyH _ _ _ _ _ _ _ (Act.put _ (some 52) _) _
  simp only [Act.put, List.setIfInBounds_toArray, List.set_cons_succ, List.set_cons_zero]
  refine wpAnyH_ready (rs := [1]) (by kernel_rfl) (by simp) ?_
  refine AllReadyH.cons (o := _) rfl (fun KK hKK => ?_) AllReadyH.nil
  go_simp
  (go_at_call 13; refine (HLv.out _ (by first | exact K.out | exact K.out.drew)).mono ?_; rintro e w9 ⟨rfl, hb⟩)
  have K'' : Hid (Below wm.heap.size wm w9) := (by first | exact K.out.trans (hb.mono K.out.size) | exact K.out.drew.trans (hb.mono K.out.drew.size))
  clear K hb
  have K := K''
  clear K''
  refine hKK.out _ _ ?_ (fun hHeld => ?_)
  · exact EE _ K.out
  clear hKK KK
  try simp only [Act.put]
  refine wpAnyH_take (i := 4) (oi := _) (v := ?_) rfl (by kernel_rfl) (by kernel_rfl) (by kernel_rfl) (fun _ _ _ h => h) (Or.inl ⟨by rfl, ?_⟩) (by assumption) ?_
  rotate_left
  · ((intro w hSw; (try dsimp only at hSw); go_simp) <;> (try with_reducible rfl))
  show wpAnyH _ _ _ _ _ _ _ (Act.put _ (some 53) _) _
  simp only [Act.put, List.setIfInBounds_toArray, List.set_cons_succ, List.set_cons_zero]
  refine wpAnyH_take (i := 5) (oi := _) (v := ?_) rfl (by kernel_rfl) (by kernel_rfl) (by kernel_rfl) (fun _ _ _ h => h) (Or.inl ⟨by rfl, ?_⟩) (by assumption) ?_
  rotate_left
  · ((intro w hSw; (try dsimp only at hSw); go_simp) <;> (try with_reducible rfl))
  show wpAnyH _ _ _ _ _ _ _ (Act.put _ (some 54) _) _
  simp only [Act.put, List.setIfInBounds_toArray, List.set_cons_succ, List.set_cons_zero]
  refine wpAnyH_take (i := 6) (oi := _) (v := ?_) rfl (by kernel_rfl) (by kernel_rfl) (by kernel_rfl) (fun _ _ _ h => h) (Or.inl ⟨by rfl, ?_⟩) (by assumption) ?_
  rotate_left
  · ((intro w hSw; (try dsimp only at hSw); go_simp) <;> (try with_reducible rfl))
  show wpAnyH _ _ _ _ _ _ _ (Act.put _ (some 55) _) _
  simp only [Act.put, List.setIfInBounds_toArray, List.set_cons_succ, List.set_cons_zero]
  refine wpAnyH_take (i := 8) (oi := _) (v := ?_) rfl (by kernel_rfl) (by kernel_rfl) (by kernel_rfl) (fun _ _ _ h => h) (Or.inl ⟨by rfl, ?_⟩) (by assumption) ?_
  rotate_left
  · ((intro w hSw; (try dsimp only at hSw); go_simp) <;> (try with_reducible rfl))
  show wpAnyH _ _ _ _ _ _ _ (Act.put _ (some 57) _) _
  simp only [Act.put, List.setIfInBounds_toArray, List.set_cons_succ, List.set_cons_zero]
  refine wpAnyH_take (i := 9) (oi := _) (v := ?_) rfl (by kernel_rfl) (by kernel_rfl) (by kernel_rfl) (fun _ _ _ h => h) (Or.inl ⟨by rfl, ?_⟩) (by assumption) ?_
  rotate_left
  · ((intro w hSw; (try dsimp only at hSw); go_simp) <;> (try with_reducible rfl))
  show wpAnyH _ _ _ _ _ _ _ (Act.put _ (some 58) _) _
  simp only [Act.put, List.setIfInBounds_toArray, List.set_cons_succ, List.set_cons_zero]
  refine wpAnyH_take (i := 10) (oi := _) (v := ?_) rfl (by kernel_rfl) (by kernel_rfl) (by kernel_rfl) (fun _ _ _ h => h) (Or.inl ⟨by rfl, ?_⟩) (by assumption) ?_
  rotate_left
  · ((intro w hSw; (try dsimp only at hSw); go_simp) <;> (try with_reducible rfl))
  show wpAnyH _ _ _ _ _ _ _ (Act.put _ (some 59) _) _
  simp only [Act.put, List.setIfInBounds_toArray, List.set_cons_succ, List.set_cons_zero]
  refine wpAnyH_ready (rs := [7]) (by kernel_rfl) (by simp) ?_
  refine AllReadyH.cons (o := _) rfl (fun KK hKK => ?_) AllReadyH.nil
  go_simp
  (go_at_call 14; refine (HDm.out _ (by first | exact K.out | exact K.out.drew)).mono ?_; rintro e w9 ⟨rfl, hb⟩)
  have K'' : Hid (Below wm.heap.size wm w9) := (by first | exact K.out.trans (hb.mono K.out.size) | exact K.out.drew.trans (hb.mono K.out.drew.size))
  clear K hb
  have K := K''
  clear K''
  refine hKK.out _ _ ?_ (fun hHeld => ?_)
  · exact EE _ K.out
  clear hKK KK
  try simp only [Act.put]
  refine wpAnyH_take (i := 11) (oi := _) (v := ?_) rfl (by kernel_rfl) (by kernel_rfl) (by kernel_rfl) (fun _ _ _ h => h) (Or.inl ⟨by rfl, ?_⟩) (by assumption) ?_
  rotate_left
  · ((intro w hSw; (try dsimp only at hSw); go_simp) <;> (try with_reducible rfl))
  show wpAnyH _ _ _ _ _ _ _ (Act.put _ (some 60) _) _
  simp only [Act.put, List.setIfInBounds_toArray, List.set_cons_succ, List.set_cons_zero]
  refine wpAnyH_take (i := 12) (oi := _) (v := ?_) rfl (by kernel_rfl) (by kernel_rfl) (by kernel_rfl) (fun _ _ _ h => h) (Or.inl ⟨by rfl, ?_⟩) (by assumption) ?_
  rotate_left
  · ((intro w hSw; (try dsimp only at hSw); go_simp) <;> (try with_reducible rfl))
  show wpAnyH _ _ _ _ _ _ _ (Act.put _ (some 61) _) _
  simp only [Act.put, List.setIfInBounds_toArray, List.set_cons_succ, List.set_cons_zero]
  refine wpAnyH_done (by kernel_rfl) ?_ _
  refine NoPanic.normal ?_
  have K9 := hidT K.out
  obtain ⟨s0, s1, x1, x0⟩ := EE _ K9.out
  clear K
  have K := K9
  clear K9
  have HPt : Hid (∀ w, Below wm.heap.size wm w → Calls Try.prog 15 #[.pointer (some ⟨p, 0, none⟩), .int .i64 i, .agg #[.int .u64 (x.1 : Int), .int .u64 (x.2 : Int)]] w fun e w' => e = .returned (.slice none 0 0) ∧ Below w.heap.size w w') := fun w hb => spts_no (S0.out.below hb) i x lx HV.out
  have HP1 := hidT (fun w (hb : Below wm.heap.size wm w) => spoint_no (S0.out.below hb) h10 (-1) (.inl (by decide)))
  have HP2 := hidT (fun w (hb : Below wm.heap.size wm w) => spoint_no (S0.out.below hb) h10 ((2 : Int) ^ es.length) (.inr (Int.le_refl _)))
  have hw : IntKind.i64.wrap (2 ^ es.length) = (2 : Int) ^ es.length := by
    have h3 : 2 ^ es.length ≤ 2 ^ 10 := Nat.pow_le_pow_right (by decide) h10
    rw [IntKind.wrap_i64, show (2 : Int) ^ es.length = ((2 ^ es.length : Nat) : Int) by simp]
    generalize 2 ^ es.length = p at *
    omega
  have hs : (es.length : Int) < 64 := by omega
  go_wp2_with (first | (go_at_call 15; refine (HPt.out _ K.out).mono ?_; rintro e w9 ⟨rfl, hb⟩; have K'' : Hid (Below wm.heap.size wm w9) := K.out.trans (hb.mono K.out.size); clear K hb s0 s1 x1 x0; have K := K''; clear K''; obtain ⟨s0, s1, x1, x0⟩ := EE _ K.out) | (go_at_call 16; refine (HX.out.go _).mono ?_; rintro e w9 ⟨rfl, hb⟩; have K'' : Hid (Below wm.heap.size wm w9) := K.out.trans (hb.mono K.out.size); clear K hb s0 s1 x1 x0; have K := K''; clear K''; obtain ⟨s0, s1, x1, x0⟩ := EE _ K.out) | (go_at_call 9; refine (HA.out.go _).mono ?_; rintro e w9 ⟨rfl, hb⟩; have K'' : Hid (Below wm.heap.size wm w9) := K.out.trans (hb.mono K.out.size); clear K hb s0 s1 x1 x0; have K := K''; clear K''; obtain ⟨s0, s1, x1, x0⟩ := EE _ K.out) | (go_at_call_of 17 (#[.pointer (some ⟨p, 0, none⟩), .int .i64 ((2 : Int) ^ es.length)] : Array Value); refine (HP2.out _ K.out).mono ?_; rintro e w9 ⟨rfl, hb⟩; have K'' : Hid (Below wm.heap.size wm w9) := K.out.trans (hb.mono K.out.size); clear K hb s0 s1 x1 x0; have K := K''; clear K''; obtain ⟨s0, s1, x1, x0⟩ := EE _ K.out) | (go_at_call 17; refine (HP1.out _ K.out).mono ?_; rintro e w9 ⟨rfl, hb⟩; have K'' : Hid (Below wm.heap.size wm w9) := K.out.trans (hb.mono K.out.size); clear K hb s0 s1 x1 x0; have K := K''; clear K''; obtain ⟨s0, s1, x1, x0⟩ := EE _ K.out))
  go_ret
  exact ⟨by rfl, B0.out.d.trans (K.out.mono B0.out.d.size)⟩
set_option linter.unusedVariables false in
set_option linter.unusedSimpArgs false in
set_option maxHeartbeats 16000000 in
set_option maxRecDepth 100000 in
theorem lm_over (l : Int) (a : Option Addr) (cap : Nat) (es : List (Nat × Nat)) (hes : ltE es) (i : Int) (x : Nat × Nat) (lx : lt2 x) (k : Nat) (hk : k < 8) (hl : l = (k : Int)) (ha : a = none → es.length = 0 ∧ cap = 0) (hcap : es.length ≤ cap) (h10 : es.length ≤ 10) (ot : ofT k es) (hf : Free es es.length) (h6 : es.length ≤ 6) (h0 : ¬ i < 0) (h1 : (es.length : Int) < i) (W : World) (hr : ERow W a es) :
    Calls Try.prog 3 #[.agg #[.int .i64 l, .slice a es.length cap], .int .i64 i, .agg #[.int .u64 (x.1 : Int), .int .u64 (x.2 : Int)]] W fun e w' => e = .returned (.bool true) ∧ Below W.heap.size W w' := by
  have HA := hidT awake5
  have HRf : Hid (∀ w, Below W.heap.size W w → Calls Try.prog 12 #[.slice a es.length cap] w fun e w' => ∃ a' c', es.length ≤ c' ∧ e = .returned (.slice a' es.length c') ∧ ERow w' a' es ∧ Below w.heap.size w w') := fun w hw => (sref_own a cap es (by omega) w (hr.below hw)).mono fun e w' ⟨a', c', e1, o, e3⟩ => ⟨a', c', own_cap o, e1, own_erow o, e3⟩
  have n12 : ¬ (12 : Int) < (es.length : Int) := by omega
  have HNw := hidT (fun w (hb : Below W.heap.size W w) => new_ok k hk a cap es hes h10 ot hf ha w (hr.below hb))
  rw [← hl] at HNw
  have hall : (es.all fun e => ofB l (e.1 : Int) (e.2 : Int)) = true := List.all_eq_true.2 fun e he => by rw [hl]; exact ot e he
  have HCk : Hid (∀ ar cr w, es.length ≤ cr → ERow w ar es → Calls Try.prog 11 #[.int .i64 l, .slice ar es.length cr] w fun e w' => e = .returned (.int .i64 0) ∧ Below w.heap.size w w') := fun ar cr w hc h => rcheck_ok l ar cr es hes (by omega) h10 hall hc hf w h
  have HLk := hidT hl
  have HX := hidT (rof_any l x.1 x.2 lx.1 lx.2)
  have n6 : ¬ (6 : Int) < (es.length : Int) := by omega
  have HV : Hid (hsv k es.length i x = false) := by
    show _ = _
    unfold hsv
    rw [decide_eq_true (show 0 ≤ i by omega), decide_eq_false (by omega)]; rfl
  clear hr hes ha ot hf hall hl 
  go_enter Try.func3, Try.ntmps3
  go_upto_region 4 with (go_at_call 10; refine (HNw.out _ (Yb.new W l a es.length cap x).d).mono ?_; rintro e w1 ⟨p, ts, a', aT, aB, c, cT, cB, rfl, hS, hU, hb1⟩; have B0 : Hid (Yb W w1 l (.slice a es.length cap) x) := (Yb.new W l a es.length cap x).below hb1; have S0 := hidT hS; have U1 := hidT hU; obtain ⟨s0, s1, x1, x0, _⟩ := B0.out; clear hb1 hS hU)
  obtain ⟨wm, hwm⟩ : ∃ wm, wm = w1 := ⟨_, rfl⟩
  subst hwm
  clear s0 s1 x1 x0
  have EE : ∀ w, Below wm.heap.size wm w → w.cell? ⟨W.heap.size, 0, none⟩ = some (.int .i64 (l : Int)) ∧ w.cell? ⟨W.heap.size, 1, none⟩ = some (.slice a es.length cap) ∧ w.cell? ⟨W.heap.size + 1, 0, none⟩ = some (.int .u64 (x.1 : Int)) ∧ w.cell? ⟨W.heap.size + 1, 1, none⟩ = some (.int .u64 (x.2 : Int)) := fun w hb => ⟨keepc hb B0.out.s0, keepc hb B0.out.s1, keepc hb B0.out.x1, keepc hb B0.out.x0⟩
  have K : Hid (Below wm.heap.size wm wm) := Below.refl _ _
  obtain ⟨s0, s1, x1, x0⟩ := EE _ K.out
  have HLv : Hid (∀ w, Below wm.heap.size wm w → Calls Try.prog 13 #[.pointer (some ⟨p, 0, none⟩)] w fun e w' => e = .returned (.int .i64 l) ∧ Below w.heap.size w w') := fun w hb => by rw [HLk.out]; exact slevel (k : Int) p w (S0.out.below hb).c0
  have HDm := hidT (fun w (hb : Below wm.heap.size wm w) => sdimL (S0.out.below hb))
  refine wp_region_noPanic ?_
  refine wp_region_held_drew (S := fun w => w.cell? ⟨W.heap.size, 0, none⟩ = some (.int .i64 (l : Int)) ∧ w.cell? ⟨W.heap.size, 1, none⟩ = some (.slice a es.length cap) ∧ w.cell? ⟨W.heap.size + 1, 0, none⟩ = some (.int .u64 (x.1 : Int)) ∧ w.cell? ⟨W.heap.size + 1, 1, none⟩ = some (.int .u64 (x.2 : Int))) (by kernel_rfl) (EE _ K.out.drew) (fun hHeld => ?_)
  refine wpAnyH_take (i := 0) (oi := _) (v := ?_) rfl (by kernel_rfl) (by kernel_rfl) (by kernel_rfl) (fun _ _ _ h => h) (Or.inl ⟨by rfl, ?_⟩) (by assumption) ?_
  rotate_left
  · ((intro w hSw; (try dsimp only at hSw); go_simp) <;> (try with_reducible rfl))
  show wpAnyH _ _ _ _ _ _ _ (Act.put _ (some 25) _) _
  simp only [Act.put, List.setIfInBounds_toArray, List.set_cons_succ, List.set_cons_zero]
  refine wpAnyH_take (i := 1) (oi := _) (v := ?_) rfl (by kernel_rfl) (by kernel_rfl) (by kernel_rfl) (fun _ _ _ h => h) (Or.inl ⟨by rfl, ?_⟩) (by assumption) ?_
  rotate_left
  · ((intro w hSw; (try dsimp only at hSw); go_simp) <;> (try with_reducible rfl))
  show wpAnyH _ _ _ _ _ _ _ (Act.put _ (some 26) _) _
  simp only [Act.put, List.setIfInBounds_toArray, List.set_cons_succ, List.set_cons_zero]
  refine wpAnyH_take (i := 2) (oi := _) (v := ?_) rfl (by kernel_rfl) (by kernel_rfl) (by kernel_rfl) (fun _ _ _ h => h) (Or.inl ⟨by rfl, ?_⟩) (by assumption) ?_
  rotate_left
  · ((intro w hSw; (try dsimp only at hSw); go_simp) <;> (try with_reducible rfl))
  show wpAnyH _ _ _ _ _ _ _ (Act.put _ (some 27) _) _
  simp only [Act.put, List.setIfInBounds_toArray, List.set_cons_succ, List.set_cons_zero]
  refine wpAnyH_take (i := 3) (oi := _) (v := ?_) rfl (by kernel_rfl) (by kernel_rfl) (by kernel_rfl) (fun _ _ _ h => h) (Or.inl ⟨by rfl, ?_⟩) (by assumption) ?_
  rotate_left
  · ((intro w hSw; (try dsimp only at hSw); go_simp) <;> (try with_reducible rfl))
  show wpAnyH _ _ _ _ _ _ _ (Act.put _ (some 28) _) _
  simp only [Act.put, List.setIfInBounds_toArray, List.set_cons_succ, List.set_cons_zero]
  refine wpAnyH_take (i := 4) (oi := _) (v := ?_) rfl (by kernel_rfl) (by kernel_rfl) (by kernel_rfl) (fun _ _ _ h => h) (Or.inl ⟨by rfl, ?_⟩) (by assumption) ?_
  rotate_left
  · ((intro w hSw; (try dsimp only at hSw); go_simp) <;> (try with_reducible rfl))
  show wpAnyH _ _ _ _ _ _ _ (Act.put _ (some 29) _) _
  simp only [Act.put, List.setIfInBounds_toArray, List.set_cons_succ, List.set_cons_zero]
  refine wpAnyH_ready (rs := [5]) (by kernel_rfl) (by simp) ?_
  refine AllReadyH.cons (o := _) rfl (fun KK hKK => ?_) AllReadyH.nil
  go_simp
  (go_at_call 12; refine (HRf.out _ (by first | exact B0.out.d.trans (K.out.mono B0.out.d.size) | exact B0.out.d.trans (K.out.drew.mono B0.out.d.size))).mono ?_; rintro e w9 ⟨ar, cr, hcr, rfl, hrr, hb⟩)
  have R9 := hidT (And.intro hcr hrr)
  clear hrr hcr
  have K'' : Hid (Below wm.heap.size wm w9) := (by first | exact K.out.trans (hb.mono K.out.size) | exact K.out.drew.trans (hb.mono K.out.drew.size))
  clear K hb
  have K := K''
  clear K''
  refine hKK.out _ _ ?_ (fun hHeld => ?_)
  · exact EE _ K.out
  clear hKK KK
  try simp only [Act.put]
  refine wpAnyH_ready (rs := [6]) (by kernel_rfl) (by simp) ?_
  refine AllReadyH.cons (o := _) rfl (fun KK hKK => ?_) AllReadyH.nil
  go_simp
  (go_at_call 11; refine (HCk.out _ _ _ R9.out.1 (R9.out.2.below (by first | exact Below.refl _ _ | exact (Below.refl _ _).drew))).mono ?_; rintro e w9 ⟨rfl, hb⟩)
  have K'' : Hid (Below wm.heap.size wm w9) := (by first | exact K.out.trans (hb.mono K.out.size) | exact K.out.drew.trans (hb.mono K.out.drew.size))
  clear K hb
  have K := K''
  clear K''
  refine hKK.out _ _ ?_ (fun hHeld => ?_)
  · exact EE _ K.out
  clear hKK KK
  try simp only [Act.put]
  refine wpAnyH_take (i := 7) (oi := _) (v := ?_) rfl (by kernel_rfl) (by kernel_rfl) (by kernel_rfl) (fun _ _ _ h => h) (Or.inl ⟨by rfl, ?_⟩) (by assumption) ?_
  rotate_left
  · ((intro w hSw; (try dsimp only at hSw); go_simp) <;> (try with_reducible rfl))
  show wpAnyH _ _ _ _ _ _ _ (Act.put _ (some 32) _) _
  simp only [Act.put, List.setIfInBounds_toArray, List.set_cons_succ, List.set_cons_zero]
  refine wpAnyH_take (i := 8) (oi := _) (v := ?_) rfl (by kernel_rfl) (by kernel_rfl) (by kernel_rfl) (fun _ _ _ h => h) (Or.inl ⟨by rfl, ?_⟩) (by assumption) ?_
  rotate_left
  · ((intro w hSw; (try dsimp only at hSw); go_simp) <;> (try with_reducible rfl))
  show wpAnyH _ _ _ _ _ _ _ (Act.put _ (some 33) _) _
  simp only [Act.put, List.setIfInBounds_toArray, List.set_cons_succ, List.set_cons_zero]
  refine wpAnyH_take (i := 9) (oi := _) (v := ?_) rfl (by kernel_rfl) (by kernel_rfl) (by kernel_rfl) (fun _ _ _ h => h) (Or.inl ⟨by rfl, ?_⟩) (by assumption) ?_
  rotate_left
  · ((intro w hSw; (try dsimp only at hSw); go_simp) <;> (try with_reducible rfl))
  show wpAnyH _ _ _ _ _ _ _ (Act.put _ (some 34) _) _
  simp only [Act.put, List.setIfInBounds_toArray, List.set_cons_succ, List.set_cons_zero]
  refine wpAnyH_take (i := 10) (oi := _) (v := ?_) rfl (by kernel_rfl) (by kernel_rfl) (by kernel_rfl) (fun _ _ _ h => h) (Or.inl ⟨by rfl, ?_⟩) (by assumption) ?_
  rotate_left
  · ((intro w hSw; (try dsimp only at hSw); go_simp) <;> (try with_reducible rfl))
  show wpAnyH _ _ _ _ _ _ _ (Act.put _ (some 35) _) _
  simp only [Act.put, List.setIfInBounds_toArray, List.set_cons_succ, List.set_cons_zero]
  refine wpAnyH_take (i := 11) (oi := _) (v := ?_) rfl (by kernel_rfl) (by kernel_rfl) (by kernel_rfl) (fun _ _ _ h => h) (Or.inl ⟨by rfl, ?_⟩) (by assumption) ?_
  rotate_left
  · ((intro w hSw; (try dsimp only at hSw); go_simp) <;> (try with_reducible rfl))
  show wpAnyH _ _ _ _ _ _ _ (Act.put _ (some 36) _) _
  simp only [Act.put, List.setIfInBounds_toArray, List.set_cons_succ, List.set_cons_zero]
  refine wpAnyH_take (i := 12) (oi := _) (v := ?_) rfl (by kernel_rfl) (by kernel_rfl) (by kernel_rfl) (fun _ _ _ h => h) (Or.inl ⟨by rfl, ?_⟩) (by assumption) ?_
  rotate_left
  · ((intro w hSw; (try dsimp only at hSw); go_simp) <;> (try with_reducible rfl))
  show wpAnyH _ _ _ _ _ _ _ (Act.put _ (some 37) _) _
  simp only [Act.put, List.setIfInBounds_toArray, List.set_cons_succ, List.set_cons_zero]
  refine wpAnyH_take (i := 13) (oi := _) (v := ?_) rfl (by kernel_rfl) (by kernel_rfl) (by kernel_rfl) (fun _ _ _ h => h) (Or.inl ⟨by rfl, ?_⟩) (by assumption) ?_
  rotate_left
  · ((intro w hSw; (try dsimp only at hSw); go_simp) <;> (try with_reducible rfl))
  show wpAnyH _ _ _ _ _ _ _ (Act.put _ (some 38) _) _
  simp only [Act.put, List.setIfInBounds_toArray, List.set_cons_succ, List.set_cons_zero]
  refine wpAnyH_take (i := 14) (oi := _) (v := ?_) rfl (by kernel_rfl) (by kernel_rfl) (by kernel_rfl) (fun _ _ _ h => h) (Or.inl ⟨by rfl, ?_⟩) (by assumption) ?_
  rotate_left
  · ((intro w hSw; (try dsimp only at hSw); go_simp) <;> (try with_reducible rfl))
  show wpAnyH _ _ _ _ _ _ _ (Act.put _ (some 39) _) _
  simp only [Act.put, List.setIfInBounds_toArray, List.set_cons_succ, List.set_cons_zero]
  refine wpAnyH_done (by kernel_rfl) ?_ _
  refine NoPanic.normal ?_
  have K9 := hidT K.out
  obtain ⟨s0, s1, x1, x0⟩ := EE _ K9.out
  clear K
  have K := K9
  clear K9 R9
  go_upto_region 8 with fail
  refine wp_region_noPanic ?_
  refine wp_region_held_drew (S := fun w => w.cell? ⟨W.heap.size, 0, none⟩ = some (.int .i64 (l : Int)) ∧ w.cell? ⟨W.heap.size, 1, none⟩ = some (.slice a es.length cap) ∧ w.cell? ⟨W.heap.size + 1, 0, none⟩ = some (.int .u64 (x.1 : Int)) ∧ w.cell? ⟨W.heap.size + 1, 1, none⟩ = some (.int .u64 (x.2 : Int))) (by kernel_rfl) (EE _ K.out.drew) (fun hHeld => ?_)
  refine wpAnyH_take (i := 0) (oi := _) (v := ?_) rfl (by kernel_rfl) (by kernel_rfl) (by kernel_rfl) (fun _ _ _ h => h) (Or.inl ⟨by rfl, ?_⟩) (by assumption) ?_
  rotate_left
  · ((intro w hSw; (try dsimp only at hSw); go_simp) <;> (try with_reducible rfl))
  show wpAnyH _ _ _ _ _ _ _ (Act.put _ (some 49) _) _
  simp only [Act.put, List.setIfInBounds_toArray, List.set_cons_succ, List.set_cons_zero]
  refine wpAnyH_take (i := 2) (oi := _) (v := ?_) rfl (by kernel_rfl) (by kernel_rfl) (by kernel_rfl) (fun _ _ _ h => h) (Or.inl ⟨by rfl, ?_⟩) (by assumption) ?_
  rotate_left
  · ((intro w hSw; (try dsimp only at hSw); go_simp) <;> (try with_reducible rfl))
  show wpAnyH _ _ _ _ _ _ _ (Act.put _ (some 51) _) _
  simp only [Act.put, List.setIfInBounds_toArray, List.set_cons_succ, List.set_cons_zero]
  refine wpAnyH_take (i := 3) (oi := _) (v := ?_) rfl (by kernel_rfl) (by kernel_rfl) (by kernel_rfl) (fun _ _ _ h => h) (Or.inl ⟨by rfl, ?_⟩) (by assumption) ?_
  rotate_left
  · ((intro w hSw; (try dsimp only at hSw); go_simp) <;> (try with_reducible rfl))
  show wpAnyH _ _ _ _ _ _ _ (Act.put _ (some 52) _) _
  simp only [Act.put, List.setIfInBounds_toArray, List.set_cons_succ, List.set_cons_zero]
  refine wpAnyH_ready (rs := [1]) (by kernel_rfl) (by simp) ?_
  refine AllReadyH.cons (o := _) rfl (fun KK hKK => ?_) AllReadyH.nil
  go_simp
  (go_at_call 13; refine (HLv.out _ (by first | exact K.out | exact K.out.drew)).mono ?_; rintro e w9 ⟨rfl, hb⟩)
  have K'' : Hid (Below wm.heap.size wm w9) := (by first | exact K.out.trans (hb.mono K.out.size) | exact K.out.drew.trans (hb.mono K.out.drew.size))
  clear K hb
  have K := K''
  clear K''
  refine hKK.out _ _ ?_ (fun hHeld => ?_)
  · exact EE _ K.out
  clear hKK KK
  try simp only [Act.put]
  refine wpAnyH_take (i := 4) (oi := _) (v := ?_) rfl (by kernel_rfl) (by kernel_rfl) (by kernel_rfl) (fun _ _ _ h => h) (Or.inl ⟨by rfl, ?_⟩) (by assumption) ?_
  rotate_left
  · ((intro w hSw; (try dsimp only at hSw); go_simp) <;> (try with_reducible rfl))
  show wpAnyH _ _ _ _ _ _ _ (Act.put _ (some 53) _) _
  simp only [Act.put, List.setIfInBounds_toArray, List.set_cons_succ, List.set_cons_zero]
  refine wpAnyH_take (i := 5) (oi := _) (v := ?_) rfl (by kernel_rfl) (by kernel_rfl) (by kernel_rfl) (fun _ _ _ h => h) (Or.inl ⟨by rfl, ?_⟩) (by assumption) ?_
  rotate_left
  · ((intro w hSw; (try dsimp only at hSw); go_simp) <;> (try with_reducible rfl))
  show wpAnyH _ _ _ _ _ _ _ (Act.put _ (some 54) _) _
  simp only [Act.put, List.setIfInBounds_toArray, List.set_cons_succ, List.set_cons_zero]
  refine wpAnyH_take (i := 6) (oi := _) (v := ?_) rfl (by kernel_rfl) (by kernel_rfl) (by kernel_rfl) (fun _ _ _ h => h) (Or.inl ⟨by rfl, ?_⟩) (by assumption) ?_
  rotate_left
  · ((intro w hSw; (try dsimp only at hSw); go_simp) <;> (try with_reducible rfl))
  show wpAnyH _ _ _ _ _ _ _ (Act.put _ (some 55) _) _
  simp only [Act.put, List.setIfInBounds_toArray, List.set_cons_succ, List.set_cons_zero]
  refine wpAnyH_take (i := 8) (oi := _) (v := ?_) rfl (by kernel_rfl) (by kernel_rfl) (by kernel_rfl) (fun _ _ _ h => h) (Or.inl ⟨by rfl, ?_⟩) (by assumption) ?_
  rotate_left
  · ((intro w hSw; (try dsimp only at hSw); go_simp) <;> (try with_reducible rfl))
  show wpAnyH _ _ _ _ _ _ _ (Act.put _ (some 57) _) _
  simp only [Act.put, List.setIfInBounds_toArray, List.set_cons_succ, List.set_cons_zero]
  refine wpAnyH_take (i := 9) (oi := _) (v := ?_) rfl (by kernel_rfl) (by kernel_rfl) (by kernel_rfl) (fun _ _ _ h => h) (Or.inl ⟨by rfl, ?_⟩) (by assumption) ?_
  rotate_left
  · ((intro w hSw; (try dsimp only at hSw); go_simp) <;> (try with_reducible rfl))
  show wpAnyH _ _ _ _ _ _ _ (Act.put _ (some 58) _) _
  simp only [Act.put, List.setIfInBounds_toArray, List.set_cons_succ, List.set_cons_zero]
  refine wpAnyH_take (i := 10) (oi := _) (v := ?_) rfl (by kernel_rfl) (by kernel_rfl) (by kernel_rfl) (fun _ _ _ h => h) (Or.inl ⟨by rfl, ?_⟩) (by assumption) ?_
  rotate_left
  · ((intro w hSw; (try dsimp only at hSw); go_simp) <;> (try with_reducible rfl))
  show wpAnyH _ _ _ _ _ _ _ (Act.put _ (some 59) _) _
  simp only [Act.put, List.setIfInBounds_toArray, List.set_cons_succ, List.set_cons_zero]
  refine wpAnyH_ready (rs := [7]) (by kernel_rfl) (by simp) ?_
  refine AllReadyH.cons (o := _) rfl (fun KK hKK => ?_) AllReadyH.nil
  go_simp
  (go_at_call 14; refine (HDm.out _ (by first | exact K.out | exact K.out.drew)).mono ?_; rintro e w9 ⟨rfl, hb⟩)
  have K'' : Hid (Below wm.heap.size wm w9) := (by first | exact K.out.trans (hb.mono K.out.size) | exact K.out.drew.trans (hb.mono K.out.drew.size))
  clear K hb
  have K := K''
  clear K''
  refine hKK.out _ _ ?_ (fun hHeld => ?_)
  · exact EE _ K.out
  clear hKK KK
  try simp only [Act.put]
  refine wpAnyH_take (i := 11) (oi := _) (v := ?_) rfl (by kernel_rfl) (by kernel_rfl) (by kernel_rfl) (fun _ _ _ h => h) (Or.inl ⟨by rfl, ?_⟩) (by assumption) ?_
  rotate_left
  · ((intro w hSw; (try dsimp only at hSw); go_simp) <;> (try with_reducible rfl))
  show wpAnyH _ _ _ _ _ _ _ (Act.put _ (some 60) _) _
  simp only [Act.put, List.setIfInBounds_toArray, List.set_cons_succ, List.set_cons_zero]
  refine wpAnyH_take (i := 12) (oi := _) (v := ?_) rfl (by kernel_rfl) (by kernel_rfl) (by kernel_rfl) (fun _ _ _ h => h) (Or.inl ⟨by rfl, ?_⟩) (by assumption) ?_
  rotate_left
  · ((intro w hSw; (try dsimp only at hSw); go_simp) <;> (try with_reducible rfl))
  show wpAnyH _ _ _ _ _ _ _ (Act.put _ (some 61) _) _
  simp only [Act.put, List.setIfInBounds_toArray, List.set_cons_succ, List.set_cons_zero]
  refine wpAnyH_done (by kernel_rfl) ?_ _
  refine NoPanic.normal ?_
  have K9 := hidT K.out
  obtain ⟨s0, s1, x1, x0⟩ := EE _ K9.out
  clear K
  have K := K9
  clear K9
  have HPt : Hid (∀ w, Below wm.heap.size wm w → Calls Try.prog 15 #[.pointer (some ⟨p, 0, none⟩), .int .i64 i, .agg #[.int .u64 (x.1 : Int), .int .u64 (x.2 : Int)]] w fun e w' => e = .returned (.slice none 0 0) ∧ Below w.heap.size w w') := fun w hb => spts_no (S0.out.below hb) i x lx HV.out
  have HP1 := hidT (fun w (hb : Below wm.heap.size wm w) => spoint_no (S0.out.below hb) h10 (-1) (.inl (by decide)))
  have HP2 := hidT (fun w (hb : Below wm.heap.size wm w) => spoint_no (S0.out.below hb) h10 ((2 : Int) ^ es.length) (.inr (Int.le_refl _)))
  have hw : IntKind.i64.wrap (2 ^ es.length) = (2 : Int) ^ es.length := by
    have h3 : 2 ^ es.length ≤ 2 ^ 10 := Nat.pow_le_pow_right (by decide) h10
    rw [IntKind.wrap_i64, show (2 : Int) ^ es.length = ((2 ^ es.length : Nat) : Int) by simp]
    generalize 2 ^ es.length = p at *
    omega
  have hs : (es.length : Int) < 64 := by omega
  go_wp2_with (first | (go_at_call 15; refine (HPt.out _ K.out).mono ?_; rintro e w9 ⟨rfl, hb⟩; have K'' : Hid (Below wm.heap.size wm w9) := K.out.trans (hb.mono K.out.size); clear K hb s0 s1 x1 x0; have K := K''; clear K''; obtain ⟨s0, s1, x1, x0⟩ := EE _ K.out) | (go_at_call 16; refine (HX.out.go _).mono ?_; rintro e w9 ⟨rfl, hb⟩; have K'' : Hid (Below wm.heap.size wm w9) := K.out.trans (hb.mono K.out.size); clear K hb s0 s1 x1 x0; have K := K''; clear K''; obtain ⟨s0, s1, x1, x0⟩ := EE _ K.out) | (go_at_call 9; refine (HA.out.go _).mono ?_; rintro e w9 ⟨rfl, hb⟩; have K'' : Hid (Below wm.heap.size wm w9) := K.out.trans (hb.mono K.out.size); clear K hb s0 s1 x1 x0; have K := K''; clear K''; obtain ⟨s0, s1, x1, x0⟩ := EE _ K.out) | (go_at_call_of 17 (#[.pointer (some ⟨p, 0, none⟩), .int .i64 ((2 : Int) ^ es.length)] : Array Value); refine (HP2.out _ K.out).mono ?_; rintro e w9 ⟨rfl, hb⟩; have K'' : Hid (Below wm.heap.size wm w9) := K.out.trans (hb.mono K.out.size); clear K hb s0 s1 x1 x0; have K := K''; clear K''; obtain ⟨s0, s1, x1, x0⟩ := EE _ K.out) | (go_at_call 17; refine (HP1.out _ K.out).mono ?_; rintro e w9 ⟨rfl, hb⟩; have K'' : Hid (Below wm.heap.size wm w9) := K.out.trans (hb.mono K.out.size); clear K hb s0 s1 x1 x0; have K := K''; clear K''; obtain ⟨s0, s1, x1, x0⟩ := EE _ K.out))
  go_ret
  exact ⟨by rfl, B0.out.d.trans (K.out.mono B0.out.d.size)⟩
set_option linter.unusedVariables false in
set_option linter.unusedSimpArgs false in
set_option maxHeartbeats 16000000 in
set_option maxRecDepth 100000 in
theorem lm_not (l : Int) (a : Option Addr) (cap : Nat) (es : List (Nat × Nat)) (hes : ltE es) (i : Int) (x : Nat × Nat) (lx : lt2 x) (k : Nat) (hk : k < 8) (hl : l = (k : Int)) (ha : a = none → es.length = 0 ∧ cap = 0) (hcap : es.length ≤ cap) (h10 : es.length ≤ 10) (ot : ofT k es) (hf : Free es es.length) (h6 : es.length ≤ 6) (h0 : ¬ i < 0) (h1 : ¬ (es.length : Int) < i) (ox : ofB l (x.1 : Int) (x.2 : Int) = false) (W : World) (hr : ERow W a es) :
    Calls Try.prog 3 #[.agg #[.int .i64 l, .slice a es.length cap], .int .i64 i, .agg #[.int .u64 (x.1 : Int), .int .u64 (x.2 : Int)]] W fun e w' => e = .returned (.bool true) ∧ Below W.heap.size W w' := by
  have HA := hidT awake5
  have HRf : Hid (∀ w, Below W.heap.size W w → Calls Try.prog 12 #[.slice a es.length cap] w fun e w' => ∃ a' c', es.length ≤ c' ∧ e = .returned (.slice a' es.length c') ∧ ERow w' a' es ∧ Below w.heap.size w w') := fun w hw => (sref_own a cap es (by omega) w (hr.below hw)).mono fun e w' ⟨a', c', e1, o, e3⟩ => ⟨a', c', own_cap o, e1, own_erow o, e3⟩
  have n12 : ¬ (12 : Int) < (es.length : Int) := by omega
  have HNw := hidT (fun w (hb : Below W.heap.size W w) => new_ok k hk a cap es hes h10 ot hf ha w (hr.below hb))
  rw [← hl] at HNw
  have hall : (es.all fun e => ofB l (e.1 : Int) (e.2 : Int)) = true := List.all_eq_true.2 fun e he => by rw [hl]; exact ot e he
  have HCk : Hid (∀ ar cr w, es.length ≤ cr → ERow w ar es → Calls Try.prog 11 #[.int .i64 l, .slice ar es.length cr] w fun e w' => e = .returned (.int .i64 0) ∧ Below w.heap.size w w') := fun ar cr w hc h => rcheck_ok l ar cr es hes (by omega) h10 hall hc hf w h
  have HLk := hidT hl
  have HX := hidT (rof_any l x.1 x.2 lx.1 lx.2)
  have n6 : ¬ (6 : Int) < (es.length : Int) := by omega
  have HV : Hid (hsv k es.length i x = false) := by
    show _ = _
    unfold hsv
    rw [← hl, ox]; simp
  rw [ox] at HX
  clear hr hes ha ot hf hall hl 
  go_enter Try.func3, Try.ntmps3
  go_upto_region 4 with (go_at_call 10; refine (HNw.out _ (Yb.new W l a es.length cap x).d).mono ?_; rintro e w1 ⟨p, ts, a', aT, aB, c, cT, cB, rfl, hS, hU, hb1⟩; have B0 : Hid (Yb W w1 l (.slice a es.length cap) x) := (Yb.new W l a es.length cap x).below hb1; have S0 := hidT hS; have U1 := hidT hU; obtain ⟨s0, s1, x1, x0, _⟩ := B0.out; clear hb1 hS hU)
  obtain ⟨wm, hwm⟩ : ∃ wm, wm = w1 := ⟨_, rfl⟩
  subst hwm
  clear s0 s1 x1 x0
  have EE : ∀ w, Below wm.heap.size wm w → w.cell? ⟨W.heap.size, 0, none⟩ = some (.int .i64 (l : Int)) ∧ w.cell? ⟨W.heap.size, 1, none⟩ = some (.slice a es.length cap) ∧ w.cell? ⟨W.heap.size + 1, 0, none⟩ = some (.int .u64 (x.1 : Int)) ∧ w.cell? ⟨W.heap.size + 1, 1, none⟩ = some (.int .u64 (x.2 : Int)) := fun w hb => ⟨keepc hb B0.out.s0, keepc hb B0.out.s1, keepc hb B0.out.x1, keepc hb B0.out.x0⟩
  have K : Hid (Below wm.heap.size wm wm) := Below.refl _ _
  obtain ⟨s0, s1, x1, x0⟩ := EE _ K.out
  have HLv : Hid (∀ w, Below wm.heap.size wm w → Calls Try.prog 13 #[.pointer (some ⟨p, 0, none⟩)] w fun e w' => e = .returned (.int .i64 l) ∧ Below w.heap.size w w') := fun w hb => by rw [HLk.out]; exact slevel (k : Int) p w (S0.out.below hb).c0
  have HDm := hidT (fun w (hb : Below wm.heap.size wm w) => sdimL (S0.out.below hb))
  refine wp_region_noPanic ?_
  refine wp_region_held_drew (S := fun w => w.cell? ⟨W.heap.size, 0, none⟩ = some (.int .i64 (l : Int)) ∧ w.cell? ⟨W.heap.size, 1, none⟩ = some (.slice a es.length cap) ∧ w.cell? ⟨W.heap.size + 1, 0, none⟩ = some (.int .u64 (x.1 : Int)) ∧ w.cell? ⟨W.heap.size + 1, 1, none⟩ = some (.int .u64 (x.2 : Int))) (by kernel_rfl) (EE _ K.out.drew) (fun hHeld => ?_)
  refine wpAnyH_take (i := 0) (oi := _) (v := ?_) rfl (by kernel_rfl) (by kernel_rfl) (by kernel_rfl) (fun _ _ _ h => h) (Or.inl ⟨by rfl, ?_⟩) (by assumption) ?_
  rotate_left
  · ((intro w hSw; (try dsimp only at hSw); go_simp) <;> (try with_reducible rfl))
  show wpAnyH _ _ _ _ _ _ _ (Act.put _ (some 25) _) _
  simp only [Act.put, List.setIfInBounds_toArray, List.set_cons_succ, List.set_cons_zero]
  refine wpAnyH_take (i := 1) (oi := _) (v := ?_) rfl (by kernel_rfl) (by kernel_rfl) (by kernel_rfl) (fun _ _ _ h => h) (Or.inl ⟨by rfl, ?_⟩) (by assumption) ?_
  rotate_left
  · ((intro w hSw; (try dsimp only at hSw); go_simp) <;> (try with_reducible rfl))
  show wpAnyH _ _ _ _ _ _ _ (Act.put _ (some 26) _) _
  simp only [Act.put, List.setIfInBounds_toArray, List.set_cons_succ, List.set_cons_zero]
  refine wpAnyH_take (i := 2) (oi := _) (v := ?_) rfl (by kernel_rfl) (by kernel_rfl) (by kernel_rfl) (fun _ _ _ h => h) (Or.inl ⟨by rfl, ?_⟩) (by assumption) ?_
  rotate_left
  · ((intro w hSw; (try dsimp only at hSw); go_simp) <;> (try with_reducible rfl))
  show wpAnyH _ _ _ _ _ _ _ (Act.put _ (some 27) _) _
  simp only [Act.put, List.setIfInBounds_toArray, List.set_cons_succ, List.set_cons_zero]
  refine wpAnyH_take (i := 3) (oi := _) (v := ?_) rfl (by kernel_rfl) (by kernel_rfl) (by kernel_rfl) (fun _ _ _ h => h) (Or.inl ⟨by rfl, ?_⟩) (by assumption) ?_
  rotate_left
  · ((intro w hSw; (try dsimp only at hSw); go_simp) <;> (try with_reducible rfl))
  show wpAnyH _ _ _ _ _ _ _ (Act.put _ (some 28) _) _
  simp only [Act.put, List.setIfInBounds_toArray, List.set_cons_succ, List.set_cons_zero]
  refine wpAnyH_take (i := 4) (oi := _) (v := ?_) rfl (by kernel_rfl) (by kernel_rfl) (by kernel_rfl) (fun _ _ _ h => h) (Or.inl ⟨by rfl, ?_⟩) (by assumption) ?_
  rotate_left
  · ((intro w hSw; (try dsimp only at hSw); go_simp) <;> (try with_reducible rfl))
  show wpAnyH _ _ _ _ _ _ _ (Act.put _ (some 29) _) _
  simp only [Act.put, List.setIfInBounds_toArray, List.set_cons_succ, List.set_cons_zero]
  refine wpAnyH_ready (rs := [5]) (by kernel_rfl) (by simp) ?_
  refine AllReadyH.cons (o := _) rfl (fun KK hKK => ?_) AllReadyH.nil
  go_simp
  (go_at_call 12; refine (HRf.out _ (by first | exact B0.out.d.trans (K.out.mono B0.out.d.size) | exact B0.out.d.trans (K.out.drew.mono B0.out.d.size))).mono ?_; rintro e w9 ⟨ar, cr, hcr, rfl, hrr, hb⟩)
  have R9 := hidT (And.intro hcr hrr)
  clear hrr hcr
  have K'' : Hid (Below wm.heap.size wm w9) := (by first | exact K.out.trans (hb.mono K.out.size) | exact K.out.drew.trans (hb.mono K.out.drew.size))
  clear K hb
  have K := K''
  clear K''
  refine hKK.out _ _ ?_ (fun hHeld => ?_)
  · exact EE _ K.out
  clear hKK KK
  try simp only [Act.put]
  refine wpAnyH_ready (rs := [6]) (by kernel_rfl) (by simp) ?_
  refine AllReadyH.cons (o := _) rfl (fun KK hKK => ?_) AllReadyH.nil
  go_simp
  (go_at_call 11; refine (HCk.out _ _ _ R9.out.1 (R9.out.2.below (by first | exact Below.refl _ _ | exact (Below.refl _ _).drew))).mono ?_; rintro e w9 ⟨rfl, hb⟩)
  have K'' : Hid (Below wm.heap.size wm w9) := (by first | exact K.out.trans (hb.mono K.out.size) | exact K.out.drew.trans (hb.mono K.out.drew.size))
  clear K hb
  have K := K''
  clear K''
  refine hKK.out _ _ ?_ (fun hHeld => ?_)
  · exact EE _ K.out
  clear hKK KK
  try simp only [Act.put]
  refine wpAnyH_take (i := 7) (oi := _) (v := ?_) rfl (by kernel_rfl) (by kernel_rfl) (by kernel_rfl) (fun _ _ _ h => h) (Or.inl ⟨by rfl, ?_⟩) (by assumption) ?_
  rotate_left
  · ((intro w hSw; (try dsimp only at hSw); go_simp) <;> (try with_reducible rfl))
  show wpAnyH _ _ _ _ _ _ _ (Act.put _ (some 32) _) _
  simp only [Act.put, List.setIfInBounds_toArray, List.set_cons_succ, List.set_cons_zero]
  refine wpAnyH_take (i := 8) (oi := _) (v := ?_) rfl (by kernel_rfl) (by kernel_rfl) (by kernel_rfl) (fun _ _ _ h => h) (Or.inl ⟨by rfl, ?_⟩) (by assumption) ?_
  rotate_left
  · ((intro w hSw; (try dsimp only at hSw); go_simp) <;> (try with_reducible rfl))
  show wpAnyH _ _ _ _ _ _ _ (Act.put _ (some 33) _) _
  simp only [Act.put, List.setIfInBounds_toArray, List.set_cons_succ, List.set_cons_zero]
  refine wpAnyH_take (i := 9) (oi := _) (v := ?_) rfl (by kernel_rfl) (by kernel_rfl) (by kernel_rfl) (fun _ _ _ h => h) (Or.inl ⟨by rfl, ?_⟩) (by assumption) ?_
  rotate_left
  · ((intro w hSw; (try dsimp only at hSw); go_simp) <;> (try with_reducible rfl))
  show wpAnyH _ _ _ _ _ _ _ (Act.put _ (some 34) _) _
  simp only [Act.put, List.setIfInBounds_toArray, List.set_cons_succ, List.set_cons_zero]
  refine wpAnyH_take (i := 10) (oi := _) (v := ?_) rfl (by kernel_rfl) (by kernel_rfl) (by kernel_rfl) (fun _ _ _ h => h) (Or.inl ⟨by rfl, ?_⟩) (by assumption) ?_
  rotate_left
  · ((intro w hSw; (try dsimp only at hSw); go_simp) <;> (try with_reducible rfl))
  show wpAnyH _ _ _ _ _ _ _ (Act.put _ (some 35) _) _
  simp only [Act.put, List.setIfInBounds_toArray, List.set_cons_succ, List.set_cons_zero]
  refine wpAnyH_take (i := 11) (oi := _) (v := ?_) rfl (by kernel_rfl) (by kernel_rfl) (by kernel_rfl) (fun _ _ _ h => h) (Or.inl ⟨by rfl, ?_⟩) (by assumption) ?_
  rotate_left
  · ((intro w hSw; (try dsimp only at hSw); go_simp) <;> (try with_reducible rfl))
  show wpAnyH _ _ _ _ _ _ _ (Act.put _ (some 36) _) _
  simp only [Act.put, List.setIfInBounds_toArray, List.set_cons_succ, List.set_cons_zero]
  refine wpAnyH_take (i := 12) (oi := _) (v := ?_) rfl (by kernel_rfl) (by kernel_rfl) (by kernel_rfl) (fun _ _ _ h => h) (Or.inl ⟨by rfl, ?_⟩) (by assumption) ?_
  rotate_left
  · ((intro w hSw; (try dsimp only at hSw); go_simp) <;> (try with_reducible rfl))
  show wpAnyH _ _ _ _ _ _ _ (Act.put _ (some 37) _) _
  simp only [Act.put, List.setIfInBounds_toArray, List.set_cons_succ, List.set_cons_zero]
  refine wpAnyH_take (i := 13) (oi := _) (v := ?_) rfl (by kernel_rfl) (by kernel_rfl) (by kernel_rfl) (fun _ _ _ h => h) (Or.inl ⟨by rfl, ?_⟩) (by assumption) ?_
  rotate_left
  · ((intro w hSw; (try dsimp only at hSw); go_simp) <;> (try with_reducible rfl))
  show wpAnyH _ _ _ _ _ _ _ (Act.put _ (some 38) _) _
  simp only [Act.put, List.setIfInBounds_toArray, List.set_cons_succ, List.set_cons_zero]
  refine wpAnyH_take (i := 14) (oi := _) (v := ?_) rfl (by kernel_rfl) (by kernel_rfl) (by kernel_rfl) (fun _ _ _ h => h) (Or.inl ⟨by rfl, ?_⟩) (by assumption) ?_
  rotate_left
  · ((intro w hSw; (try dsimp only at hSw); go_simp) <;> (try with_reducible rfl))
  show wpAnyH _ _ _ _ _ _ _ (Act.put _ (some 39) _) _
  simp only [Act.put, List.setIfInBounds_toArray, List.set_cons_succ, List.set_cons_zero]
  refine wpAnyH_done (by kernel_rfl) ?_ _
  refine NoPanic.normal ?_
  have K9 := hidT K.out
  obtain ⟨s0, s1, x1, x0⟩ := EE _ K9.out
  clear K
  have K := K9
  clear K9 R9
  go_upto_region 8 with fail
  refine wp_region_noPanic ?_
  refine wp_region_held_drew (S := fun w => w.cell? ⟨W.heap.size, 0, none⟩ = some (.int .i64 (l : Int)) ∧ w.cell? ⟨W.heap.size, 1, none⟩ = some (.slice a es.length cap) ∧ w.cell? ⟨W.heap.size + 1, 0, none⟩ = some (.int .u64 (x.1 : Int)) ∧ w.cell? ⟨W.heap.size + 1, 1, none⟩ = some (.int .u64 (x.2 : Int))) (by kernel_rfl) (EE _ K.out.drew) (fun hHeld => ?_)
  refine wpAnyH_take (i := 0) (oi := _) (v := ?_) rfl (by kernel_rfl) (by kernel_rfl) (by kernel_rfl) (fun _ _ _ h => h) (Or.inl ⟨by rfl, ?_⟩) (by assumption) ?_
  rotate_left
  · ((intro w hSw; (try dsimp only at hSw); go_simp) <;> (try with_reducible rfl))
  show wpAnyH _ _ _ _ _ _ _ (Act.put _ (some 49) _) _
  simp only [Act.put, List.setIfInBounds_toArray, List.set_cons_succ, List.set_cons_zero]
  refine wpAnyH_take (i := 2) (oi := _) (v := ?_) rfl (by kernel_rfl) (by kernel_rfl) (by kernel_rfl) (fun _ _ _ h => h) (Or.inl ⟨by rfl, ?_⟩) (by assumption) ?_
  rotate_left
  · ((intro w hSw; (try dsimp only at hSw); go_simp) <;> (try with_reducible rfl))
  show wpAnyH _ _ _ _ _ _ _ (Act.put _ (some 51) _) _
  simp only [Act.put, List.setIfInBounds_toArray, List.set_cons_succ, List.set_cons_zero]
  refine wpAnyH_take (i := 3) (oi := _) (v := ?_) rfl (by kernel_rfl) (by kernel_rfl) (by kernel_rfl) (fun _ _ _ h => h) (Or.inl ⟨by rfl, ?_⟩) (by assumption) ?_
  rotate_left
  · ((intro w hSw; (try dsimp only at hSw); go_simp) <;> (try with_reducible rfl))
  show wpAnyH _ _ _ _ _ _ _ (Act.put _ (some 52) _) _
  simp only [Act.put, List.setIfInBounds_toArray, List.set_cons_succ, List.set_cons_zero]
  refine wpAnyH_ready (rs := [1]) (by kernel_rfl) (by simp) ?_
  refine AllReadyH.cons (o := _) rfl (fun KK hKK => ?_) AllReadyH.nil
  go_simp
  (go_at_call 13; refine (HLv.out _ (by first | exact K.out | exact K.out.drew)).mono ?_; rintro e w9 ⟨rfl, hb⟩)
  have K'' : Hid (Below wm.heap.size wm w9) := (by first | exact K.out.trans (hb.mono K.out.size) | exact K.out.drew.trans (hb.mono K.out.drew.size))
  clear K hb
  have K := K''
  clear K''
  refine hKK.out _ _ ?_ (fun hHeld => ?_)
  · exact EE _ K.out
  clear hKK KK
  try simp only [Act.put]
  refine wpAnyH_take (i := 4) (oi := _) (v := ?_) rfl (by kernel_rfl) (by kernel_rfl) (by kernel_rfl) (fun _ _ _ h => h) (Or.inl ⟨by rfl, ?_⟩) (by assumption) ?_
  rotate_left
  · ((intro w hSw; (try dsimp only at hSw); go_simp) <;> (try with_reducible rfl))
  show wpAnyH _ _ _ _ _ _ _ (Act.put _ (some 53) _) _
  simp only [Act.put, List.setIfInBounds_toArray, List.set_cons_succ, List.set_cons_zero]
  refine wpAnyH_take (i := 5) (oi := _) (v := ?_) rfl (by kernel_rfl) (by kernel_rfl) (by kernel_rfl) (fun _ _ _ h => h) (Or.inl ⟨by rfl, ?_⟩) (by assumption) ?_
  rotate_left
  · ((intro w hSw; (try dsimp only at hSw); go_simp) <;> (try with_reducible rfl))
  show wpAnyH _ _ _ _ _ _ _ (Act.put _ (some 54) _) _
  simp only [Act.put, List.setIfInBounds_toArray, List.set_cons_succ, List.set_cons_zero]
  refine wpAnyH_take (i := 6) (oi := _) (v := ?_) rfl (by kernel_rfl) (by kernel_rfl) (by kernel_rfl) (fun _ _ _ h => h) (Or.inl ⟨by rfl, ?_⟩) (by assumption) ?_
  rotate_left
  · ((intro w hSw; (try dsimp only at hSw); go_simp) <;> (try with_reducible rfl))
  show wpAnyH _ _ _ _ _ _ _ (Act.put _ (some 55) _) _
  simp only [Act.put, List.setIfInBounds_toArray, List.set_cons_succ, List.set_cons_zero]
  refine wpAnyH_take (i := 8) (oi := _) (v := ?_) rfl (by kernel_rfl) (by kernel_rfl) (by kernel_rfl) (fun _ _ _ h => h) (Or.inl ⟨by rfl, ?_⟩) (by assumption) ?_
  rotate_left
  · ((intro w hSw; (try dsimp only at hSw); go_simp) <;> (try with_reducible rfl))
  show wpAnyH _ _ _ _ _ _ _ (Act.put _ (some 57) _) _
  simp only [Act.put, List.setIfInBounds_toArray, List.set_cons_succ, List.set_cons_zero]
  refine wpAnyH_take (i := 9) (oi := _) (v := ?_) rfl (by kernel_rfl) (by kernel_rfl) (by kernel_rfl) (fun _ _ _ h => h) (Or.inl ⟨by rfl, ?_⟩) (by assumption) ?_
  rotate_left
  · ((intro w hSw; (try dsimp only at hSw); go_simp) <;> (try with_reducible rfl))
  show wpAnyH _ _ _ _ _ _ _ (Act.put _ (some 58) _) _
  simp only [Act.put, List.setIfInBounds_toArray, List.set_cons_succ, List.set_cons_zero]
  refine wpAnyH_take (i := 10) (oi := _) (v := ?_) rfl (by kernel_rfl) (by kernel_rfl) (by kernel_rfl) (fun _ _ _ h => h) (Or.inl ⟨by rfl, ?_⟩) (by assumption) ?_
  rotate_left
  · ((intro w hSw; (try dsimp only at hSw); go_simp) <;> (try with_reducible rfl))
  show wpAnyH _ _ _ _ _ _ _ (Act.put _ (some 59) _) _
  simp only [Act.put, List.setIfInBounds_toArray, List.set_cons_succ, List.set_cons_zero]
  refine wpAnyH_ready (rs := [7]) (by kernel_rfl) (by simp) ?_
  refine AllReadyH.cons (o := _) rfl (fun KK hKK => ?_) AllReadyH.nil
  go_simp
  (go_at_call 14; refine (HDm.out _ (by first | exact K.out | exact K.out.drew)).mono ?_; rintro e w9 ⟨rfl, hb⟩)
  have K'' : Hid (Below wm.heap.size wm w9) := (by first | exact K.out.trans (hb.mono K.out.size) | exact K.out.drew.trans (hb.mono K.out.drew.size))
  clear K hb
  have K := K''
  clear K''
  refine hKK.out _ _ ?_ (fun hHeld => ?_)
  · exact EE _ K.out
  clear hKK KK
  try simp only [Act.put]
  refine wpAnyH_take (i := 11) (oi := _) (v := ?_) rfl (by kernel_rfl) (by kernel_rfl) (by kernel_rfl) (fun _ _ _ h => h) (Or.inl ⟨by rfl, ?_⟩) (by assumption) ?_
  rotate_left
  · ((intro w hSw; (try dsimp only at hSw); go_simp) <;> (try with_reducible rfl))
  show wpAnyH _ _ _ _ _ _ _ (Act.put _ (some 60) _) _
  simp only [Act.put, List.setIfInBounds_toArray, List.set_cons_succ, List.set_cons_zero]
  refine wpAnyH_take (i := 12) (oi := _) (v := ?_) rfl (by kernel_rfl) (by kernel_rfl) (by kernel_rfl) (fun _ _ _ h => h) (Or.inl ⟨by rfl, ?_⟩) (by assumption) ?_
  rotate_left
  · ((intro w hSw; (try dsimp only at hSw); go_simp) <;> (try with_reducible rfl))
  show wpAnyH _ _ _ _ _ _ _ (Act.put _ (some 61) _) _
  simp only [Act.put, List.setIfInBounds_toArray, List.set_cons_succ, List.set_cons_zero]
  refine wpAnyH_done (by kernel_rfl) ?_ _
  refine NoPanic.normal ?_
  have K9 := hidT K.out
  obtain ⟨s0, s1, x1, x0⟩ := EE _ K9.out
  clear K
  have K := K9
  clear K9
  have HPt : Hid (∀ w, Below wm.heap.size wm w → Calls Try.prog 15 #[.pointer (some ⟨p, 0, none⟩), .int .i64 i, .agg #[.int .u64 (x.1 : Int), .int .u64 (x.2 : Int)]] w fun e w' => e = .returned (.slice none 0 0) ∧ Below w.heap.size w w') := fun w hb => spts_no (S0.out.below hb) i x lx HV.out
  have HP1 := hidT (fun w (hb : Below wm.heap.size wm w) => spoint_no (S0.out.below hb) h10 (-1) (.inl (by decide)))
  have HP2 := hidT (fun w (hb : Below wm.heap.size wm w) => spoint_no (S0.out.below hb) h10 ((2 : Int) ^ es.length) (.inr (Int.le_refl _)))
  have hw : IntKind.i64.wrap (2 ^ es.length) = (2 : Int) ^ es.length := by
    have h3 : 2 ^ es.length ≤ 2 ^ 10 := Nat.pow_le_pow_right (by decide) h10
    rw [IntKind.wrap_i64, show (2 : Int) ^ es.length = ((2 ^ es.length : Nat) : Int) by simp]
    generalize 2 ^ es.length = p at *
    omega
  have hs : (es.length : Int) < 64 := by omega
  go_wp2_with (first | (go_at_call 15; refine (HPt.out _ K.out).mono ?_; rintro e w9 ⟨rfl, hb⟩; have K'' : Hid (Below wm.heap.size wm w9) := K.out.trans (hb.mono K.out.size); clear K hb s0 s1 x1 x0; have K := K''; clear K''; obtain ⟨s0, s1, x1, x0⟩ := EE _ K.out) | (go_at_call 16; refine (HX.out.go _).mono ?_; rintro e w9 ⟨rfl, hb⟩; have K'' : Hid (Below wm.heap.size wm w9) := K.out.trans (hb.mono K.out.size); clear K hb s0 s1 x1 x0; have K := K''; clear K''; obtain ⟨s0, s1, x1, x0⟩ := EE _ K.out) | (go_at_call 9; refine (HA.out.go _).mono ?_; rintro e w9 ⟨rfl, hb⟩; have K'' : Hid (Below wm.heap.size wm w9) := K.out.trans (hb.mono K.out.size); clear K hb s0 s1 x1 x0; have K := K''; clear K''; obtain ⟨s0, s1, x1, x0⟩ := EE _ K.out) | (go_at_call_of 17 (#[.pointer (some ⟨p, 0, none⟩), .int .i64 ((2 : Int) ^ es.length)] : Array Value); refine (HP2.out _ K.out).mono ?_; rintro e w9 ⟨rfl, hb⟩; have K'' : Hid (Below wm.heap.size wm w9) := K.out.trans (hb.mono K.out.size); clear K hb s0 s1 x1 x0; have K := K''; clear K''; obtain ⟨s0, s1, x1, x0⟩ := EE _ K.out) | (go_at_call 17; refine (HP1.out _ K.out).mono ?_; rintro e w9 ⟨rfl, hb⟩; have K'' : Hid (Below wm.heap.size wm w9) := K.out.trans (hb.mono K.out.size); clear K hb s0 s1 x1 x0; have K := K''; clear K''; obtain ⟨s0, s1, x1, x0⟩ := EE _ K.out))
  go_ret
  exact ⟨by rfl, B0.out.d.trans (K.out.mono B0.out.d.size)⟩
/-- What the loop goes on with. -/
structure Mr (W w : World) (k : Nat) (es ts : List (Nat × Nat)) (p : Nat) (a' aT aB : Option Addr) (c cT cB : Nat) (x : Nat × Nat) (g : Nat) (P : List (Nat × Nat)) : Prop where
  s : Spa w p k es ts a' aT aB c cT cB
  r : ERow w (some ⟨g, 0, none⟩) P
  x : El w (W.heap.size + 1) x.1 x.2
  d : Below W.heap.size W w
theorem Mr.below {W w w' : World} {k : Nat} {es ts : List (Nat × Nat)} {p : Nat} {a' aT aB : Option Addr} {c cT cB : Nat} {x : Nat × Nat} {g : Nat} {P : List (Nat × Nat)} (h : Mr W w k es ts p a' aT aB c cT cB x g P) (hb : Below w.heap.size w w') : Mr W w' k es ts p a' aT aB c cT cB x g P := ⟨h.s.below hb, h.r.below hb, h.x.below hb, h.d.trans (hb.mono h.d.size)⟩
set_option linter.unusedVariables false in
set_option linter.unusedSimpArgs false in
set_option maxHeartbeats 16000000 in
set_option maxRecDepth 100000 in
theorem lm_good (l : Int) (a : Option Addr) (cap : Nat) (es : List (Nat × Nat)) (hes : ltE es) (i : Nat) (x : Nat × Nat) (lx : lt2 x) (k : Nat) (hk : k < 8) (hl : l = (k : Int)) (ha : a = none → es.length = 0 ∧ cap = 0) (hcap : es.length ≤ cap) (h10 : es.length ≤ 10) (ot : ofT k es) (hf : Free es es.length) (h6 : es.length ≤ 6) (h1 : i ≤ es.length) (ox : ofE k x) (W : World) (hr : ERow W a es) :
    Calls Try.prog 3 #[.agg #[.int .i64 l, .slice a es.length cap], .int .i64 (i : Int), .agg #[.int .u64 (x.1 : Int), .int .u64 (x.2 : Int)]] W fun e w' => e = .returned (.bool true) ∧ Below W.heap.size W w' := by
  have HA := hidT awake5
  have HRf : Hid (∀ w, Below W.heap.size W w → Calls Try.prog 12 #[.slice a es.length cap] w fun e w' => ∃ a' c', es.length ≤ c' ∧ e = .returned (.slice a' es.length c') ∧ ERow w' a' es ∧ Below w.heap.size w w') := fun w hw => (sref_own a cap es (by omega) w (hr.below hw)).mono fun e w' ⟨a', c', e1, o, e3⟩ => ⟨a', c', own_cap o, e1, own_erow o, e3⟩
  have n12 : ¬ (12 : Int) < (es.length : Int) := by omega
  have HNw := hidT (fun w (hb : Below W.heap.size W w) => new_ok k hk a cap es hes h10 ot hf ha w (hr.below hb))
  rw [← hl] at HNw
  have hall : (es.all fun e => ofB l (e.1 : Int) (e.2 : Int)) = true := List.all_eq_true.2 fun e he => by rw [hl]; exact ot e he
  have HCk : Hid (∀ ar cr w, es.length ≤ cr → ERow w ar es → Calls Try.prog 11 #[.int .i64 l, .slice ar es.length cr] w fun e w' => e = .returned (.int .i64 0) ∧ Below w.heap.size w w') := fun ar cr w hc h => rcheck_ok l ar cr es hes (by omega) h10 hall hc hf w h
  have HLk := hidT hl
  have HX := hidT (rof_any l x.1 x.2 lx.1 lx.2)
  have n6 : ¬ (6 : Int) < (es.length : Int) := by omega
  rw [show ofB l (x.1 : Int) (x.2 : Int) = true by rw [hl]; exact ox] at HX
  have i0 : ¬ (i : Int) < 0 := by omega
  have i1 : ¬ (es.length : Int) < (i : Int) := by omega
  obtain ⟨M, hM'⟩ : ∃ M, M = 2 ^ i := ⟨_, rfl⟩
  have hM := hidT hM'
  have Mb : (M : Int) ≤ 64 := by have : 2 ^ i ≤ 2 ^ 6 := Nat.pow_le_pow_right (by decide) (by omega); rw [← hM'] at this; omega
  have HPr : Hid (∀ ar cr w, ERow w ar es → Calls Try.prog 18 #[.slice ar es.length cr, .int .i64 (i : Int), .agg #[.int .u64 (x.1 : Int), .int .u64 (x.2 : Int)]] w fun e w' => ∃ ap cp, e = .returned (.slice ap M cp) ∧ ERow w' ap (pts es x i) ∧ Below w.heap.size w w') := fun ar cr w h => by rw [hM']; exact rpoints05 ar cr i es hes h1 (by omega) x lx w h
  clear hr hes ha ot hf hall hl hM'
  go_enter Try.func3, Try.ntmps3
  go_upto_region 4 with (go_at_call 10; refine (HNw.out _ (Yb.new W l a es.length cap x).d).mono ?_; rintro e w1 ⟨p, ts, a', aT, aB, c, cT, cB, rfl, hS, hU, hb1⟩; have B0 : Hid (Yb W w1 l (.slice a es.length cap) x) := (Yb.new W l a es.length cap x).below hb1; have S0 := hidT hS; have U1 := hidT hU; obtain ⟨s0, s1, x1, x0, _⟩ := B0.out; clear hb1 hS hU)
  obtain ⟨wm, hwm⟩ : ∃ wm, wm = w1 := ⟨_, rfl⟩
  subst hwm
  clear s0 s1 x1 x0
  have EE : ∀ w, Below wm.heap.size wm w → w.cell? ⟨W.heap.size, 0, none⟩ = some (.int .i64 (l : Int)) ∧ w.cell? ⟨W.heap.size, 1, none⟩ = some (.slice a es.length cap) ∧ w.cell? ⟨W.heap.size + 1, 0, none⟩ = some (.int .u64 (x.1 : Int)) ∧ w.cell? ⟨W.heap.size + 1, 1, none⟩ = some (.int .u64 (x.2 : Int)) := fun w hb => ⟨keepc hb B0.out.s0, keepc hb B0.out.s1, keepc hb B0.out.x1, keepc hb B0.out.x0⟩
  have K : Hid (Below wm.heap.size wm wm) := Below.refl _ _
  obtain ⟨s0, s1, x1, x0⟩ := EE _ K.out
  have HLv : Hid (∀ w, Below wm.heap.size wm w → Calls Try.prog 13 #[.pointer (some ⟨p, 0, none⟩)] w fun e w' => e = .returned (.int .i64 l) ∧ Below w.heap.size w w') := fun w hb => by rw [HLk.out]; exact slevel (k : Int) p w (S0.out.below hb).c0
  have HDm := hidT (fun w (hb : Below wm.heap.size wm w) => sdimL (S0.out.below hb))
  refine wp_region_noPanic ?_
  refine wp_region_held_drew (S := fun w => w.cell? ⟨W.heap.size, 0, none⟩ = some (.int .i64 (l : Int)) ∧ w.cell? ⟨W.heap.size, 1, none⟩ = some (.slice a es.length cap) ∧ w.cell? ⟨W.heap.size + 1, 0, none⟩ = some (.int .u64 (x.1 : Int)) ∧ w.cell? ⟨W.heap.size + 1, 1, none⟩ = some (.int .u64 (x.2 : Int))) (by kernel_rfl) (EE _ K.out.drew) (fun hHeld => ?_)
  refine wpAnyH_take (i := 0) (oi := _) (v := ?_) rfl (by kernel_rfl) (by kernel_rfl) (by kernel_rfl) (fun _ _ _ h => h) (Or.inl ⟨by rfl, ?_⟩) (by assumption) ?_
  rotate_left
  · ((intro w hSw; (try dsimp only at hSw); go_simp) <;> (try with_reducible rfl))
  show wpAnyH _ _ _ _ _ _ _ (Act.put _ (some 25) _) _
  simp only [Act.put, List.setIfInBounds_toArray, List.set_cons_succ, List.set_cons_zero]
  refine wpAnyH_take (i := 1) (oi := _) (v := ?_) rfl (by kernel_rfl) (by kernel_rfl) (by kernel_rfl) (fun _ _ _ h => h) (Or.inl ⟨by rfl, ?_⟩) (by assumption) ?_
  rotate_left
  · ((intro w hSw; (try dsimp only at hSw); go_simp) <;> (try with_reducible rfl))
  show wpAnyH _ _ _ _ _ _ _ (Act.put _ (some 26) _) _
  simp only [Act.put, List.setIfInBounds_toArray, List.set_cons_succ, List.set_cons_zero]
  refine wpAnyH_take (i := 2) (oi := _) (v := ?_) rfl (by kernel_rfl) (by kernel_rfl) (by kernel_rfl) (fun _ _ _ h => h) (Or.inl ⟨by rfl, ?_⟩) (by assumption) ?_
  rotate_left
  · ((intro w hSw; (try dsimp only at hSw); go_simp) <;> (try with_reducible rfl))
  show wpAnyH _ _ _ _ _ _ _ (Act.put _ (some 27) _) _
  simp only [Act.put, List.setIfInBounds_toArray, List.set_cons_succ, List.set_cons_zero]
  refine wpAnyH_take (i := 3) (oi := _) (v := ?_) rfl (by kernel_rfl) (by kernel_rfl) (by kernel_rfl) (fun _ _ _ h => h) (Or.inl ⟨by rfl, ?_⟩) (by assumption) ?_
  rotate_left
  · ((intro w hSw; (try dsimp only at hSw); go_simp) <;> (try with_reducible rfl))
  show wpAnyH _ _ _ _ _ _ _ (Act.put _ (some 28) _) _
  simp only [Act.put, List.setIfInBounds_toArray, List.set_cons_succ, List.set_cons_zero]
  refine wpAnyH_take (i := 4) (oi := _) (v := ?_) rfl (by kernel_rfl) (by kernel_rfl) (by kernel_rfl) (fun _ _ _ h => h) (Or.inl ⟨by rfl, ?_⟩) (by assumption) ?_
  rotate_left
  · ((intro w hSw; (try dsimp only at hSw); go_simp) <;> (try with_reducible rfl))
  show wpAnyH _ _ _ _ _ _ _ (Act.put _ (some 29) _) _
  simp only [Act.put, List.setIfInBounds_toArray, List.set_cons_succ, List.set_cons_zero]
  refine wpAnyH_ready (rs := [5]) (by kernel_rfl) (by simp) ?_
  refine AllReadyH.cons (o := _) rfl (fun KK hKK => ?_) AllReadyH.nil
  go_simp
  (go_at_call 12; refine (HRf.out _ (by first | exact B0.out.d.trans (K.out.mono B0.out.d.size) | exact B0.out.d.trans (K.out.drew.mono B0.out.d.size))).mono ?_; rintro e w9 ⟨ar, cr, hcr, rfl, hrr, hb⟩)
  have R9 := hidT (And.intro hcr hrr)
  clear hrr hcr
  have K'' : Hid (Below wm.heap.size wm w9) := (by first | exact K.out.trans (hb.mono K.out.size) | exact K.out.drew.trans (hb.mono K.out.drew.size))
  clear K hb
  have K := K''
  clear K''
  refine hKK.out _ _ ?_ (fun hHeld => ?_)
  · exact EE _ K.out
  clear hKK KK
  try simp only [Act.put]
  refine wpAnyH_ready (rs := [6]) (by kernel_rfl) (by simp) ?_
  refine AllReadyH.cons (o := _) rfl (fun KK hKK => ?_) AllReadyH.nil
  go_simp
  (go_at_call 11; refine (HCk.out _ _ _ R9.out.1 (R9.out.2.below (by first | exact Below.refl _ _ | exact (Below.refl _ _).drew))).mono ?_; rintro e w9 ⟨rfl, hb⟩)
  have K'' : Hid (Below wm.heap.size wm w9) := (by first | exact K.out.trans (hb.mono K.out.size) | exact K.out.drew.trans (hb.mono K.out.drew.size))
  clear K hb
  have K := K''
  clear K''
  refine hKK.out _ _ ?_ (fun hHeld => ?_)
  · exact EE _ K.out
  clear hKK KK
  try simp only [Act.put]
  refine wpAnyH_take (i := 7) (oi := _) (v := ?_) rfl (by kernel_rfl) (by kernel_rfl) (by kernel_rfl) (fun _ _ _ h => h) (Or.inl ⟨by rfl, ?_⟩) (by assumption) ?_
  rotate_left
  · ((intro w hSw; (try dsimp only at hSw); go_simp) <;> (try with_reducible rfl))
  show wpAnyH _ _ _ _ _ _ _ (Act.put _ (some 32) _) _
  simp only [Act.put, List.setIfInBounds_toArray, List.set_cons_succ, List.set_cons_zero]
  refine wpAnyH_take (i := 8) (oi := _) (v := ?_) rfl (by kernel_rfl) (by kernel_rfl) (by kernel_rfl) (fun _ _ _ h => h) (Or.inl ⟨by rfl, ?_⟩) (by assumption) ?_
  rotate_left
  · ((intro w hSw; (try dsimp only at hSw); go_simp) <;> (try with_reducible rfl))
  show wpAnyH _ _ _ _ _ _ _ (Act.put _ (some 33) _) _
  simp only [Act.put, List.setIfInBounds_toArray, List.set_cons_succ, List.set_cons_zero]
  refine wpAnyH_take (i := 9) (oi := _) (v := ?_) rfl (by kernel_rfl) (by kernel_rfl) (by kernel_rfl) (fun _ _ _ h => h) (Or.inl ⟨by rfl, ?_⟩) (by assumption) ?_
  rotate_left
  · ((intro w hSw; (try dsimp only at hSw); go_simp) <;> (try with_reducible rfl))
  show wpAnyH _ _ _ _ _ _ _ (Act.put _ (some 34) _) _
  simp only [Act.put, List.setIfInBounds_toArray, List.set_cons_succ, List.set_cons_zero]
  refine wpAnyH_take (i := 10) (oi := _) (v := ?_) rfl (by kernel_rfl) (by kernel_rfl) (by kernel_rfl) (fun _ _ _ h => h) (Or.inl ⟨by rfl, ?_⟩) (by assumption) ?_
  rotate_left
  · ((intro w hSw; (try dsimp only at hSw); go_simp) <;> (try with_reducible rfl))
  show wpAnyH _ _ _ _ _ _ _ (Act.put _ (some 35) _) _
  simp only [Act.put, List.setIfInBounds_toArray, List.set_cons_succ, List.set_cons_zero]
  refine wpAnyH_take (i := 11) (oi := _) (v := ?_) rfl (by kernel_rfl) (by kernel_rfl) (by kernel_rfl) (fun _ _ _ h => h) (Or.inl ⟨by rfl, ?_⟩) (by assumption) ?_
  rotate_left
  · ((intro w hSw; (try dsimp only at hSw); go_simp) <;> (try with_reducible rfl))
  show wpAnyH _ _ _ _ _ _ _ (Act.put _ (some 36) _) _
  simp only [Act.put, List.setIfInBounds_toArray, List.set_cons_succ, List.set_cons_zero]
  refine wpAnyH_take (i := 12) (oi := _) (v := ?_) rfl (by kernel_rfl) (by kernel_rfl) (by kernel_rfl) (fun _ _ _ h => h) (Or.inl ⟨by rfl, ?_⟩) (by assumption) ?_
  rotate_left
  · ((intro w hSw; (try dsimp only at hSw); go_simp) <;> (try with_reducible rfl))
  show wpAnyH _ _ _ _ _ _ _ (Act.put _ (some 37) _) _
  simp only [Act.put, List.setIfInBounds_toArray, List.set_cons_succ, List.set_cons_zero]
  refine wpAnyH_take (i := 13) (oi := _) (v := ?_) rfl (by kernel_rfl) (by kernel_rfl) (by kernel_rfl) (fun _ _ _ h => h) (Or.inl ⟨by rfl, ?_⟩) (by assumption) ?_
  rotate_left
  · ((intro w hSw; (try dsimp only at hSw); go_simp) <;> (try with_reducible rfl))
  show wpAnyH _ _ _ _ _ _ _ (Act.put _ (some 38) _) _
  simp only [Act.put, List.setIfInBounds_toArray, List.set_cons_succ, List.set_cons_zero]
  refine wpAnyH_take (i := 14) (oi := _) (v := ?_) rfl (by kernel_rfl) (by kernel_rfl) (by kernel_rfl) (fun _ _ _ h => h) (Or.inl ⟨by rfl, ?_⟩) (by assumption) ?_
  rotate_left
  · ((intro w hSw; (try dsimp only at hSw); go_simp) <;> (try with_reducible rfl))
  show wpAnyH _ _ _ _ _ _ _ (Act.put _ (some 39) _) _
  simp only [Act.put, List.setIfInBounds_toArray, List.set_cons_succ, List.set_cons_zero]
  refine wpAnyH_done (by kernel_rfl) ?_ _
  refine NoPanic.normal ?_
  have K9 := hidT K.out
  obtain ⟨s0, s1, x1, x0⟩ := EE _ K9.out
  clear K
  have K := K9
  clear K9 R9
  go_upto_region 8 with fail
  refine wp_region_noPanic ?_
  refine wp_region_held_drew (S := fun w => w.cell? ⟨W.heap.size, 0, none⟩ = some (.int .i64 (l : Int)) ∧ w.cell? ⟨W.heap.size, 1, none⟩ = some (.slice a es.length cap) ∧ w.cell? ⟨W.heap.size + 1, 0, none⟩ = some (.int .u64 (x.1 : Int)) ∧ w.cell? ⟨W.heap.size + 1, 1, none⟩ = some (.int .u64 (x.2 : Int))) (by kernel_rfl) (EE _ K.out.drew) (fun hHeld => ?_)
  refine wpAnyH_take (i := 0) (oi := _) (v := ?_) rfl (by kernel_rfl) (by kernel_rfl) (by kernel_rfl) (fun _ _ _ h => h) (Or.inl ⟨by rfl, ?_⟩) (by assumption) ?_
  rotate_left
  · ((intro w hSw; (try dsimp only at hSw); go_simp) <;> (try with_reducible rfl))
  show wpAnyH _ _ _ _ _ _ _ (Act.put _ (some 49) _) _
  simp only [Act.put, List.setIfInBounds_toArray, List.set_cons_succ, List.set_cons_zero]
  refine wpAnyH_take (i := 2) (oi := _) (v := ?_) rfl (by kernel_rfl) (by kernel_rfl) (by kernel_rfl) (fun _ _ _ h => h) (Or.inl ⟨by rfl, ?_⟩) (by assumption) ?_
  rotate_left
  · ((intro w hSw; (try dsimp only at hSw); go_simp) <;> (try with_reducible rfl))
  show wpAnyH _ _ _ _ _ _ _ (Act.put _ (some 51) _) _
  simp only [Act.put, List.setIfInBounds_toArray, List.set_cons_succ, List.set_cons_zero]
  refine wpAnyH_take (i := 3) (oi := _) (v := ?_) rfl (by kernel_rfl) (by kernel_rfl) (by kernel_rfl) (fun _ _ _ h => h) (Or.inl ⟨by rfl, ?_⟩) (by assumption) ?_
  rotate_left
  · ((intro w hSw; (try dsimp only at hSw); go_simp) <;> (try with_reducible rfl))
  show wpAnyH _ _ _ _ _ _ _ (Act.put _ (some 52) _) _
  simp only [Act.put, List.setIfInBounds_toArray, List.set_cons_succ, List.set_cons_zero]
  refine wpAnyH_ready (rs := [1]) (by kernel_rfl) (by simp) ?_
  refine AllReadyH.cons (o := _) rfl (fun KK hKK => ?_) AllReadyH.nil
  go_simp
  (go_at_call 13; refine (HLv.out _ (by first | exact K.out | exact K.out.drew)).mono ?_; rintro e w9 ⟨rfl, hb⟩)
  have K'' : Hid (Below wm.heap.size wm w9) := (by first | exact K.out.trans (hb.mono K.out.size) | exact K.out.drew.trans (hb.mono K.out.drew.size))
  clear K hb
  have K := K''
  clear K''
  refine hKK.out _ _ ?_ (fun hHeld => ?_)
  · exact EE _ K.out
  clear hKK KK
  try simp only [Act.put]
  refine wpAnyH_take (i := 4) (oi := _) (v := ?_) rfl (by kernel_rfl) (by kernel_rfl) (by kernel_rfl) (fun _ _ _ h => h) (Or.inl ⟨by rfl, ?_⟩) (by assumption) ?_
  rotate_left
  · ((intro w hSw; (try dsimp only at hSw); go_simp) <;> (try with_reducible rfl))
  show wpAnyH _ _ _ _ _ _ _ (Act.put _ (some 53) _) _
  simp only [Act.put, List.setIfInBounds_toArray, List.set_cons_succ, List.set_cons_zero]
  refine wpAnyH_take (i := 5) (oi := _) (v := ?_) rfl (by kernel_rfl) (by kernel_rfl) (by kernel_rfl) (fun _ _ _ h => h) (Or.inl ⟨by rfl, ?_⟩) (by assumption) ?_
  rotate_left
  · ((intro w hSw; (try dsimp only at hSw); go_simp) <;> (try with_reducible rfl))
  show wpAnyH _ _ _ _ _ _ _ (Act.put _ (some 54) _) _
  simp only [Act.put, List.setIfInBounds_toArray, List.set_cons_succ, List.set_cons_zero]
  refine wpAnyH_take (i := 6) (oi := _) (v := ?_) rfl (by kernel_rfl) (by kernel_rfl) (by kernel_rfl) (fun _ _ _ h => h) (Or.inl ⟨by rfl, ?_⟩) (by assumption) ?_
  rotate_left
  · ((intro w hSw; (try dsimp only at hSw); go_simp) <;> (try with_reducible rfl))
  show wpAnyH _ _ _ _ _ _ _ (Act.put _ (some 55) _) _
  simp only [Act.put, List.setIfInBounds_toArray, List.set_cons_succ, List.set_cons_zero]
  refine wpAnyH_take (i := 8) (oi := _) (v := ?_) rfl (by kernel_rfl) (by kernel_rfl) (by kernel_rfl) (fun _ _ _ h => h) (Or.inl ⟨by rfl, ?_⟩) (by assumption) ?_
  rotate_left
  · ((intro w hSw; (try dsimp only at hSw); go_simp) <;> (try with_reducible rfl))
  show wpAnyH _ _ _ _ _ _ _ (Act.put _ (some 57) _) _
  simp only [Act.put, List.setIfInBounds_toArray, List.set_cons_succ, List.set_cons_zero]
  refine wpAnyH_take (i := 9) (oi := _) (v := ?_) rfl (by kernel_rfl) (by kernel_rfl) (by kernel_rfl) (fun _ _ _ h => h) (Or.inl ⟨by rfl, ?_⟩) (by assumption) ?_
  rotate_left
  · ((intro w hSw; (try dsimp only at hSw); go_simp) <;> (try with_reducible rfl))
  show wpAnyH _ _ _ _ _ _ _ (Act.put _ (some 58) _) _
  simp only [Act.put, List.setIfInBounds_toArray, List.set_cons_succ, List.set_cons_zero]
  refine wpAnyH_take (i := 10) (oi := _) (v := ?_) rfl (by kernel_rfl) (by kernel_rfl) (by kernel_rfl) (fun _ _ _ h => h) (Or.inl ⟨by rfl, ?_⟩) (by assumption) ?_
  rotate_left
  · ((intro w hSw; (try dsimp only at hSw); go_simp) <;> (try with_reducible rfl))
  show wpAnyH _ _ _ _ _ _ _ (Act.put _ (some 59) _) _
  simp only [Act.put, List.setIfInBounds_toArray, List.set_cons_succ, List.set_cons_zero]
  refine wpAnyH_ready (rs := [7]) (by kernel_rfl) (by simp) ?_
  refine AllReadyH.cons (o := _) rfl (fun KK hKK => ?_) AllReadyH.nil
  go_simp
  (go_at_call 14; refine (HDm.out _ (by first | exact K.out | exact K.out.drew)).mono ?_; rintro e w9 ⟨rfl, hb⟩)
  have K'' : Hid (Below wm.heap.size wm w9) := (by first | exact K.out.trans (hb.mono K.out.size) | exact K.out.drew.trans (hb.mono K.out.drew.size))
  clear K hb
  have K := K''
  clear K''
  refine hKK.out _ _ ?_ (fun hHeld => ?_)
  · exact EE _ K.out
  clear hKK KK
  try simp only [Act.put]
  refine wpAnyH_take (i := 11) (oi := _) (v := ?_) rfl (by kernel_rfl) (by kernel_rfl) (by kernel_rfl) (fun _ _ _ h => h) (Or.inl ⟨by rfl, ?_⟩) (by assumption) ?_
  rotate_left
  · ((intro w hSw; (try dsimp only at hSw); go_simp) <;> (try with_reducible rfl))
  show wpAnyH _ _ _ _ _ _ _ (Act.put _ (some 60) _) _
  simp only [Act.put, List.setIfInBounds_toArray, List.set_cons_succ, List.set_cons_zero]
  refine wpAnyH_take (i := 12) (oi := _) (v := ?_) rfl (by kernel_rfl) (by kernel_rfl) (by kernel_rfl) (fun _ _ _ h => h) (Or.inl ⟨by rfl, ?_⟩) (by assumption) ?_
  rotate_left
  · ((intro w hSw; (try dsimp only at hSw); go_simp) <;> (try with_reducible rfl))
  show wpAnyH _ _ _ _ _ _ _ (Act.put _ (some 61) _) _
  simp only [Act.put, List.setIfInBounds_toArray, List.set_cons_succ, List.set_cons_zero]
  refine wpAnyH_done (by kernel_rfl) ?_ _
  refine NoPanic.normal ?_
  have K9 := hidT K.out
  obtain ⟨s0, s1, x1, x0⟩ := EE _ K9.out
  clear K
  have K := K9
  clear K9
  have HPt := hidT (fun w (hb : Below wm.heap.size wm w) => spts_ok (S0.out.below hb) U1.out i h1 x lx ox)
  rw [← hM.out] at HPt
  go_upto_region 11 with (go_at_call 15; refine (HPt.out _ K.out).mono ?_; rintro e w9 ⟨g, rfl, hg9, hrow, hb⟩; have K'' : Hid (Below wm.heap.size wm w9) := K.out.trans (hb.mono K.out.size); have G6 := hidT hrow; clear hrow hg9; clear K hb s0 s1 x1 x0; have K := K''; clear K''; obtain ⟨s0, s1, x1, x0⟩ := EE _ K.out)
  go_upto_region 13 with (go_at_call 16; refine (HX.out.go _).mono ?_; rintro e w9 ⟨rfl, hb⟩; have K'' : Hid (Below wm.heap.size wm w9) := K.out.trans (hb.mono K.out.size); have G7 := hidT (G6.out.below hb); clear G6; clear K hb s0 s1 x1 x0; have K := K''; clear K''; obtain ⟨s0, s1, x1, x0⟩ := EE _ K.out)
  refine wp_region_noPanic ?_
  refine wp_region_held_drew (S := fun w => w.cell? ⟨W.heap.size, 0, none⟩ = some (.int .i64 (l : Int)) ∧ w.cell? ⟨W.heap.size, 1, none⟩ = some (.slice a es.length cap) ∧ w.cell? ⟨W.heap.size + 1, 0, none⟩ = some (.int .u64 (x.1 : Int)) ∧ w.cell? ⟨W.heap.size + 1, 1, none⟩ = some (.int .u64 (x.2 : Int))) (by kernel_rfl) (EE _ K.out.drew) (fun hHeld => ?_)
  refine wpAnyH_take (i := 0) (oi := _) (v := ?_) rfl (by kernel_rfl) (by kernel_rfl) (by kernel_rfl) (fun _ _ _ h => h) (Or.inl ⟨by rfl, ?_⟩) (by assumption) ?_
  rotate_left
  · ((intro w hSw; (try dsimp only at hSw); go_simp) <;> (try with_reducible rfl))
  show wpAnyH _ _ _ _ _ _ _ (Act.put _ (some 105) _) _
  simp only [Act.put, List.setIfInBounds_toArray, List.set_cons_succ, List.set_cons_zero]
  refine wpAnyH_take (i := 1) (oi := _) (v := ?_) rfl (by kernel_rfl) (by kernel_rfl) (by kernel_rfl) (fun _ _ _ h => h) (Or.inl ⟨by rfl, ?_⟩) (by assumption) ?_
  rotate_left
  · ((intro w hSw; (try dsimp only at hSw); go_simp) <;> (try with_reducible rfl))
  show wpAnyH _ _ _ _ _ _ _ (Act.put _ (some 106) _) _
  simp only [Act.put, List.setIfInBounds_toArray, List.set_cons_succ, List.set_cons_zero]
  refine wpAnyH_take (i := 3) (oi := _) (v := ?_) rfl (by kernel_rfl) (by kernel_rfl) (by kernel_rfl) (fun _ _ _ h => h) (Or.inl ⟨by rfl, ?_⟩) (by assumption) ?_
  rotate_left
  · ((intro w hSw; (try dsimp only at hSw); go_simp) <;> (try with_reducible rfl))
  show wpAnyH _ _ _ _ _ _ _ (Act.put _ (some 108) _) _
  simp only [Act.put, List.setIfInBounds_toArray, List.set_cons_succ, List.set_cons_zero]
  refine wpAnyH_take (i := 4) (oi := _) (v := ?_) rfl (by kernel_rfl) (by kernel_rfl) (by kernel_rfl) (fun _ _ _ h => h) (Or.inl ⟨by rfl, ?_⟩) (by assumption) ?_
  rotate_left
  · ((intro w hSw; (try dsimp only at hSw); go_simp) <;> (try with_reducible rfl))
  show wpAnyH _ _ _ _ _ _ _ (Act.put _ (some 109) _) _
  simp only [Act.put, List.setIfInBounds_toArray, List.set_cons_succ, List.set_cons_zero]
  refine wpAnyH_ready (rs := [2]) (by kernel_rfl) (by simp) ?_
  refine AllReadyH.cons (o := _) rfl (fun KK hKK => ?_) AllReadyH.nil
  go_simp
  (go_at_call 12; refine (HRf.out _ (by first | exact B0.out.d.trans (K.out.mono B0.out.d.size) | exact B0.out.d.trans (K.out.drew.mono B0.out.d.size))).mono ?_; rintro e w9 ⟨ar, cr, hcr, rfl, hrr, hb⟩)
  have R9 := hidT (And.intro hcr hrr)
  have G9 := hidT (G7.out.below (by first | exact hb | exact (Below.refl _ _).drew.trans hb))
  clear hrr hcr G7
  have K'' : Hid (Below wm.heap.size wm w9) := (by first | exact K.out.trans (hb.mono K.out.size) | exact K.out.drew.trans (hb.mono K.out.drew.size))
  clear K hb
  have K := K''
  clear K''
  refine hKK.out _ _ ?_ (fun hHeld => ?_)
  · exact EE _ K.out
  clear hKK KK
  try simp only [Act.put]
  refine wpAnyH_ready (rs := [5]) (by kernel_rfl) (by simp) ?_
  refine AllReadyH.cons (o := _) rfl (fun KK hKK => ?_) AllReadyH.nil
  go_simp
  (go_at_call 18; refine (HPr.out _ _ _ (R9.out.2.below (by first | exact Below.refl _ _ | exact (Below.refl _ _).drew))).mono ?_; rintro e w9 ⟨ap, cp, rfl, hrp, hb⟩)
  have Q9 := hidT hrp
  have G8 := hidT (G9.out.below (by first | exact hb | exact (Below.refl _ _).drew.trans hb))
  clear hrp G9 R9
  have K'' : Hid (Below wm.heap.size wm w9) := (by first | exact K.out.trans (hb.mono K.out.size) | exact K.out.drew.trans (hb.mono K.out.drew.size))
  clear K hb
  have K := K''
  clear K''
  refine hKK.out _ _ ?_ (fun hHeld => ?_)
  · exact EE _ K.out
  clear hKK KK
  try simp only [Act.put]
  refine wpAnyH_take (i := 6) (oi := _) (v := ?_) rfl (by kernel_rfl) (by kernel_rfl) (by kernel_rfl) (fun _ _ _ h => h) (Or.inl ⟨by rfl, ?_⟩) (by assumption) ?_
  rotate_left
  · ((intro w hSw; (try dsimp only at hSw); go_simp) <;> (try with_reducible rfl))
  show wpAnyH _ _ _ _ _ _ _ (Act.put _ (some 10) _) _
  simp only [Act.put, List.setIfInBounds_toArray, List.set_cons_succ, List.set_cons_zero]
  refine wpAnyH_done (by kernel_rfl) ?_ _
  refine NoPanic.normal ?_
  have K9 := hidT K.out
  obtain ⟨s0, s1, x1, x0⟩ := EE _ K9.out
  clear K
  have K := K9
  clear K9
  have HSm := hidT (same_rows (some ⟨g, 0, none⟩) ap M cp (pts es x i) (by rw [pts_len, ← hM.out]; omega) _ G8.out Q9.out)
  rw [pts_len, ← hM.out] at HSm
  go_wp2_with (go_at_call 19; refine HSm.out.mono ?_; rintro e w8 ⟨rfl, hb⟩; have K8 : Hid (Mr W w8 k es ts p a' aT aB c cT cB x g (pts es x i)) := ⟨S0.out.below (K.out.trans (hb.mono K.out.size)), G8.out.below hb, ⟨keepc (K.out.trans (hb.mono K.out.size)) B0.out.x1, keepc (K.out.trans (hb.mono K.out.size)) B0.out.x0⟩, B0.out.d.trans ((K.out.trans (hb.mono K.out.size)).mono B0.out.d.size)⟩; clear s0 s1 x1 x0 hb K)
  clear EE G8 Q9 HSm
  go_loopw [11] (fun u wr => ∃ j : Nat, j ≤ M ∧ u = .int .i64 j ∧ Hid (Mr W wr k es ts p a' aT aB c cT cB x g (pts es x i))) (fun u _ => M - (intOf u).toNat)
  case atStart => exact ⟨0, Nat.zero_le _, rfl, K8⟩
  case round =>
    clear K8
    obtain ⟨j, hj, rfl, K0⟩ := hrel
    by_cases hjl : j < M
    · have j1 : (j : Int) < (M : Int) := by omega
      have j0 : (0 : Int) ≤ (j : Int) := by omega
      have hjp : j < (pts es x i).length := by rw [pts_len, ← hM.out]; exact hjl
      have hji : j < 2 ^ i := hM.out ▸ hjl
      have hjn : j < 2 ^ es.length := Nat.lt_of_lt_of_le hji (Nat.pow_le_pow_right (by decide) h1)
      have evz : xa (el (pts es x i) j) x = ptv es j es.length := by
        rw [pts_at es x i j hji, xa_assoc, xa_self, xa_zero]
        obtain ⟨d, hd⟩ : ∃ d, es.length = i + d := ⟨es.length - i, by omega⟩
        rw [hd, ptv_high es j i hji d]
      have HPj := hidT (fun w (hb : Below wr.heap.size wr w) => spoint_ok (K0.out.s.below hb) U1.out j hjn)
      have lz := ltE_el (lt_pts U1.out.lt lx i) j
      have HAd : Hid (Ret 20 #[.agg #[.int .u64 ((el (pts es x i) j).1 : Int), .int .u64 ((el (pts es x i) j).2 : Int)], .agg #[.int .u64 (x.1 : Int), .int .u64 (x.2 : Int)]] (.agg #[.int .u64 ((ptv es j es.length).1 : Int), .int .u64 ((ptv es j es.length).2 : Int)])) := by
        rw [← evz]; exact add_any _ _ _ _ lz.1 lz.2 lx.1 lx.2
      have EL : ∀ w, Below wr.heap.size wr w → w.cell? ⟨W.heap.size + 1, 0, none⟩ = some (.int .u64 (x.1 : Int)) ∧ w.cell? ⟨W.heap.size + 1, 1, none⟩ = some (.int .u64 (x.2 : Int)) ∧ w.cell? ⟨g, j * 2, none⟩ = some (.int .u64 ((el (pts es x i) j).1 : Int)) ∧ w.cell? ⟨g, j * 2 + 1, none⟩ = some (.int .u64 ((el (pts es x i) j).2 : Int)) := fun w hb => by
        obtain ⟨g', o', e, _, z1, z0⟩ := (K0.out.r.below hb).cells j hjp
        injection e with e; injection e with e1 e2; subst e1 e2
        rw [Nat.zero_add] at z1 z0
        exact ⟨keepc hb K0.out.x.hi, keepc hb K0.out.x.lo, z1, z0⟩
      clear hjp hji hjn evz lz
      generalize el (pts es x i) j = z at *
      generalize ptv es j es.length = v at *
      obtain ⟨x1, x0, z1, z0⟩ := EL _ (Below.refl _ _)
      have K : Hid (Below wr.heap.size wr wr) := Below.refl _ _
      go_upto_region 19 with fail
      refine wp_region_noPanic ?_
      refine wp_region_held_drew (S := fun w => w.cell? ⟨W.heap.size + 1, 0, none⟩ = some (.int .u64 (x.1 : Int)) ∧ w.cell? ⟨W.heap.size + 1, 1, none⟩ = some (.int .u64 (x.2 : Int)) ∧ w.cell? ⟨g, j * 2, none⟩ = some (.int .u64 (z.1 : Int)) ∧ w.cell? ⟨g, j * 2 + 1, none⟩ = some (.int .u64 (z.2 : Int))) (by kernel_rfl) (EL _ (Below.refl _ _).drew) (fun hHeld => ?_)
      refine wpAnyH_take (i := 0) (oi := _) (v := ?_) rfl (by kernel_rfl) (by kernel_rfl) (by kernel_rfl) (fun _ _ _ h => h) (Or.inl ⟨by rfl, ?_⟩) (by assumption) ?_
      rotate_left
      · ((intro w hSw; (try dsimp only at hSw); go_simp) <;> (try with_reducible rfl))
      show wpAnyH _ _ _ _ _ _ _ (Act.put _ (some 121) _) _
      simp only [Act.put, List.setIfInBounds_toArray, List.set_cons_succ, List.set_cons_zero]
      refine wpAnyH_take (i := 1) (oi := _) (v := ?_) rfl (by kernel_rfl) (by kernel_rfl) (by kernel_rfl) (fun _ _ _ h => h) (Or.inl ⟨by rfl, ?_⟩) (by assumption) ?_
      rotate_left
      · ((intro w hSw; (try dsimp only at hSw); go_simp) <;> (try with_reducible rfl))
      show wpAnyH _ _ _ _ _ _ _ (Act.put _ (some 122) _) _
      simp only [Act.put, List.setIfInBounds_toArray, List.set_cons_succ, List.set_cons_zero]
      refine wpAnyH_take (i := 3) (oi := _) (v := ?_) rfl (by kernel_rfl) (by kernel_rfl) (by kernel_rfl) (fun _ _ _ h => h) (Or.inl ⟨by rfl, ?_⟩) (by assumption) ?_
      rotate_left
      · ((intro w hSw; (try dsimp only at hSw); go_simp) <;> (try with_reducible rfl))
      show wpAnyH _ _ _ _ _ _ _ (Act.put _ (some 124) _) _
      simp only [Act.put, List.setIfInBounds_toArray, List.set_cons_succ, List.set_cons_zero]
      refine wpAnyH_take (i := 4) (oi := _) (v := ?_) rfl (by kernel_rfl) (by kernel_rfl) (by kernel_rfl) (fun _ _ _ h => h) (Or.inl ⟨by rfl, ?_⟩) (by assumption) ?_
      rotate_left
      · ((intro w hSw; (try dsimp only at hSw); go_simp) <;> (try with_reducible rfl))
      show wpAnyH _ _ _ _ _ _ _ (Act.put _ (some 125) _) _
      simp only [Act.put, List.setIfInBounds_toArray, List.set_cons_succ, List.set_cons_zero]
      refine wpAnyH_take (i := 5) (oi := _) (v := ?_) rfl (by kernel_rfl) (by kernel_rfl) (by kernel_rfl) (fun _ _ _ h => h) (Or.inl ⟨by rfl, ?_⟩) (by assumption) ?_
      rotate_left
      · ((intro w hSw; (try dsimp only at hSw); go_simp) <;> (try with_reducible rfl))
      show wpAnyH _ _ _ _ _ _ _ (Act.put _ (some 126) _) _
      simp only [Act.put, List.setIfInBounds_toArray, List.set_cons_succ, List.set_cons_zero]
      refine wpAnyH_take (i := 6) (oi := _) (v := ?_) rfl (by kernel_rfl) (by kernel_rfl) (by kernel_rfl) (fun _ _ _ h => h) (Or.inl ⟨by rfl, ?_⟩) (by assumption) ?_
      rotate_left
      · ((intro w hSw; (try dsimp only at hSw); go_simp) <;> (try with_reducible rfl))
      show wpAnyH _ _ _ _ _ _ _ (Act.put _ (some 127) _) _
      simp only [Act.put, List.setIfInBounds_toArray, List.set_cons_succ, List.set_cons_zero]
      refine wpAnyH_take (i := 7) (oi := _) (v := ?_) rfl (by kernel_rfl) (by kernel_rfl) (by kernel_rfl) (fun _ _ _ h => h) (Or.inl ⟨by rfl, ?_⟩) (by assumption) ?_
      rotate_left
      · ((intro w hSw; (try dsimp only at hSw); go_simp) <;> (try with_reducible rfl))
      show wpAnyH _ _ _ _ _ _ _ (Act.put _ (some 128) _) _
      simp only [Act.put, List.setIfInBounds_toArray, List.set_cons_succ, List.set_cons_zero]
      refine wpAnyH_ready (rs := [2]) (by kernel_rfl) (by simp) ?_
      refine AllReadyH.cons (o := _) rfl (fun KK hKK => ?_) AllReadyH.nil
      go_simp
      (go_at_call 17; refine (HPj.out _ (by first | exact K.out | exact K.out.drew)).mono ?_; rintro e w9 ⟨rfl, hb⟩)
      have K'' : Hid (Below wr.heap.size wr w9) := (by first | exact K.out.trans (hb.mono K.out.size) | exact K.out.drew.trans (hb.mono K.out.drew.size))
      clear K hb
      have K := K''
      clear K''
      refine hKK.out _ _ ?_ (fun hHeld => ?_)
      · exact EL _ K.out
      clear hKK KK
      try simp only [Act.put]
      refine wpAnyH_ready (rs := [8]) (by kernel_rfl) (by simp) ?_
      refine AllReadyH.cons (o := _) rfl (fun KK hKK => ?_) AllReadyH.nil
      go_simp
      (go_at_call 20; refine (HAd.out.go _).mono ?_; rintro e w9 ⟨rfl, hb⟩)
      have K'' : Hid (Below wr.heap.size wr w9) := (by first | exact K.out.trans (hb.mono K.out.size) | exact K.out.drew.trans (hb.mono K.out.drew.size))
      clear K hb
      have K := K''
      clear K''
      refine hKK.out _ _ ?_ (fun hHeld => ?_)
      · exact EL _ K.out
      clear hKK KK
      try simp only [Act.put]
      refine wpAnyH_take (i := 9) (oi := _) (v := ?_) rfl (by kernel_rfl) (by kernel_rfl) (by kernel_rfl) (fun _ _ _ h => h) (Or.inl ⟨by rfl, ?_⟩) (by assumption) ?_
      rotate_left
      · ((intro w hSw; (try dsimp only at hSw); go_simp) <;> (try with_reducible rfl))
      show wpAnyH _ _ _ _ _ _ _ (Act.put _ (some 130) _) _
      simp only [Act.put, List.setIfInBounds_toArray, List.set_cons_succ, List.set_cons_zero]
      refine wpAnyH_done (by kernel_rfl) ?_ _
      refine NoPanic.normal ?_
      have KN := hidT (K0.out.below K.out)
      clear K EL HPj HAd K0
      go_wp2
      exact ⟨⟨j + 1, hjl, by simp, KN⟩, by simp [intOf]; omega⟩
    · obtain rfl : M = j := by omega
      have K8 := hidT K0.out.d
      clear K0
      go_wp2_with (go_at_call 9; refine (HA.out.go _).mono ?_; rintro e w8 ⟨rfl, hb8⟩; have K9 := hidT (K8.out.trans (hb8.mono K8.out.size)))
      go_ret
      exact ⟨rfl, K9.out⟩
theorem lm_any (l : Int) (a : Option Addr) (cap : Nat) (es : List (Nat × Nat)) (hes : ltE es) (i : Int) (x : Nat × Nat) (lx : lt2 x) (ha : a = none → es.length = 0 ∧ cap = 0) (hcap : es.length ≤ cap) (W : World) (hr : ERow W a es) :
    Calls Try.prog 3 #[.agg #[.int .i64 l, .slice a es.length cap], .int .i64 i, .agg #[.int .u64 (x.1 : Int), .int .u64 (x.2 : Int)]] W fun e w' => e = .returned (.bool true) ∧ Below W.heap.size W w' := by
  by_cases h12 : 12 < es.length
  · exact lm_far l a cap es hes i x lx h12 W hr
  by_cases hl : 0 ≤ l ∧ l ≤ 7
  · by_cases h10 : 10 < es.length
    · exact lm_err l a cap es hes i x lx (by omega) 2 (by decide) (fun w h => (new_long l a es.length cap hl h10).go w) (fun ar cr w _ h => (rcheck_long l ar es.length cr hl h10).go w) W hr
    · cases ho : (es.all fun e => ofB l (e.1 : Int) (e.2 : Int))
      · exact lm_err l a cap es hes i x lx (by omega) 5 (by decide) (fun w h => new_field l hl a cap es hes (by omega) ho w h) (fun ar cr w _ h => rcheck_field l ar cr es hes hl (by omega) ho w h) W hr
      · by_cases hf : Free es es.length
        · obtain ⟨k, hk⟩ : ∃ k : Nat, l = (k : Int) := ⟨l.toNat, by omega⟩
          have ot : ofT k es := fun e he => by have := List.all_eq_true.1 ho e he; rw [hk] at this; exact this
          by_cases h6 : 6 < es.length
          · exact lm_big l a cap es hes i x lx k (by omega) hk ha hcap (by omega) ot hf h6 W hr
          · by_cases h0 : i < 0
            · exact lm_neg l a cap es hes i x lx k (by omega) hk ha hcap (by omega) ot hf (by omega) h0 W hr
            · by_cases h1 : (es.length : Int) < i
              · exact lm_over l a cap es hes i x lx k (by omega) hk ha hcap (by omega) ot hf (by omega) h0 h1 W hr
              · cases ox : ofB l (x.1 : Int) (x.2 : Int)
                · exact lm_not l a cap es hes i x lx k (by omega) hk ha hcap (by omega) ot hf (by omega) h0 h1 ox W hr
                · obtain ⟨j, rfl⟩ : ∃ j : Nat, i = (j : Int) := ⟨i.toNat, by omega⟩
                  exact lm_good l a cap es hes j x lx k (by omega) hk ha hcap (by omega) ot hf (by omega) (by omega) (by rw [hk] at ox; exact ox) W hr
        · exact lm_err l a cap es hes i x lx (by omega) 7 (by decide) (fun w h => new_rule l hl a cap es hes (by omega) ho hf w h) (fun ar cr w hc h => rcheck_rule l ar cr es hes hl (by omega) ho hc hf w h) W hr
  · exact lm_err l a cap es hes i x lx (by omega) 1 (by decide) (fun w h => (new_arg l a es.length cap hl).go w) (fun ar cr w _ h => (rcheck_arg l ar es.length cr hl).go w) W hr
end Go.Proofs.Ytnecjkdlmecgdaa
