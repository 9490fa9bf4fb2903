/- The walk of LinpolyCoeffs over the seat's translation. -/
import Derived.Test.YtnecjkdlmecgdaaLcD
namespace Go.Proofs.Ytnecjkdlmecgdaa
open Go.RowKit
open Cb Rg Sq Lq
open Tw (pm)

/-- Value is the sum that the coefficients say. -/
theorem svv_evl {k : Nat} {es ts : List (Nat × Nat)} {c cT : Nat} (hu : Spu k es ts c cT) {n : Nat} (hn : n ≤ es.length) {x : Nat × Nat} (lx : lt2 x) : svv k es (n : Int) x = evl (k : Int) (cf ts n) x := by
  have ot : ofT k ts := fun e he => by
    obtain ⟨i, hi, rfl⟩ := List.getElem_of_mem he
    have := top_vw hu.hk hu.of hu.lt hu.tops (i := i) hi
    rw [show el ts i = ts[i] from by simp [el, hi]] at this
    rw [this]
    exact of_vw hu.hk hu.of hu.lt i (ltE_el hu.lt i) (hu.of.el hu.hk i)
  unfold evl
  by_cases ox : ofB (k : Int) (x.1 : Int) (x.2 : Int) = true
  · rw [if_pos ⟨ox, List.all_eq_true.2 fun e he => of_cf hu.hk ot n e he⟩, svv_at hn ox, cf_len]
    exact (ev_cf hu.hk hu.of hu.lt hu.tops n (by rw [hu.tl]; exact hn) lx).symm
  · rw [if_neg fun h => ox h.1]
    exact (svv_none (by unfold hsv; rw [show ofB (k : Int) (x.1 : Int) (x.2 : Int) = false by simpa using ox]; simp)).1
/-- The boxes of the law's arguments. -/
structure Cb5 (W w : World) (l : Int) (sl sc : Value) (x : Nat × Nat) : Prop where
  s0 : w.cell? ⟨W.heap.size, 0, none⟩ = some (.int .i64 l)
  s1 : w.cell? ⟨W.heap.size, 1, none⟩ = some sl
  c0 : w.cell? ⟨W.heap.size + 1, 0, none⟩ = some sc
  x1 : w.cell? ⟨W.heap.size + 1, 1, none⟩ = some (.int .u64 (x.1 : Int))
  x0 : w.cell? ⟨W.heap.size + 1, 2, none⟩ = some (.int .u64 (x.2 : Int))
  d : Below W.heap.size W w
theorem Cb5.below {W w w' : World} {l : Int} {sl sc : Value} {x : Nat × Nat} (h : Cb5 W w l sl sc x) (hb : Below w.heap.size w w') : Cb5 W w' l sl sc x :=
  ⟨keepc hb h.s0, keepc hb h.s1, keepc hb h.c0, keepc hb h.x1, keepc hb h.x0, h.d.trans (hb.mono h.d.size)⟩
theorem Cb5.new (W : World) (l : Int) (a : Option Addr) (n cap : Nat) (ac : Option Addr) (nc cc : Nat) (x : Nat × Nat) : Cb5 W ((W.alloc (Obj.cells #[.int .i64 l, .slice a n cap] 24)).alloc (Obj.cells #[.slice ac nc cc, .int .u64 (x.1 : Int), .int .u64 (x.2 : Int)] 52)) l (.slice a n cap) (.slice ac nc cc) x := ⟨by simp [go_sem], by simp [go_sem], by simp [go_sem], by simp [go_sem], by simp [go_sem], by go_grown⟩
set_option linter.unusedVariables false in
set_option linter.unusedSimpArgs false in
set_option maxHeartbeats 16000000 in
set_option maxRecDepth 100000 in
theorem lc_far (l : Int) (a : Option Addr) (cap : Nat) (es : List (Nat × Nat)) (hes : ltE es) (ha : a = none → es.length = 0 ∧ cap = 0) (i : Int) (ac : Option Addr) (cc : Nat) (cs : List (Nat × Nat)) (hcs : ltE cs) (x : Nat × Nat) (lx : lt2 x) (h : 12 < cs.length) (W : World) (hr : ERow W a es) (hrc : ERow W ac cs) :
    Calls Try.prog 5 #[.agg #[.int .i64 l, .slice a es.length cap], .int .i64 i, .agg #[.slice ac cs.length cc, .int .u64 (x.1 : Int), .int .u64 (x.2 : Int)]] W fun e w' => e = .returned (.bool true) ∧ Below W.heap.size W w' := by
  have HA := hidT awake5
  have n12 : (12 : Int) < (cs.length : Int) := by omega
  clear h hr hes ha hrc hcs
  have B0 := Cb5.new W l a es.length cap ac cs.length cc x
  go_enter Try.func5, Try.ntmps5
  go_wp2_with (go_at_call 9; refine (HA.out.go _).mono ?_; rintro e w2 ⟨rfl, hb2⟩)
  go_ret
  exact ⟨rfl, B0.d.trans (hb2.mono B0.d.size)⟩
set_option linter.unusedVariables false in
set_option linter.unusedSimpArgs false in
set_option maxHeartbeats 16000000 in
set_option maxRecDepth 100000 in
theorem lc_none (l : Int) (a : Option Addr) (cap : Nat) (es : List (Nat × Nat)) (hes : ltE es) (ha : a = none → es.length = 0 ∧ cap = 0) (i : Int) (ac : Option Addr) (cc : Nat) (cs : List (Nat × Nat)) (hcs : ltE cs) (x : Nat × Nat) (lx : lt2 x) (h12 : cs.length ≤ 12) (h : ¬ Ok5 l es) (W : World) (hr : ERow W a es) (hrc : ERow W ac cs) :
    Calls Try.prog 5 #[.agg #[.int .i64 l, .slice a es.length cap], .int .i64 i, .agg #[.slice ac cs.length cc, .int .u64 (x.1 : Int), .int .u64 (x.2 : Int)]] W fun e w' => e = .returned (.bool true) ∧ Below W.heap.size W w' := by
  have HA := hidT awake5
  have n12 : ¬ (12 : Int) < (cs.length : Int) := by omega
  obtain ⟨wm, hwm⟩ : ∃ wm, wm = ((W.alloc (Obj.cells #[.int .i64 l, .slice a es.length cap] 24)).alloc (Obj.cells #[.slice ac cs.length cc, .int .u64 (x.1 : Int), .int .u64 (x.2 : Int)] 52)) := ⟨_, rfl⟩
  have B0 : Hid (Cb5 W wm l (.slice a es.length cap) (.slice ac cs.length cc) x) := hwm ▸ Cb5.new W l a es.length cap ac cs.length cc x
  have EE : ∀ w, Below wm.heap.size wm w → w.cell? ⟨W.heap.size, 0, none⟩ = some (.int .i64 l) ∧ w.cell? ⟨W.heap.size, 1, none⟩ = some (.slice a es.length cap) ∧ w.cell? ⟨W.heap.size + 1, 0, none⟩ = some (.slice ac cs.length cc) ∧ w.cell? ⟨W.heap.size + 1, 1, none⟩ = some (.int .u64 (x.1 : Int)) ∧ w.cell? ⟨W.heap.size + 1, 2, none⟩ = some (.int .u64 (x.2 : Int)) := fun w hb => ⟨keepc hb B0.out.s0, keepc hb B0.out.s1, keepc hb B0.out.c0, keepc hb B0.out.x1, keepc hb B0.out.x0⟩
  have BW : ∀ w, Below wm.heap.size wm w → Below W.heap.size W w := fun w hb => B0.out.d.trans (hb.mono B0.out.d.size)
  have HEv := hidT (fun w (hb : Below wm.heap.size wm w) => eval_any l ac cc cs hcs (by omega) x lx w (hrc.below (BW w hb)))
  have HRf := hidT (fun w (hb : Below wm.heap.size wm w) => ref_row ac cc cs (by omega) w (hrc.below (BW w hb)))
  have HEr := hidT (fun ar cr w (h : ERow w ar cs) => reval_any l ar cr cs hcs (by omega) x lx w h)
  have HM := hidT (fun w (hb : Below wm.heap.size wm w) => made_no l a cap es hes h w (hr.below (BW w hb)))
  clear h hr hes ha hrc hcs
  generalize evl l cs x = v at *
  go_enter Try.func5, Try.ntmps5
  go_upto_region 3 with fail
  rw [← hwm]
  clear hwm
  have K : Hid (Below wm.heap.size wm wm) := Below.refl _ _
  obtain ⟨s0, s1, c0, x1, x0⟩ := EE _ K.out
  refine wp_region_noPanic ?_
  refine wp_region_held_drew (S := fun w => w.cell? ⟨W.heap.size, 0, none⟩ = some (.int .i64 l) ∧ w.cell? ⟨W.heap.size, 1, none⟩ = some (.slice a es.length cap) ∧ w.cell? ⟨W.heap.size + 1, 0, none⟩ = some (.slice ac cs.length cc) ∧ w.cell? ⟨W.heap.size + 1, 1, none⟩ = some (.int .u64 (x.1 : Int)) ∧ w.cell? ⟨W.heap.size + 1, 2, none⟩ = some (.int .u64 (x.2 : Int))) (by kernel_rfl) (EE _ K.out.drew) (fun hHeld => ?_)
  refine wpAnyH_take (i := 0) (oi := _) (v := ?_) rfl (by kernel_rfl) (by kernel_rfl) (by kernel_rfl) (fun _ _ _ h => h) (Or.inl ⟨by rfl, ?_⟩) (by assumption) ?_
  rotate_left
  · ((intro w hSw; (try dsimp only at hSw); go_simp) <;> (try with_reducible rfl))
  show wpAnyH _ _ _ _ _ _ _ (Act.put _ (some 14) _) _
  simp only [Act.put, List.setIfInBounds_toArray, List.set_cons_succ, List.set_cons_zero]
  refine wpAnyH_take (i := 1) (oi := _) (v := ?_) rfl (by kernel_rfl) (by kernel_rfl) (by kernel_rfl) (fun _ _ _ h => h) (Or.inl ⟨by rfl, ?_⟩) (by assumption) ?_
  rotate_left
  · ((intro w hSw; (try dsimp only at hSw); go_simp) <;> (try with_reducible rfl))
  show wpAnyH _ _ _ _ _ _ _ (Act.put _ (some 15) _) _
  simp only [Act.put, List.setIfInBounds_toArray, List.set_cons_succ, List.set_cons_zero]
  refine wpAnyH_take (i := 2) (oi := _) (v := ?_) rfl (by kernel_rfl) (by kernel_rfl) (by kernel_rfl) (fun _ _ _ h => h) (Or.inl ⟨by rfl, ?_⟩) (by assumption) ?_
  rotate_left
  · ((intro w hSw; (try dsimp only at hSw); go_simp) <;> (try with_reducible rfl))
  show wpAnyH _ _ _ _ _ _ _ (Act.put _ (some 16) _) _
  simp only [Act.put, List.setIfInBounds_toArray, List.set_cons_succ, List.set_cons_zero]
  refine wpAnyH_take (i := 3) (oi := _) (v := ?_) rfl (by kernel_rfl) (by kernel_rfl) (by kernel_rfl) (fun _ _ _ h => h) (Or.inl ⟨by rfl, ?_⟩) (by assumption) ?_
  rotate_left
  · ((intro w hSw; (try dsimp only at hSw); go_simp) <;> (try with_reducible rfl))
  show wpAnyH _ _ _ _ _ _ _ (Act.put _ (some 17) _) _
  simp only [Act.put, List.setIfInBounds_toArray, List.set_cons_succ, List.set_cons_zero]
  refine wpAnyH_take (i := 4) (oi := _) (v := ?_) rfl (by kernel_rfl) (by kernel_rfl) (by kernel_rfl) (fun _ _ _ h => h) (Or.inl ⟨by rfl, ?_⟩) (by assumption) ?_
  rotate_left
  · ((intro w hSw; (try dsimp only at hSw); go_simp) <;> (try with_reducible rfl))
  show wpAnyH _ _ _ _ _ _ _ (Act.put _ (some 18) _) _
  simp only [Act.put, List.setIfInBounds_toArray, List.set_cons_succ, List.set_cons_zero]
  refine wpAnyH_take (i := 5) (oi := _) (v := ?_) rfl (by kernel_rfl) (by kernel_rfl) (by kernel_rfl) (fun _ _ _ h => h) (Or.inl ⟨by rfl, ?_⟩) (by assumption) ?_
  rotate_left
  · ((intro w hSw; (try dsimp only at hSw); go_simp) <;> (try with_reducible rfl))
  show wpAnyH _ _ _ _ _ _ _ (Act.put _ (some 19) _) _
  simp only [Act.put, List.setIfInBounds_toArray, List.set_cons_succ, List.set_cons_zero]
  refine wpAnyH_take (i := 7) (oi := _) (v := ?_) rfl (by kernel_rfl) (by kernel_rfl) (by kernel_rfl) (fun _ _ _ h => h) (Or.inl ⟨by rfl, ?_⟩) (by assumption) ?_
  rotate_left
  · ((intro w hSw; (try dsimp only at hSw); go_simp) <;> (try with_reducible rfl))
  show wpAnyH _ _ _ _ _ _ _ (Act.put _ (some 21) _) _
  simp only [Act.put, List.setIfInBounds_toArray, List.set_cons_succ, List.set_cons_zero]
  refine wpAnyH_take (i := 8) (oi := _) (v := ?_) rfl (by kernel_rfl) (by kernel_rfl) (by kernel_rfl) (fun _ _ _ h => h) (Or.inl ⟨by rfl, ?_⟩) (by assumption) ?_
  rotate_left
  · ((intro w hSw; (try dsimp only at hSw); go_simp) <;> (try with_reducible rfl))
  show wpAnyH _ _ _ _ _ _ _ (Act.put _ (some 22) _) _
  simp only [Act.put, List.setIfInBounds_toArray, List.set_cons_succ, List.set_cons_zero]
  refine wpAnyH_take (i := 9) (oi := _) (v := ?_) rfl (by kernel_rfl) (by kernel_rfl) (by kernel_rfl) (fun _ _ _ h => h) (Or.inl ⟨by rfl, ?_⟩) (by assumption) ?_
  rotate_left
  · ((intro w hSw; (try dsimp only at hSw); go_simp) <;> (try with_reducible rfl))
  show wpAnyH _ _ _ _ _ _ _ (Act.put _ (some 23) _) _
  simp only [Act.put, List.setIfInBounds_toArray, List.set_cons_succ, List.set_cons_zero]
  refine wpAnyH_take (i := 10) (oi := _) (v := ?_) rfl (by kernel_rfl) (by kernel_rfl) (by kernel_rfl) (fun _ _ _ h => h) (Or.inl ⟨by rfl, ?_⟩) (by assumption) ?_
  rotate_left
  · ((intro w hSw; (try dsimp only at hSw); go_simp) <;> (try with_reducible rfl))
  show wpAnyH _ _ _ _ _ _ _ (Act.put _ (some 24) _) _
  simp only [Act.put, List.setIfInBounds_toArray, List.set_cons_succ, List.set_cons_zero]
  refine wpAnyH_take (i := 12) (oi := _) (v := ?_) rfl (by kernel_rfl) (by kernel_rfl) (by kernel_rfl) (fun _ _ _ h => h) (Or.inl ⟨by rfl, ?_⟩) (by assumption) ?_
  rotate_left
  · ((intro w hSw; (try dsimp only at hSw); go_simp) <;> (try with_reducible rfl))
  show wpAnyH _ _ _ _ _ _ _ (Act.put _ (some 26) _) _
  simp only [Act.put, List.setIfInBounds_toArray, List.set_cons_succ, List.set_cons_zero]
  refine wpAnyH_take (i := 13) (oi := _) (v := ?_) rfl (by kernel_rfl) (by kernel_rfl) (by kernel_rfl) (fun _ _ _ h => h) (Or.inl ⟨by rfl, ?_⟩) (by assumption) ?_
  rotate_left
  · ((intro w hSw; (try dsimp only at hSw); go_simp) <;> (try with_reducible rfl))
  show wpAnyH _ _ _ _ _ _ _ (Act.put _ (some 27) _) _
  simp only [Act.put, List.setIfInBounds_toArray, List.set_cons_succ, List.set_cons_zero]
  refine wpAnyH_ready (rs := [6]) (by kernel_rfl) (by simp) ?_
  refine AllReadyH.cons (o := _) rfl (fun KK hKK => ?_) AllReadyH.nil
  go_simp
  (go_at_call 27; refine (HEv.out _ (by first | exact K.out | exact K.out.drew)).mono ?_; rintro e w9 ⟨rfl, hb⟩)
  have K'' : Hid (Below wm.heap.size wm w9) := (by first | exact K.out.trans (hb.mono K.out.size) | exact K.out.drew.trans (hb.mono K.out.drew.size))
  clear K hb
  have K := K''
  clear K''
  refine hKK.out _ _ ?_ (fun hHeld => ?_)
  · exact EE _ K.out
  clear hKK KK
  try simp only [Act.put]
  refine wpAnyH_ready (rs := [11]) (by kernel_rfl) (by simp) ?_
  refine AllReadyH.cons (o := _) rfl (fun KK hKK => ?_) AllReadyH.nil
  go_simp
  (go_at_call 12; refine (HRf.out _ (by first | exact K.out | exact K.out.drew)).mono ?_; rintro e w9 ⟨ar, cr, rfl, hrr, hb⟩)
  have R9 := hidT hrr
  clear hrr
  have K'' : Hid (Below wm.heap.size wm w9) := (by first | exact K.out.trans (hb.mono K.out.size) | exact K.out.drew.trans (hb.mono K.out.drew.size))
  clear K hb
  have K := K''
  clear K''
  refine hKK.out _ _ ?_ (fun hHeld => ?_)
  · exact EE _ K.out
  clear hKK KK
  try simp only [Act.put]
  refine wpAnyH_ready (rs := [14]) (by kernel_rfl) (by simp) ?_
  refine AllReadyH.cons (o := _) rfl (fun KK hKK => ?_) AllReadyH.nil
  go_simp
  (go_at_call 28; refine (HEr.out _ _ _ (R9.out.below (by first | exact Below.refl _ _ | exact (Below.refl _ _).drew))).mono ?_; rintro e w9 ⟨rfl, hb⟩)
  have K'' : Hid (Below wm.heap.size wm w9) := (by first | exact K.out.trans (hb.mono K.out.size) | exact K.out.drew.trans (hb.mono K.out.drew.size))
  clear K hb
  have K := K''
  clear K''
  refine hKK.out _ _ ?_ (fun hHeld => ?_)
  · exact EE _ K.out
  clear hKK KK
  try simp only [Act.put]
  refine wpAnyH_take (i := 15) (oi := _) (v := ?_) rfl (by kernel_rfl) (by kernel_rfl) (by kernel_rfl) (fun _ _ _ h => h) (Or.inl ⟨by rfl, ?_⟩) (by assumption) ?_
  rotate_left
  · ((intro w hSw; (try dsimp only at hSw); go_simp) <;> (try with_reducible rfl))
  show wpAnyH _ _ _ _ _ _ _ (Act.put _ (some 29) _) _
  simp only [Act.put, List.setIfInBounds_toArray, List.set_cons_succ, List.set_cons_zero]
  refine wpAnyH_done (by kernel_rfl) ?_ _
  refine NoPanic.normal ?_
  clear R9
  have K9 := hidT K.out
  obtain ⟨s0, s1, c0, x1, x0⟩ := EE _ K9.out
  clear K
  have K := K9
  clear K9
  go_wp2_with (first | (go_at_call 21; refine (HM.out _ K.out).mono ?_; rintro e w9 ⟨rfl, hb⟩; have K'' : Hid (Below wm.heap.size wm w9) := K.out.trans (hb.mono K.out.size); clear K hb s0 s1 c0 x1 x0; have K := K''; clear K''; obtain ⟨s0, s1, c0, x1, x0⟩ := EE _ K.out) | (go_at_call 9; refine (HA.out.go _).mono ?_; rintro e w9 ⟨rfl, hb⟩; have K'' : Hid (Below wm.heap.size wm w9) := K.out.trans (hb.mono K.out.size); clear K hb s0 s1 c0 x1 x0; have K := K''; clear K''; obtain ⟨s0, s1, c0, x1, x0⟩ := EE _ K.out))
  go_ret
  exact ⟨by rfl, BW _ K.out⟩
set_option linter.unusedVariables false in
set_option linter.unusedSimpArgs false in
set_option maxHeartbeats 16000000 in
set_option maxRecDepth 100000 in
theorem lc_neg (l : Int) (a : Option Addr) (cap : Nat) (es : List (Nat × Nat)) (hes : ltE es) (ha : a = none → es.length = 0 ∧ cap = 0) (i : Int) (ac : Option Addr) (cc : Nat) (cs : List (Nat × Nat)) (hcs : ltE cs) (x : Nat × Nat) (lx : lt2 x) (h12 : cs.length ≤ 12) (k : Nat) (hk : k < 8) (hl : l = (k : Int)) (h : Ok5 l es) (ot : ofT k es) (h0 : i < 0) (W : World) (hr : ERow W a es) (hrc : ERow W ac cs) :
    Calls Try.prog 5 #[.agg #[.int .i64 l, .slice a es.length cap], .int .i64 i, .agg #[.slice ac cs.length cc, .int .u64 (x.1 : Int), .int .u64 (x.2 : Int)]] W fun e w' => e = .returned (.bool true) ∧ Below W.heap.size W w' := by
  have HA := hidT awake5
  have n12 : ¬ (12 : Int) < (cs.length : Int) := by omega
  obtain ⟨wm, hwm⟩ : ∃ wm, wm = ((W.alloc (Obj.cells #[.int .i64 l, .slice a es.length cap] 24)).alloc (Obj.cells #[.slice ac cs.length cc, .int .u64 (x.1 : Int), .int .u64 (x.2 : Int)] 52)) := ⟨_, rfl⟩
  have B0 : Hid (Cb5 W wm l (.slice a es.length cap) (.slice ac cs.length cc) x) := hwm ▸ Cb5.new W l a es.length cap ac cs.length cc x
  have EE : ∀ w, Below wm.heap.size wm w → w.cell? ⟨W.heap.size, 0, none⟩ = some (.int .i64 l) ∧ w.cell? ⟨W.heap.size, 1, none⟩ = some (.slice a es.length cap) ∧ w.cell? ⟨W.heap.size + 1, 0, none⟩ = some (.slice ac cs.length cc) ∧ w.cell? ⟨W.heap.size + 1, 1, none⟩ = some (.int .u64 (x.1 : Int)) ∧ w.cell? ⟨W.heap.size + 1, 2, none⟩ = some (.int .u64 (x.2 : Int)) := fun w hb => ⟨keepc hb B0.out.s0, keepc hb B0.out.s1, keepc hb B0.out.c0, keepc hb B0.out.x1, keepc hb B0.out.x0⟩
  have BW : ∀ w, Below wm.heap.size wm w → Below W.heap.size W w := fun w hb => B0.out.d.trans (hb.mono B0.out.d.size)
  have HEv := hidT (fun w (hb : Below wm.heap.size wm w) => eval_any l ac cc cs hcs (by omega) x lx w (hrc.below (BW w hb)))
  have HRf := hidT (fun w (hb : Below wm.heap.size wm w) => ref_row ac cc cs (by omega) w (hrc.below (BW w hb)))
  have HEr := hidT (fun ar cr w (h : ERow w ar cs) => reval_any l ar cr cs hcs (by omega) x lx w h)
  have HM := hidT (fun w (hb : Below wm.heap.size wm w) => made_ok l k hk hl a cap es hes ha h ot w (hr.below (BW w hb)))
  have HLk := hidT hl
  have HI : Hid (i < 0 ∨ (es.length : Int) < i) := .inl h0
  clear h hr hes ha hrc hcs ot hl
  generalize evl l cs x = v at *
  go_enter Try.func5, Try.ntmps5
  go_upto_region 3 with fail
  rw [← hwm]
  clear hwm
  have K : Hid (Below wm.heap.size wm wm) := Below.refl _ _
  obtain ⟨s0, s1, c0, x1, x0⟩ := EE _ K.out
  refine wp_region_noPanic ?_
  refine wp_region_held_drew (S := fun w => w.cell? ⟨W.heap.size, 0, none⟩ = some (.int .i64 l) ∧ w.cell? ⟨W.heap.size, 1, none⟩ = some (.slice a es.length cap) ∧ w.cell? ⟨W.heap.size + 1, 0, none⟩ = some (.slice ac cs.length cc) ∧ w.cell? ⟨W.heap.size + 1, 1, none⟩ = some (.int .u64 (x.1 : Int)) ∧ w.cell? ⟨W.heap.size + 1, 2, none⟩ = some (.int .u64 (x.2 : Int))) (by kernel_rfl) (EE _ K.out.drew) (fun hHeld => ?_)
  refine wpAnyH_take (i := 0) (oi := _) (v := ?_) rfl (by kernel_rfl) (by kernel_rfl) (by kernel_rfl) (fun _ _ _ h => h) (Or.inl ⟨by rfl, ?_⟩) (by assumption) ?_
  rotate_left
  · ((intro w hSw; (try dsimp only at hSw); go_simp) <;> (try with_reducible rfl))
  show wpAnyH _ _ _ _ _ _ _ (Act.put _ (some 14) _) _
  simp only [Act.put, List.setIfInBounds_toArray, List.set_cons_succ, List.set_cons_zero]
  refine wpAnyH_take (i := 1) (oi := _) (v := ?_) rfl (by kernel_rfl) (by kernel_rfl) (by kernel_rfl) (fun _ _ _ h => h) (Or.inl ⟨by rfl, ?_⟩) (by assumption) ?_
  rotate_left
  · ((intro w hSw; (try dsimp only at hSw); go_simp) <;> (try with_reducible rfl))
  show wpAnyH _ _ _ _ _ _ _ (Act.put _ (some 15) _) _
  simp only [Act.put, List.setIfInBounds_toArray, List.set_cons_succ, List.set_cons_zero]
  refine wpAnyH_take (i := 2) (oi := _) (v := ?_) rfl (by kernel_rfl) (by kernel_rfl) (by kernel_rfl) (fun _ _ _ h => h) (Or.inl ⟨by rfl, ?_⟩) (by assumption) ?_
  rotate_left
  · ((intro w hSw; (try dsimp only at hSw); go_simp) <;> (try with_reducible rfl))
  show wpAnyH _ _ _ _ _ _ _ (Act.put _ (some 16) _) _
  simp only [Act.put, List.setIfInBounds_toArray, List.set_cons_succ, List.set_cons_zero]
  refine wpAnyH_take (i := 3) (oi := _) (v := ?_) rfl (by kernel_rfl) (by kernel_rfl) (by kernel_rfl) (fun _ _ _ h => h) (Or.inl ⟨by rfl, ?_⟩) (by assumption) ?_
  rotate_left
  · ((intro w hSw; (try dsimp only at hSw); go_simp) <;> (try with_reducible rfl))
  show wpAnyH _ _ _ _ _ _ _ (Act.put _ (some 17) _) _
  simp only [Act.put, List.setIfInBounds_toArray, List.set_cons_succ, List.set_cons_zero]
  refine wpAnyH_take (i := 4) (oi := _) (v := ?_) rfl (by kernel_rfl) (by kernel_rfl) (by kernel_rfl) (fun _ _ _ h => h) (Or.inl ⟨by rfl, ?_⟩) (by assumption) ?_
  rotate_left
  · ((intro w hSw; (try dsimp only at hSw); go_simp) <;> (try with_reducible rfl))
  show wpAnyH _ _ _ _ _ _ _ (Act.put _ (some 18) _) _
  simp only [Act.put, List.setIfInBounds_toArray, List.set_cons_succ, List.set_cons_zero]
  refine wpAnyH_take (i := 5) (oi := _) (v := ?_) rfl (by kernel_rfl) (by kernel_rfl) (by kernel_rfl) (fun _ _ _ h => h) (Or.inl ⟨by rfl, ?_⟩) (by assumption) ?_
  rotate_left
  · ((intro w hSw; (try dsimp only at hSw); go_simp) <;> (try with_reducible rfl))
  show wpAnyH _ _ _ _ _ _ _ (Act.put _ (some 19) _) _
  simp only [Act.put, List.setIfInBounds_toArray, List.set_cons_succ, List.set_cons_zero]
  refine wpAnyH_take (i := 7) (oi := _) (v := ?_) rfl (by kernel_rfl) (by kernel_rfl) (by kernel_rfl) (fun _ _ _ h => h) (Or.inl ⟨by rfl, ?_⟩) (by assumption) ?_
  rotate_left
  · ((intro w hSw; (try dsimp only at hSw); go_simp) <;> (try with_reducible rfl))
  show wpAnyH _ _ _ _ _ _ _ (Act.put _ (some 21) _) _
  simp only [Act.put, List.setIfInBounds_toArray, List.set_cons_succ, List.set_cons_zero]
  refine wpAnyH_take (i := 8) (oi := _) (v := ?_) rfl (by kernel_rfl) (by kernel_rfl) (by kernel_rfl) (fun _ _ _ h => h) (Or.inl ⟨by rfl, ?_⟩) (by assumption) ?_
  rotate_left
  · ((intro w hSw; (try dsimp only at hSw); go_simp) <;> (try with_reducible rfl))
  show wpAnyH _ _ _ _ _ _ _ (Act.put _ (some 22) _) _
  simp only [Act.put, List.setIfInBounds_toArray, List.set_cons_succ, List.set_cons_zero]
  refine wpAnyH_take (i := 9) (oi := _) (v := ?_) rfl (by kernel_rfl) (by kernel_rfl) (by kernel_rfl) (fun _ _ _ h => h) (Or.inl ⟨by rfl, ?_⟩) (by assumption) ?_
  rotate_left
  · ((intro w hSw; (try dsimp only at hSw); go_simp) <;> (try with_reducible rfl))
  show wpAnyH _ _ _ _ _ _ _ (Act.put _ (some 23) _) _
  simp only [Act.put, List.setIfInBounds_toArray, List.set_cons_succ, List.set_cons_zero]
  refine wpAnyH_take (i := 10) (oi := _) (v := ?_) rfl (by kernel_rfl) (by kernel_rfl) (by kernel_rfl) (fun _ _ _ h => h) (Or.inl ⟨by rfl, ?_⟩) (by assumption) ?_
  rotate_left
  · ((intro w hSw; (try dsimp only at hSw); go_simp) <;> (try with_reducible rfl))
  show wpAnyH _ _ _ _ _ _ _ (Act.put _ (some 24) _) _
  simp only [Act.put, List.setIfInBounds_toArray, List.set_cons_succ, List.set_cons_zero]
  refine wpAnyH_take (i := 12) (oi := _) (v := ?_) rfl (by kernel_rfl) (by kernel_rfl) (by kernel_rfl) (fun _ _ _ h => h) (Or.inl ⟨by rfl, ?_⟩) (by assumption) ?_
  rotate_left
  · ((intro w hSw; (try dsimp only at hSw); go_simp) <;> (try with_reducible rfl))
  show wpAnyH _ _ _ _ _ _ _ (Act.put _ (some 26) _) _
  simp only [Act.put, List.setIfInBounds_toArray, List.set_cons_succ, List.set_cons_zero]
  refine wpAnyH_take (i := 13) (oi := _) (v := ?_) rfl (by kernel_rfl) (by kernel_rfl) (by kernel_rfl) (fun _ _ _ h => h) (Or.inl ⟨by rfl, ?_⟩) (by assumption) ?_
  rotate_left
  · ((intro w hSw; (try dsimp only at hSw); go_simp) <;> (try with_reducible rfl))
  show wpAnyH _ _ _ _ _ _ _ (Act.put _ (some 27) _) _
  simp only [Act.put, List.setIfInBounds_toArray, List.set_cons_succ, List.set_cons_zero]
  refine wpAnyH_ready (rs := [6]) (by kernel_rfl) (by simp) ?_
  refine AllReadyH.cons (o := _) rfl (fun KK hKK => ?_) AllReadyH.nil
  go_simp
  (go_at_call 27; refine (HEv.out _ (by first | exact K.out | exact K.out.drew)).mono ?_; rintro e w9 ⟨rfl, hb⟩)
  have K'' : Hid (Below wm.heap.size wm w9) := (by first | exact K.out.trans (hb.mono K.out.size) | exact K.out.drew.trans (hb.mono K.out.drew.size))
  clear K hb
  have K := K''
  clear K''
  refine hKK.out _ _ ?_ (fun hHeld => ?_)
  · exact EE _ K.out
  clear hKK KK
  try simp only [Act.put]
  refine wpAnyH_ready (rs := [11]) (by kernel_rfl) (by simp) ?_
  refine AllReadyH.cons (o := _) rfl (fun KK hKK => ?_) AllReadyH.nil
  go_simp
  (go_at_call 12; refine (HRf.out _ (by first | exact K.out | exact K.out.drew)).mono ?_; rintro e w9 ⟨ar, cr, rfl, hrr, hb⟩)
  have R9 := hidT hrr
  clear hrr
  have K'' : Hid (Below wm.heap.size wm w9) := (by first | exact K.out.trans (hb.mono K.out.size) | exact K.out.drew.trans (hb.mono K.out.drew.size))
  clear K hb
  have K := K''
  clear K''
  refine hKK.out _ _ ?_ (fun hHeld => ?_)
  · exact EE _ K.out
  clear hKK KK
  try simp only [Act.put]
  refine wpAnyH_ready (rs := [14]) (by kernel_rfl) (by simp) ?_
  refine AllReadyH.cons (o := _) rfl (fun KK hKK => ?_) AllReadyH.nil
  go_simp
  (go_at_call 28; refine (HEr.out _ _ _ (R9.out.below (by first | exact Below.refl _ _ | exact (Below.refl _ _).drew))).mono ?_; rintro e w9 ⟨rfl, hb⟩)
  have K'' : Hid (Below wm.heap.size wm w9) := (by first | exact K.out.trans (hb.mono K.out.size) | exact K.out.drew.trans (hb.mono K.out.drew.size))
  clear K hb
  have K := K''
  clear K''
  refine hKK.out _ _ ?_ (fun hHeld => ?_)
  · exact EE _ K.out
  clear hKK KK
  try simp only [Act.put]
  refine wpAnyH_take (i := 15) (oi := _) (v := ?_) rfl (by kernel_rfl) (by kernel_rfl) (by kernel_rfl) (fun _ _ _ h => h) (Or.inl ⟨by rfl, ?_⟩) (by assumption) ?_
  rotate_left
  · ((intro w hSw; (try dsimp only at hSw); go_simp) <;> (try with_reducible rfl))
  show wpAnyH _ _ _ _ _ _ _ (Act.put _ (some 29) _) _
  simp only [Act.put, List.setIfInBounds_toArray, List.set_cons_succ, List.set_cons_zero]
  refine wpAnyH_done (by kernel_rfl) ?_ _
  refine NoPanic.normal ?_
  clear R9
  have K9 := hidT K.out
  obtain ⟨s0, s1, c0, x1, x0⟩ := EE _ K9.out
  clear K
  have K := K9
  clear K9
  go_upto_region 8 with (go_at_call 21; refine (HM.out _ K.out).mono ?_; rintro e w9 ⟨p, ts, a', aT, aB, c, cT, cB, rfl, hS, hU, hb⟩; have K'' : Hid (Below wm.heap.size wm w9) := K.out.trans (hb.mono K.out.size); have S0 := hidT hS; have U1 := hidT hU; have w8e : w9 = w9 := rfl; clear hS hU; clear K hb s0 s1 c0 x1 x0; have K := K''; clear K''; obtain ⟨s0, s1, c0, x1, x0⟩ := EE _ K.out)
  have HCo : Hid (∀ w, Below w9.heap.size w9 w → Calls Try.prog 29 #[.pointer (some ⟨p, 0, none⟩), .int .i64 i] w fun e w' => e = .returned (.slice none 0 0) ∧ Below w.heap.size w w') := fun w hb => scoef_no (S0.out.below hb) i HI.out
  go_wp2_with (first | (go_at_call 29; refine (HCo.out _ (Below.refl _ _)).mono ?_; rintro e w9 ⟨rfl, hb⟩; have K'' : Hid (Below wm.heap.size wm w9) := K.out.trans (hb.mono K.out.size); clear K hb s0 s1 c0 x1 x0; have K := K''; clear K''; obtain ⟨s0, s1, c0, x1, x0⟩ := EE _ K.out) | (go_at_call 9; refine (HA.out.go _).mono ?_; rintro e w9 ⟨rfl, hb⟩; have K'' : Hid (Below wm.heap.size wm w9) := K.out.trans (hb.mono K.out.size); clear K hb s0 s1 c0 x1 x0; have K := K''; clear K''; obtain ⟨s0, s1, c0, x1, x0⟩ := EE _ K.out))
  go_ret
  exact ⟨by rfl, BW _ K.out⟩
set_option linter.unusedVariables false in
set_option linter.unusedSimpArgs false in
set_option maxHeartbeats 16000000 in
set_option maxRecDepth 100000 in
theorem lc_over (l : Int) (a : Option Addr) (cap : Nat) (es : List (Nat × Nat)) (hes : ltE es) (ha : a = none → es.length = 0 ∧ cap = 0) (i : Int) (ac : Option Addr) (cc : Nat) (cs : List (Nat × Nat)) (hcs : ltE cs) (x : Nat × Nat) (lx : lt2 x) (h12 : cs.length ≤ 12) (k : Nat) (hk : k < 8) (hl : l = (k : Int)) (h : Ok5 l es) (ot : ofT k es) (h0 : ¬ i < 0) (h1 : (es.length : Int) < i) (W : World) (hr : ERow W a es) (hrc : ERow W ac cs) :
    Calls Try.prog 5 #[.agg #[.int .i64 l, .slice a es.length cap], .int .i64 i, .agg #[.slice ac cs.length cc, .int .u64 (x.1 : Int), .int .u64 (x.2 : Int)]] W fun e w' => e = .returned (.bool true) ∧ Below W.heap.size W w' := by
  have HA := hidT awake5
  have n12 : ¬ (12 : Int) < (cs.length : Int) := by omega
  obtain ⟨wm, hwm⟩ : ∃ wm, wm = ((W.alloc (Obj.cells #[.int .i64 l, .slice a es.length cap] 24)).alloc (Obj.cells #[.slice ac cs.length cc, .int .u64 (x.1 : Int), .int .u64 (x.2 : Int)] 52)) := ⟨_, rfl⟩
  have B0 : Hid (Cb5 W wm l (.slice a es.length cap) (.slice ac cs.length cc) x) := hwm ▸ Cb5.new W l a es.length cap ac cs.length cc x
  have EE : ∀ w, Below wm.heap.size wm w → w.cell? ⟨W.heap.size, 0, none⟩ = some (.int .i64 l) ∧ w.cell? ⟨W.heap.size, 1, none⟩ = some (.slice a es.length cap) ∧ w.cell? ⟨W.heap.size + 1, 0, none⟩ = some (.slice ac cs.length cc) ∧ w.cell? ⟨W.heap.size + 1, 1, none⟩ = some (.int .u64 (x.1 : Int)) ∧ w.cell? ⟨W.heap.size + 1, 2, none⟩ = some (.int .u64 (x.2 : Int)) := fun w hb => ⟨keepc hb B0.out.s0, keepc hb B0.out.s1, keepc hb B0.out.c0, keepc hb B0.out.x1, keepc hb B0.out.x0⟩
  have BW : ∀ w, Below wm.heap.size wm w → Below W.heap.size W w := fun w hb => B0.out.d.trans (hb.mono B0.out.d.size)
  have HEv := hidT (fun w (hb : Below wm.heap.size wm w) => eval_any l ac cc cs hcs (by omega) x lx w (hrc.below (BW w hb)))
  have HRf := hidT (fun w (hb : Below wm.heap.size wm w) => ref_row ac cc cs (by omega) w (hrc.below (BW w hb)))
  have HEr := hidT (fun ar cr w (h : ERow w ar cs) => reval_any l ar cr cs hcs (by omega) x lx w h)
  have HM := hidT (fun w (hb : Below wm.heap.size wm w) => made_ok l k hk hl a cap es hes ha h ot w (hr.below (BW w hb)))
  have HLk := hidT hl
  have HI : Hid (i < 0 ∨ (es.length : Int) < i) := .inr h1
  clear h hr hes ha hrc hcs ot hl
  generalize evl l cs x = v at *
  go_enter Try.func5, Try.ntmps5
  go_upto_region 3 with fail
  rw [← hwm]
  clear hwm
  have K : Hid (Below wm.heap.size wm wm) := Below.refl _ _
  obtain ⟨s0, s1, c0, x1, x0⟩ := EE _ K.out
  refine wp_region_noPanic ?_
  refine wp_region_held_drew (S := fun w => w.cell? ⟨W.heap.size, 0, none⟩ = some (.int .i64 l) ∧ w.cell? ⟨W.heap.size, 1, none⟩ = some (.slice a es.length cap) ∧ w.cell? ⟨W.heap.size + 1, 0, none⟩ = some (.slice ac cs.length cc) ∧ w.cell? ⟨W.heap.size + 1, 1, none⟩ = some (.int .u64 (x.1 : Int)) ∧ w.cell? ⟨W.heap.size + 1, 2, none⟩ = some (.int .u64 (x.2 : Int))) (by kernel_rfl) (EE _ K.out.drew) (fun hHeld => ?_)
  refine wpAnyH_take (i := 0) (oi := _) (v := ?_) rfl (by kernel_rfl) (by kernel_rfl) (by kernel_rfl) (fun _ _ _ h => h) (Or.inl ⟨by rfl, ?_⟩) (by assumption) ?_
  rotate_left
  · ((intro w hSw; (try dsimp only at hSw); go_simp) <;> (try with_reducible rfl))
  show wpAnyH _ _ _ _ _ _ _ (Act.put _ (some 14) _) _
  simp only [Act.put, List.setIfInBounds_toArray, List.set_cons_succ, List.set_cons_zero]
  refine wpAnyH_take (i := 1) (oi := _) (v := ?_) rfl (by kernel_rfl) (by kernel_rfl) (by kernel_rfl) (fun _ _ _ h => h) (Or.inl ⟨by rfl, ?_⟩) (by assumption) ?_
  rotate_left
  · ((intro w hSw; (try dsimp only at hSw); go_simp) <;> (try with_reducible rfl))
  show wpAnyH _ _ _ _ _ _ _ (Act.put _ (some 15) _) _
  simp only [Act.put, List.setIfInBounds_toArray, List.set_cons_succ, List.set_cons_zero]
  refine wpAnyH_take (i := 2) (oi := _) (v := ?_) rfl (by kernel_rfl) (by kernel_rfl) (by kernel_rfl) (fun _ _ _ h => h) (Or.inl ⟨by rfl, ?_⟩) (by assumption) ?_
  rotate_left
  · ((intro w hSw; (try dsimp only at hSw); go_simp) <;> (try with_reducible rfl))
  show wpAnyH _ _ _ _ _ _ _ (Act.put _ (some 16) _) _
  simp only [Act.put, List.setIfInBounds_toArray, List.set_cons_succ, List.set_cons_zero]
  refine wpAnyH_take (i := 3) (oi := _) (v := ?_) rfl (by kernel_rfl) (by kernel_rfl) (by kernel_rfl) (fun _ _ _ h => h) (Or.inl ⟨by rfl, ?_⟩) (by assumption) ?_
  rotate_left
  · ((intro w hSw; (try dsimp only at hSw); go_simp) <;> (try with_reducible rfl))
  show wpAnyH _ _ _ _ _ _ _ (Act.put _ (some 17) _) _
  simp only [Act.put, List.setIfInBounds_toArray, List.set_cons_succ, List.set_cons_zero]
  refine wpAnyH_take (i := 4) (oi := _) (v := ?_) rfl (by kernel_rfl) (by kernel_rfl) (by kernel_rfl) (fun _ _ _ h => h) (Or.inl ⟨by rfl, ?_⟩) (by assumption) ?_
  rotate_left
  · ((intro w hSw; (try dsimp only at hSw); go_simp) <;> (try with_reducible rfl))
  show wpAnyH _ _ _ _ _ _ _ (Act.put _ (some 18) _) _
  simp only [Act.put, List.setIfInBounds_toArray, List.set_cons_succ, List.set_cons_zero]
  refine wpAnyH_take (i := 5) (oi := _) (v := ?_) rfl (by kernel_rfl) (by kernel_rfl) (by kernel_rfl) (fun _ _ _ h => h) (Or.inl ⟨by rfl, ?_⟩) (by assumption) ?_
  rotate_left
  · ((intro w hSw; (try dsimp only at hSw); go_simp) <;> (try with_reducible rfl))
  show wpAnyH _ _ _ _ _ _ _ (Act.put _ (some 19) _) _
  simp only [Act.put, List.setIfInBounds_toArray, List.set_cons_succ, List.set_cons_zero]
  refine wpAnyH_take (i := 7) (oi := _) (v := ?_) rfl (by kernel_rfl) (by kernel_rfl) (by kernel_rfl) (fun _ _ _ h => h) (Or.inl ⟨by rfl, ?_⟩) (by assumption) ?_
  rotate_left
  · ((intro w hSw; (try dsimp only at hSw); go_simp) <;> (try with_reducible rfl))
  show wpAnyH _ _ _ _ _ _ _ (Act.put _ (some 21) _) _
  simp only [Act.put, List.setIfInBounds_toArray, List.set_cons_succ, List.set_cons_zero]
  refine wpAnyH_take (i := 8) (oi := _) (v := ?_) rfl (by kernel_rfl) (by kernel_rfl) (by kernel_rfl) (fun _ _ _ h => h) (Or.inl ⟨by rfl, ?_⟩) (by assumption) ?_
  rotate_left
  · ((intro w hSw; (try dsimp only at hSw); go_simp) <;> (try with_reducible rfl))
  show wpAnyH _ _ _ _ _ _ _ (Act.put _ (some 22) _) _
  simp only [Act.put, List.setIfInBounds_toArray, List.set_cons_succ, List.set_cons_zero]
  refine wpAnyH_take (i := 9) (oi := _) (v := ?_) rfl (by kernel_rfl) (by kernel_rfl) (by kernel_rfl) (fun _ _ _ h => h) (Or.inl ⟨by rfl, ?_⟩) (by assumption) ?_
  rotate_left
  · ((intro w hSw; (try dsimp only at hSw); go_simp) <;> (try with_reducible rfl))
  show wpAnyH _ _ _ _ _ _ _ (Act.put _ (some 23) _) _
  simp only [Act.put, List.setIfInBounds_toArray, List.set_cons_succ, List.set_cons_zero]
  refine wpAnyH_take (i := 10) (oi := _) (v := ?_) rfl (by kernel_rfl) (by kernel_rfl) (by kernel_rfl) (fun _ _ _ h => h) (Or.inl ⟨by rfl, ?_⟩) (by assumption) ?_
  rotate_left
  · ((intro w hSw; (try dsimp only at hSw); go_simp) <;> (try with_reducible rfl))
  show wpAnyH _ _ _ _ _ _ _ (Act.put _ (some 24) _) _
  simp only [Act.put, List.setIfInBounds_toArray, List.set_cons_succ, List.set_cons_zero]
  refine wpAnyH_take (i := 12) (oi := _) (v := ?_) rfl (by kernel_rfl) (by kernel_rfl) (by kernel_rfl) (fun _ _ _ h => h) (Or.inl ⟨by rfl, ?_⟩) (by assumption) ?_
  rotate_left
  · ((intro w hSw; (try dsimp only at hSw); go_simp) <;> (try with_reducible rfl))
  show wpAnyH _ _ _ _ _ _ _ (Act.put _ (some 26) _) _
  simp only [Act.put, List.setIfInBounds_toArray, List.set_cons_succ, List.set_cons_zero]
  refine wpAnyH_take (i := 13) (oi := _) (v := ?_) rfl (by kernel_rfl) (by kernel_rfl) (by kernel_rfl) (fun _ _ _ h => h) (Or.inl ⟨by rfl, ?_⟩) (by assumption) ?_
  rotate_left
  · ((intro w hSw; (try dsimp only at hSw); go_simp) <;> (try with_reducible rfl))
  show wpAnyH _ _ _ _ _ _ _ (Act.put _ (some 27) _) _
  simp only [Act.put, List.setIfInBounds_toArray, List.set_cons_succ, List.set_cons_zero]
  refine wpAnyH_ready (rs := [6]) (by kernel_rfl) (by simp) ?_
  refine AllReadyH.cons (o := _) rfl (fun KK hKK => ?_) AllReadyH.nil
  go_simp
  (go_at_call 27; refine (HEv.out _ (by first | exact K.out | exact K.out.drew)).mono ?_; rintro e w9 ⟨rfl, hb⟩)
  have K'' : Hid (Below wm.heap.size wm w9) := (by first | exact K.out.trans (hb.mono K.out.size) | exact K.out.drew.trans (hb.mono K.out.drew.size))
  clear K hb
  have K := K''
  clear K''
  refine hKK.out _ _ ?_ (fun hHeld => ?_)
  · exact EE _ K.out
  clear hKK KK
  try simp only [Act.put]
  refine wpAnyH_ready (rs := [11]) (by kernel_rfl) (by simp) ?_
  refine AllReadyH.cons (o := _) rfl (fun KK hKK => ?_) AllReadyH.nil
  go_simp
  (go_at_call 12; refine (HRf.out _ (by first | exact K.out | exact K.out.drew)).mono ?_; rintro e w9 ⟨ar, cr, rfl, hrr, hb⟩)
  have R9 := hidT hrr
  clear hrr
  have K'' : Hid (Below wm.heap.size wm w9) := (by first | exact K.out.trans (hb.mono K.out.size) | exact K.out.drew.trans (hb.mono K.out.drew.size))
  clear K hb
  have K := K''
  clear K''
  refine hKK.out _ _ ?_ (fun hHeld => ?_)
  · exact EE _ K.out
  clear hKK KK
  try simp only [Act.put]
  refine wpAnyH_ready (rs := [14]) (by kernel_rfl) (by simp) ?_
  refine AllReadyH.cons (o := _) rfl (fun KK hKK => ?_) AllReadyH.nil
  go_simp
  (go_at_call 28; refine (HEr.out _ _ _ (R9.out.below (by first | exact Below.refl _ _ | exact (Below.refl _ _).drew))).mono ?_; rintro e w9 ⟨rfl, hb⟩)
  have K'' : Hid (Below wm.heap.size wm w9) := (by first | exact K.out.trans (hb.mono K.out.size) | exact K.out.drew.trans (hb.mono K.out.drew.size))
  clear K hb
  have K := K''
  clear K''
  refine hKK.out _ _ ?_ (fun hHeld => ?_)
  · exact EE _ K.out
  clear hKK KK
  try simp only [Act.put]
  refine wpAnyH_take (i := 15) (oi := _) (v := ?_) rfl (by kernel_rfl) (by kernel_rfl) (by kernel_rfl) (fun _ _ _ h => h) (Or.inl ⟨by rfl, ?_⟩) (by assumption) ?_
  rotate_left
  · ((intro w hSw; (try dsimp only at hSw); go_simp) <;> (try with_reducible rfl))
  show wpAnyH _ _ _ _ _ _ _ (Act.put _ (some 29) _) _
  simp only [Act.put, List.setIfInBounds_toArray, List.set_cons_succ, List.set_cons_zero]
  refine wpAnyH_done (by kernel_rfl) ?_ _
  refine NoPanic.normal ?_
  clear R9
  have K9 := hidT K.out
  obtain ⟨s0, s1, c0, x1, x0⟩ := EE _ K9.out
  clear K
  have K := K9
  clear K9
  go_upto_region 8 with (go_at_call 21; refine (HM.out _ K.out).mono ?_; rintro e w9 ⟨p, ts, a', aT, aB, c, cT, cB, rfl, hS, hU, hb⟩; have K'' : Hid (Below wm.heap.size wm w9) := K.out.trans (hb.mono K.out.size); have S0 := hidT hS; have U1 := hidT hU; have w8e : w9 = w9 := rfl; clear hS hU; clear K hb s0 s1 c0 x1 x0; have K := K''; clear K''; obtain ⟨s0, s1, c0, x1, x0⟩ := EE _ K.out)
  have HCo : Hid (∀ w, Below w9.heap.size w9 w → Calls Try.prog 29 #[.pointer (some ⟨p, 0, none⟩), .int .i64 i] w fun e w' => e = .returned (.slice none 0 0) ∧ Below w.heap.size w w') := fun w hb => scoef_no (S0.out.below hb) i HI.out
  go_wp2_with (first | (go_at_call 29; refine (HCo.out _ (Below.refl _ _)).mono ?_; rintro e w9 ⟨rfl, hb⟩; have K'' : Hid (Below wm.heap.size wm w9) := K.out.trans (hb.mono K.out.size); clear K hb s0 s1 c0 x1 x0; have K := K''; clear K''; obtain ⟨s0, s1, c0, x1, x0⟩ := EE _ K.out) | (go_at_call 9; refine (HA.out.go _).mono ?_; rintro e w9 ⟨rfl, hb⟩; have K'' : Hid (Below wm.heap.size wm w9) := K.out.trans (hb.mono K.out.size); clear K hb s0 s1 c0 x1 x0; have K := K''; clear K''; obtain ⟨s0, s1, c0, x1, x0⟩ := EE _ K.out))
  go_ret
  exact ⟨by rfl, BW _ K.out⟩
set_option linter.unusedVariables false in
set_option linter.unusedSimpArgs false in
set_option maxHeartbeats 16000000 in
set_option maxRecDepth 100000 in
theorem lc_good (l : Int) (a : Option Addr) (cap : Nat) (es : List (Nat × Nat)) (hes : ltE es) (ha : a = none → es.length = 0 ∧ cap = 0) (i : Int) (ac : Option Addr) (cc : Nat) (cs : List (Nat × Nat)) (hcs : ltE cs) (x : Nat × Nat) (lx : lt2 x) (h12 : cs.length ≤ 12) (k : Nat) (hk : k < 8) (hl : l = (k : Int)) (h : Ok5 l es) (ot : ofT k es) (n : Nat) (hi : i = (n : Int)) (h1 : n ≤ es.length) (W : World) (hr : ERow W a es) (hrc : ERow W ac cs) :
    Calls Try.prog 5 #[.agg #[.int .i64 l, .slice a es.length cap], .int .i64 i, .agg #[.slice ac cs.length cc, .int .u64 (x.1 : Int), .int .u64 (x.2 : Int)]] W fun e w' => e = .returned (.bool true) ∧ Below W.heap.size W w' := by
  subst hi
  have HA := hidT awake5
  have n12 : ¬ (12 : Int) < (cs.length : Int) := by omega
  obtain ⟨wm, hwm⟩ : ∃ wm, wm = ((W.alloc (Obj.cells #[.int .i64 l, .slice a es.length cap] 24)).alloc (Obj.cells #[.slice ac cs.length cc, .int .u64 (x.1 : Int), .int .u64 (x.2 : Int)] 52)) := ⟨_, rfl⟩
  have B0 : Hid (Cb5 W wm l (.slice a es.length cap) (.slice ac cs.length cc) x) := hwm ▸ Cb5.new W l a es.length cap ac cs.length cc x
  have EE : ∀ w, Below wm.heap.size wm w → w.cell? ⟨W.heap.size, 0, none⟩ = some (.int .i64 l) ∧ w.cell? ⟨W.heap.size, 1, none⟩ = some (.slice a es.length cap) ∧ w.cell? ⟨W.heap.size + 1, 0, none⟩ = some (.slice ac cs.length cc) ∧ w.cell? ⟨W.heap.size + 1, 1, none⟩ = some (.int .u64 (x.1 : Int)) ∧ w.cell? ⟨W.heap.size + 1, 2, none⟩ = some (.int .u64 (x.2 : Int)) := fun w hb => ⟨keepc hb B0.out.s0, keepc hb B0.out.s1, keepc hb B0.out.c0, keepc hb B0.out.x1, keepc hb B0.out.x0⟩
  have BW : ∀ w, Below wm.heap.size wm w → Below W.heap.size W w := fun w hb => B0.out.d.trans (hb.mono B0.out.d.size)
  have HEv := hidT (fun w (hb : Below wm.heap.size wm w) => eval_any l ac cc cs hcs (by omega) x lx w (hrc.below (BW w hb)))
  have HRf := hidT (fun w (hb : Below wm.heap.size wm w) => ref_row ac cc cs (by omega) w (hrc.below (BW w hb)))
  have HEr := hidT (fun ar cr w (h : ERow w ar cs) => reval_any l ar cr cs hcs (by omega) x lx w h)
  have HM := hidT (fun w (hb : Below wm.heap.size wm w) => made_ok l k hk hl a cap es hes ha h ot w (hr.below (BW w hb)))
  have HLk := hidT hl
  have HO := hidT one_any
  have i0 : ¬ (n : Int) < 0 := by omega
  have i1 : ¬ (es.length : Int) < (n : Int) := by omega
  have n6 : (n : Int) ≤ 6 := by have := h.2.1; omega
  have n1 : IntKind.i64.wrap ((n : Int) + 1) = (n : Int) + 1 := by rw [IntKind.wrap_i64]; omega
  clear h hr hes ha hrc hcs ot hl
  generalize evl l cs x = v at *
  go_enter Try.func5, Try.ntmps5
  go_upto_region 3 with fail
  rw [← hwm]
  clear hwm
  have K : Hid (Below wm.heap.size wm wm) := Below.refl _ _
  obtain ⟨s0, s1, c0, x1, x0⟩ := EE _ K.out
  refine wp_region_noPanic ?_
  refine wp_region_held_drew (S := fun w => w.cell? ⟨W.heap.size, 0, none⟩ = some (.int .i64 l) ∧ w.cell? ⟨W.heap.size, 1, none⟩ = some (.slice a es.length cap) ∧ w.cell? ⟨W.heap.size + 1, 0, none⟩ = some (.slice ac cs.length cc) ∧ w.cell? ⟨W.heap.size + 1, 1, none⟩ = some (.int .u64 (x.1 : Int)) ∧ w.cell? ⟨W.heap.size + 1, 2, none⟩ = some (.int .u64 (x.2 : Int))) (by kernel_rfl) (EE _ K.out.drew) (fun hHeld => ?_)
  refine wpAnyH_take (i := 0) (oi := _) (v := ?_) rfl (by kernel_rfl) (by kernel_rfl) (by kernel_rfl) (fun _ _ _ h => h) (Or.inl ⟨by rfl, ?_⟩) (by assumption) ?_
  rotate_left
  · ((intro w hSw; (try dsimp only at hSw); go_simp) <;> (try with_reducible rfl))
  show wpAnyH _ _ _ _ _ _ _ (Act.put _ (some 14) _) _
  simp only [Act.put, List.setIfInBounds_toArray, List.set_cons_succ, List.set_cons_zero]
  refine wpAnyH_take (i := 1) (oi := _) (v := ?_) rfl (by kernel_rfl) (by kernel_rfl) (by kernel_rfl) (fun _ _ _ h => h) (Or.inl ⟨by rfl, ?_⟩) (by assumption) ?_
  rotate_left
  · ((intro w hSw; (try dsimp only at hSw); go_simp) <;> (try with_reducible rfl))
  show wpAnyH _ _ _ _ _ _ _ (Act.put _ (some 15) _) _
  simp only [Act.put, List.setIfInBounds_toArray, List.set_cons_succ, List.set_cons_zero]
  refine wpAnyH_take (i := 2) (oi := _) (v := ?_) rfl (by kernel_rfl) (by kernel_rfl) (by kernel_rfl) (fun _ _ _ h => h) (Or.inl ⟨by rfl, ?_⟩) (by assumption) ?_
  rotate_left
  · ((intro w hSw; (try dsimp only at hSw); go_simp) <;> (try with_reducible rfl))
  show wpAnyH _ _ _ _ _ _ _ (Act.put _ (some 16) _) _
  simp only [Act.put, List.setIfInBounds_toArray, List.set_cons_succ, List.set_cons_zero]
  refine wpAnyH_take (i := 3) (oi := _) (v := ?_) rfl (by kernel_rfl) (by kernel_rfl) (by kernel_rfl) (fun _ _ _ h => h) (Or.inl ⟨by rfl, ?_⟩) (by assumption) ?_
  rotate_left
  · ((intro w hSw; (try dsimp only at hSw); go_simp) <;> (try with_reducible rfl))
  show wpAnyH _ _ _ _ _ _ _ (Act.put _ (some 17) _) _
  simp only [Act.put, List.setIfInBounds_toArray, List.set_cons_succ, List.set_cons_zero]
  refine wpAnyH_take (i := 4) (oi := _) (v := ?_) rfl (by kernel_rfl) (by kernel_rfl) (by kernel_rfl) (fun _ _ _ h => h) (Or.inl ⟨by rfl, ?_⟩) (by assumption) ?_
  rotate_left
  · ((intro w hSw; (try dsimp only at hSw); go_simp) <;> (try with_reducible rfl))
  show wpAnyH _ _ _ _ _ _ _ (Act.put _ (some 18) _) _
  simp only [Act.put, List.setIfInBounds_toArray, List.set_cons_succ, List.set_cons_zero]
  refine wpAnyH_take (i := 5) (oi := _) (v := ?_) rfl (by kernel_rfl) (by kernel_rfl) (by kernel_rfl) (fun _ _ _ h => h) (Or.inl ⟨by rfl, ?_⟩) (by assumption) ?_
  rotate_left
  · ((intro w hSw; (try dsimp only at hSw); go_simp) <;> (try with_reducible rfl))
  show wpAnyH _ _ _ _ _ _ _ (Act.put _ (some 19) _) _
  simp only [Act.put, List.setIfInBounds_toArray, List.set_cons_succ, List.set_cons_zero]
  refine wpAnyH_take (i := 7) (oi := _) (v := ?_) rfl (by kernel_rfl) (by kernel_rfl) (by kernel_rfl) (fun _ _ _ h => h) (Or.inl ⟨by rfl, ?_⟩) (by assumption) ?_
  rotate_left
  · ((intro w hSw; (try dsimp only at hSw); go_simp) <;> (try with_reducible rfl))
  show wpAnyH _ _ _ _ _ _ _ (Act.put _ (some 21) _) _
  simp only [Act.put, List.setIfInBounds_toArray, List.set_cons_succ, List.set_cons_zero]
  refine wpAnyH_take (i := 8) (oi := _) (v := ?_) rfl (by kernel_rfl) (by kernel_rfl) (by kernel_rfl) (fun _ _ _ h => h) (Or.inl ⟨by rfl, ?_⟩) (by assumption) ?_
  rotate_left
  · ((intro w hSw; (try dsimp only at hSw); go_simp) <;> (try with_reducible rfl))
  show wpAnyH _ _ _ _ _ _ _ (Act.put _ (some 22) _) _
  simp only [Act.put, List.setIfInBounds_toArray, List.set_cons_succ, List.set_cons_zero]
  refine wpAnyH_take (i := 9) (oi := _) (v := ?_) rfl (by kernel_rfl) (by kernel_rfl) (by kernel_rfl) (fun _ _ _ h => h) (Or.inl ⟨by rfl, ?_⟩) (by assumption) ?_
  rotate_left
  · ((intro w hSw; (try dsimp only at hSw); go_simp) <;> (try with_reducible rfl))
  show wpAnyH _ _ _ _ _ _ _ (Act.put _ (some 23) _) _
  simp only [Act.put, List.setIfInBounds_toArray, List.set_cons_succ, List.set_cons_zero]
  refine wpAnyH_take (i := 10) (oi := _) (v := ?_) rfl (by kernel_rfl) (by kernel_rfl) (by kernel_rfl) (fun _ _ _ h => h) (Or.inl ⟨by rfl, ?_⟩) (by assumption) ?_
  rotate_left
  · ((intro w hSw; (try dsimp only at hSw); go_simp) <;> (try with_reducible rfl))
  show wpAnyH _ _ _ _ _ _ _ (Act.put _ (some 24) _) _
  simp only [Act.put, List.setIfInBounds_toArray, List.set_cons_succ, List.set_cons_zero]
  refine wpAnyH_take (i := 12) (oi := _) (v := ?_) rfl (by kernel_rfl) (by kernel_rfl) (by kernel_rfl) (fun _ _ _ h => h) (Or.inl ⟨by rfl, ?_⟩) (by assumption) ?_
  rotate_left
  · ((intro w hSw; (try dsimp only at hSw); go_simp) <;> (try with_reducible rfl))
  show wpAnyH _ _ _ _ _ _ _ (Act.put _ (some 26) _) _
  simp only [Act.put, List.setIfInBounds_toArray, List.set_cons_succ, List.set_cons_zero]
  refine wpAnyH_take (i := 13) (oi := _) (v := ?_) rfl (by kernel_rfl) (by kernel_rfl) (by kernel_rfl) (fun _ _ _ h => h) (Or.inl ⟨by rfl, ?_⟩) (by assumption) ?_
  rotate_left
  · ((intro w hSw; (try dsimp only at hSw); go_simp) <;> (try with_reducible rfl))
  show wpAnyH _ _ _ _ _ _ _ (Act.put _ (some 27) _) _
  simp only [Act.put, List.setIfInBounds_toArray, List.set_cons_succ, List.set_cons_zero]
  refine wpAnyH_ready (rs := [6]) (by kernel_rfl) (by simp) ?_
  refine AllReadyH.cons (o := _) rfl (fun KK hKK => ?_) AllReadyH.nil
  go_simp
  (go_at_call 27; refine (HEv.out _ (by first | exact K.out | exact K.out.drew)).mono ?_; rintro e w9 ⟨rfl, hb⟩)
  have K'' : Hid (Below wm.heap.size wm w9) := (by first | exact K.out.trans (hb.mono K.out.size) | exact K.out.drew.trans (hb.mono K.out.drew.size))
  clear K hb
  have K := K''
  clear K''
  refine hKK.out _ _ ?_ (fun hHeld => ?_)
  · exact EE _ K.out
  clear hKK KK
  try simp only [Act.put]
  refine wpAnyH_ready (rs := [11]) (by kernel_rfl) (by simp) ?_
  refine AllReadyH.cons (o := _) rfl (fun KK hKK => ?_) AllReadyH.nil
  go_simp
  (go_at_call 12; refine (HRf.out _ (by first | exact K.out | exact K.out.drew)).mono ?_; rintro e w9 ⟨ar, cr, rfl, hrr, hb⟩)
  have R9 := hidT hrr
  clear hrr
  have K'' : Hid (Below wm.heap.size wm w9) := (by first | exact K.out.trans (hb.mono K.out.size) | exact K.out.drew.trans (hb.mono K.out.drew.size))
  clear K hb
  have K := K''
  clear K''
  refine hKK.out _ _ ?_ (fun hHeld => ?_)
  · exact EE _ K.out
  clear hKK KK
  try simp only [Act.put]
  refine wpAnyH_ready (rs := [14]) (by kernel_rfl) (by simp) ?_
  refine AllReadyH.cons (o := _) rfl (fun KK hKK => ?_) AllReadyH.nil
  go_simp
  (go_at_call 28; refine (HEr.out _ _ _ (R9.out.below (by first | exact Below.refl _ _ | exact (Below.refl _ _).drew))).mono ?_; rintro e w9 ⟨rfl, hb⟩)
  have K'' : Hid (Below wm.heap.size wm w9) := (by first | exact K.out.trans (hb.mono K.out.size) | exact K.out.drew.trans (hb.mono K.out.drew.size))
  clear K hb
  have K := K''
  clear K''
  refine hKK.out _ _ ?_ (fun hHeld => ?_)
  · exact EE _ K.out
  clear hKK KK
  try simp only [Act.put]
  refine wpAnyH_take (i := 15) (oi := _) (v := ?_) rfl (by kernel_rfl) (by kernel_rfl) (by kernel_rfl) (fun _ _ _ h => h) (Or.inl ⟨by rfl, ?_⟩) (by assumption) ?_
  rotate_left
  · ((intro w hSw; (try dsimp only at hSw); go_simp) <;> (try with_reducible rfl))
  show wpAnyH _ _ _ _ _ _ _ (Act.put _ (some 29) _) _
  simp only [Act.put, List.setIfInBounds_toArray, List.set_cons_succ, List.set_cons_zero]
  refine wpAnyH_done (by kernel_rfl) ?_ _
  refine NoPanic.normal ?_
  clear R9
  have K9 := hidT K.out
  obtain ⟨s0, s1, c0, x1, x0⟩ := EE _ K9.out
  clear K
  have K := K9
  clear K9
  go_upto_region 8 with (go_at_call 21; refine (HM.out _ K.out).mono ?_; rintro e w9 ⟨p, ts, a', aT, aB, c, cT, cB, rfl, hS, hU, hb⟩; have K'' : Hid (Below wm.heap.size wm w9) := K.out.trans (hb.mono K.out.size); have S0 := hidT hS; have U1 := hidT hU; have w8e : w9 = w9 := rfl; clear hS hU; clear K hb s0 s1 c0 x1 x0; have K := K''; clear K''; obtain ⟨s0, s1, c0, x1, x0⟩ := EE _ K.out)
  have HCo := hidT (fun w (hb : Below w9.heap.size w9 w) => scoef_ok (S0.out.below hb) U1.out n h1)
  go_upto_region 11 with (go_at_call 29; refine (HCo.out _ (Below.refl _ _)).mono ?_; rintro e w9 ⟨g, rfl, hrow, hb⟩; have K'' : Hid (Below wm.heap.size wm w9) := K.out.trans (hb.mono K.out.size); have G9 := hidT hrow; have S1 := hidT (S0.out.below hb); clear hrow; clear K hb s0 s1 c0 x1 x0; have K := K''; clear K''; obtain ⟨s0, s1, c0, x1, x0⟩ := EE _ K.out)
  obtain ⟨wc, hwc⟩ : ∃ wc, wc = w9 := ⟨_, rfl⟩
  have K1 : Hid (Below wm.heap.size wm wc) := by rw [hwc]; exact K.out
  have G1 : Hid (ERow wc (some ⟨g, 0, none⟩) (cf ts n)) := by rw [hwc]; exact G9.out
  have S2 : Hid (Spa wc p k es ts a' aT aB c cT cB) := by rw [hwc]; exact S1.out
  rw [← hwc]
  clear K G9 S1 S0 HCo hwc HEv HRf HEr HM s0 s1 c0 x1 x0
  have HKc := K1
  clear K1
  obtain ⟨u, hu⟩ : ∃ u, u = evl l (cf ts n) x := ⟨_, rfl⟩
  have HE2 : Hid (∀ w, Below wc.heap.size wc w → Calls Try.prog 27 #[.int .i64 l, .slice (some ⟨g, 0, none⟩) (n + 1) (n + 1), .agg #[.int .u64 (x.1 : Int), .int .u64 (x.2 : Int)]] w fun e w' => e = .returned (.agg #[.int .u64 (u.1 : Int), .int .u64 (u.2 : Int)]) ∧ Below w.heap.size w w') := fun w hb => by
    have := eval_any l (some ⟨g, 0, none⟩) (n + 1) (cf ts n) (lt_cf ts n) (by rw [cf_len]; omega) x lx w (G1.out.below hb)
    rw [cf_len, ← hu] at this
    exact this
  have HVl : Hid (∀ w, Below wc.heap.size wc w → Calls Try.prog 22 #[.pointer (some ⟨p, 0, none⟩), .int .i64 (n : Int), .agg #[.int .u64 (x.1 : Int), .int .u64 (x.2 : Int)]] w fun e w' => e = .returned (.agg #[.int .u64 (u.1 : Int), .int .u64 (u.2 : Int)]) ∧ Below w.heap.size w w') := fun w hb => by
    have := sval_any (S2.out.below hb) U1.out (n : Int) x lx
    rw [show svv k es (n : Int) x = u by rw [hu, HLk.out]; exact svv_evl U1.out h1 lx] at this
    exact this
  have E2 : ∀ w, Below wc.heap.size wc w → w.cell? ⟨W.heap.size, 0, none⟩ = some (.int .i64 l) ∧ w.cell? ⟨W.heap.size, 1, none⟩ = some (.slice a es.length cap) ∧ w.cell? ⟨W.heap.size + 1, 0, none⟩ = some (.slice ac cs.length cc) ∧ w.cell? ⟨W.heap.size + 1, 1, none⟩ = some (.int .u64 (x.1 : Int)) ∧ w.cell? ⟨W.heap.size + 1, 2, none⟩ = some (.int .u64 (x.2 : Int)) ∧ w.cell? ⟨g, n * 2, none⟩ = some (.int .u64 0) ∧ w.cell? ⟨g, n * 2 + 1, none⟩ = some (.int .u64 1) := fun w hb => by
    obtain ⟨g1, g2, g3, g4, g5⟩ := EE w (HKc.out.trans (hb.mono HKc.out.size))
    obtain ⟨g', o', e, _, z1, z0⟩ := (G1.out.below hb).cells n (by rw [cf_len]; omega)
    injection e with e; injection e with e1 e2; subst e1 e2
    rw [Nat.zero_add] at z1 z0
    rw [show (cf ts n).getD n (0, 0) = (0, 1) from cf_last ts n] at z1 z0
    exact ⟨g1, g2, g3, g4, g5, z1, z0⟩
  have jn : (n : Int) < (n : Int) + 1 := by omega
  have jn0 : (0 : Int) ≤ (n : Int) := by omega
  clear hu EE
  have K : Hid (Below wc.heap.size wc wc) := Below.refl _ _
  obtain ⟨s0, s1, c0, x1, x0, z1, z0⟩ := E2 _ K.out
  refine wp_region_noPanic ?_
  refine wp_region_held_drew (S := fun w => w.cell? ⟨W.heap.size, 0, none⟩ = some (.int .i64 l) ∧ w.cell? ⟨W.heap.size, 1, none⟩ = some (.slice a es.length cap) ∧ w.cell? ⟨W.heap.size + 1, 0, none⟩ = some (.slice ac cs.length cc) ∧ w.cell? ⟨W.heap.size + 1, 1, none⟩ = some (.int .u64 (x.1 : Int)) ∧ w.cell? ⟨W.heap.size + 1, 2, none⟩ = some (.int .u64 (x.2 : Int)) ∧ w.cell? ⟨g, n * 2, none⟩ = some (.int .u64 0) ∧ w.cell? ⟨g, n * 2 + 1, none⟩ = some (.int .u64 1)) (by kernel_rfl) (E2 _ K.out.drew) (fun hHeld => ?_)
  refine wpAnyH_ready (rs := [0]) (by kernel_rfl) (by simp) ?_
  refine AllReadyH.cons (o := _) rfl (fun KK hKK => ?_) AllReadyH.nil
  go_simp
  (go_at_call 9; refine (HA.out.go _).mono ?_; rintro e w9 ⟨rfl, hb⟩)
  have K'' : Hid (Below wc.heap.size wc w9) := (by first | exact K.out.trans (hb.mono K.out.size) | exact K.out.drew.trans (hb.mono K.out.drew.size))
  clear K hb
  have K := K''
  clear K''
  refine hKK.out _ _ ?_ (fun hHeld => ?_)
  · exact E2 _ K.out
  clear hKK KK
  try simp only [Act.put]
  refine wpAnyH_take (i := 1) (oi := _) (v := ?_) rfl (by kernel_rfl) (by kernel_rfl) (by kernel_rfl) (fun _ _ _ h => h) (Or.inl ⟨by rfl, ?_⟩) (by assumption) ?_
  rotate_left
  · ((intro w hSw; (try dsimp only at hSw); go_simp) <;> (try with_reducible rfl))
  show wpAnyH _ _ _ _ _ _ _ (Act.put _ (some 54) _) _
  simp only [Act.put, List.setIfInBounds_toArray, List.set_cons_succ, List.set_cons_zero]
  refine wpAnyH_take (i := 2) (oi := _) (v := ?_) rfl (by kernel_rfl) (by kernel_rfl) (by kernel_rfl) (fun _ _ _ h => h) (Or.inl ⟨by rfl, ?_⟩) (by assumption) ?_
  rotate_left
  · ((intro w hSw; (try dsimp only at hSw); go_simp) <;> (try with_reducible rfl))
  show wpAnyH _ _ _ _ _ _ _ (Act.put _ (some 55) _) _
  simp only [Act.put, List.setIfInBounds_toArray, List.set_cons_succ, List.set_cons_zero]
  refine wpAnyH_take (i := 3) (oi := _) (v := ?_) rfl (by kernel_rfl) (by kernel_rfl) (by kernel_rfl) (fun _ _ _ h => h) (Or.inl ⟨by rfl, ?_⟩) (by assumption) ?_
  rotate_left
  · ((intro w hSw; (try dsimp only at hSw); go_simp) <;> (try with_reducible rfl))
  show wpAnyH _ _ _ _ _ _ _ (Act.put _ (some 56) _) _
  simp only [Act.put, List.setIfInBounds_toArray, List.set_cons_succ, List.set_cons_zero]
  refine wpAnyH_take (i := 4) (oi := _) (v := ?_) rfl (by kernel_rfl) (by kernel_rfl) (by kernel_rfl) (fun _ _ _ h => h) (Or.inl ⟨by rfl, ?_⟩) (by assumption) ?_
  rotate_left
  · ((intro w hSw; (try dsimp only at hSw); go_simp) <;> (try with_reducible rfl))
  show wpAnyH _ _ _ _ _ _ _ (Act.put _ (some 57) _) _
  simp only [Act.put, List.setIfInBounds_toArray, List.set_cons_succ, List.set_cons_zero]
  refine wpAnyH_take (i := 5) (oi := _) (v := ?_) rfl (by kernel_rfl) (by kernel_rfl) (by kernel_rfl) (fun _ _ _ h => h) (Or.inl ⟨by rfl, ?_⟩) (by assumption) ?_
  rotate_left
  · ((intro w hSw; (try dsimp only at hSw); go_simp) <;> (try with_reducible rfl))
  show wpAnyH _ _ _ _ _ _ _ (Act.put _ (some 58) _) _
  simp only [Act.put, List.setIfInBounds_toArray, List.set_cons_succ, List.set_cons_zero]
  refine wpAnyH_take (i := 6) (oi := _) (v := ?_) rfl (by kernel_rfl) (by kernel_rfl) (by kernel_rfl) (fun _ _ _ h => h) (Or.inl ⟨by rfl, ?_⟩) (by assumption) ?_
  rotate_left
  · ((intro w hSw; (try dsimp only at hSw); go_simp) <;> (try with_reducible rfl))
  show wpAnyH _ _ _ _ _ _ _ (Act.put _ (some 59) _) _
  simp only [Act.put, List.setIfInBounds_toArray, List.set_cons_succ, List.set_cons_zero]
  refine wpAnyH_take (i := 7) (oi := _) (v := ?_) rfl (by kernel_rfl) (by kernel_rfl) (by kernel_rfl) (fun _ _ _ h => h) (Or.inl ⟨by rfl, ?_⟩) (by assumption) ?_
  rotate_left
  · ((intro w hSw; (try dsimp only at hSw); go_simp) <;> (try with_reducible rfl))
  show wpAnyH _ _ _ _ _ _ _ (Act.put _ (some 60) _) _
  simp only [Act.put, List.setIfInBounds_toArray, List.set_cons_succ, List.set_cons_zero]
  refine wpAnyH_take (i := 8) (oi := _) (v := ?_) rfl (by kernel_rfl) (by kernel_rfl) (by kernel_rfl) (fun _ _ _ h => h) (Or.inl ⟨by rfl, ?_⟩) (by assumption) ?_
  rotate_left
  · ((intro w hSw; (try dsimp only at hSw); go_simp) <;> (try with_reducible rfl))
  show wpAnyH _ _ _ _ _ _ _ (Act.put _ (some 61) _) _
  simp only [Act.put, List.setIfInBounds_toArray, List.set_cons_succ, List.set_cons_zero]
  refine wpAnyH_take (i := 9) (oi := _) (v := ?_) rfl (by kernel_rfl) (by kernel_rfl) (by kernel_rfl) (fun _ _ _ h => h) (Or.inl ⟨by rfl, ?_⟩) (by assumption) ?_
  rotate_left
  · ((intro w hSw; (try dsimp only at hSw); go_simp) <;> (try with_reducible rfl))
  show wpAnyH _ _ _ _ _ _ _ (Act.put _ (some 62) _) _
  simp only [Act.put, List.setIfInBounds_toArray, List.set_cons_succ, List.set_cons_zero]
  refine wpAnyH_take (i := 10) (oi := _) (v := ?_) rfl (by kernel_rfl) (by kernel_rfl) (by kernel_rfl) (fun _ _ _ h => h) (Or.inl ⟨by rfl, ?_⟩) (by assumption) ?_
  rotate_left
  · ((intro w hSw; (try dsimp only at hSw); go_simp) <;> (try with_reducible rfl))
  show wpAnyH _ _ _ _ _ _ _ (Act.put _ (some 63) _) _
  simp only [Act.put, List.setIfInBounds_toArray, List.set_cons_succ, List.set_cons_zero]
  refine wpAnyH_take (i := 11) (oi := _) (v := ?_) rfl (by kernel_rfl) (by kernel_rfl) (by kernel_rfl) (fun _ _ _ h => h) (Or.inl ⟨by rfl, ?_⟩) (by assumption) ?_
  rotate_left
  · ((intro w hSw; (try dsimp only at hSw); go_simp) <;> (try with_reducible rfl))
  show wpAnyH _ _ _ _ _ _ _ (Act.put _ (some 64) _) _
  simp only [Act.put, List.setIfInBounds_toArray, List.set_cons_succ, List.set_cons_zero]
  refine wpAnyH_take (i := 12) (oi := _) (v := ?_) rfl (by kernel_rfl) (by kernel_rfl) (by kernel_rfl) (fun _ _ _ h => h) (Or.inl ⟨by rfl, ?_⟩) (by assumption) ?_
  rotate_left
  · ((intro w hSw; (try dsimp only at hSw); go_simp) <;> (try with_reducible rfl))
  show wpAnyH _ _ _ _ _ _ _ (Act.put _ (some 65) _) _
  simp only [Act.put, List.setIfInBounds_toArray, List.set_cons_succ, List.set_cons_zero]
  refine wpAnyH_take (i := 13) (oi := _) (v := ?_) rfl (by kernel_rfl) (by kernel_rfl) (by kernel_rfl) (fun _ _ _ h => h) (Or.inl ⟨by rfl, ?_⟩) (by assumption) ?_
  rotate_left
  · ((intro w hSw; (try dsimp only at hSw); go_simp) <;> (try with_reducible rfl))
  show wpAnyH _ _ _ _ _ _ _ (Act.put _ (some 66) _) _
  simp only [Act.put, List.setIfInBounds_toArray, List.set_cons_succ, List.set_cons_zero]
  refine wpAnyH_take (i := 15) (oi := _) (v := ?_) rfl (by kernel_rfl) (by kernel_rfl) (by kernel_rfl) (fun _ _ _ h => h) (Or.inl ⟨by rfl, ?_⟩) (by assumption) ?_
  rotate_left
  · ((intro w hSw; (try dsimp only at hSw); go_simp) <;> (try with_reducible rfl))
  show wpAnyH _ _ _ _ _ _ _ (Act.put _ (some 68) _) _
  simp only [Act.put, List.setIfInBounds_toArray, List.set_cons_succ, List.set_cons_zero]
  refine wpAnyH_take (i := 16) (oi := _) (v := ?_) rfl (by kernel_rfl) (by kernel_rfl) (by kernel_rfl) (fun _ _ _ h => h) (Or.inl ⟨by rfl, ?_⟩) (by assumption) ?_
  rotate_left
  · ((intro w hSw; (try dsimp only at hSw); go_simp) <;> (try with_reducible rfl))
  show wpAnyH _ _ _ _ _ _ _ (Act.put _ (some 69) _) _
  simp only [Act.put, List.setIfInBounds_toArray, List.set_cons_succ, List.set_cons_zero]
  refine wpAnyH_take (i := 17) (oi := _) (v := ?_) rfl (by kernel_rfl) (by kernel_rfl) (by kernel_rfl) (fun _ _ _ h => h) (Or.inl ⟨by rfl, ?_⟩) (by assumption) ?_
  rotate_left
  · ((intro w hSw; (try dsimp only at hSw); go_simp) <;> (try with_reducible rfl))
  show wpAnyH _ _ _ _ _ _ _ (Act.put _ (some 70) _) _
  simp only [Act.put, List.setIfInBounds_toArray, List.set_cons_succ, List.set_cons_zero]
  refine wpAnyH_take (i := 18) (oi := _) (v := ?_) rfl (by kernel_rfl) (by kernel_rfl) (by kernel_rfl) (fun _ _ _ h => h) (Or.inl ⟨by rfl, ?_⟩) (by assumption) ?_
  rotate_left
  · ((intro w hSw; (try dsimp only at hSw); go_simp) <;> (try with_reducible rfl))
  show wpAnyH _ _ _ _ _ _ _ (Act.put _ (some 71) _) _
  simp only [Act.put, List.setIfInBounds_toArray, List.set_cons_succ, List.set_cons_zero]
  refine wpAnyH_ready (rs := [14]) (by kernel_rfl) (by simp) ?_
  refine AllReadyH.cons (o := _) rfl (fun KK hKK => ?_) AllReadyH.nil
  go_simp
  (go_at_call 27; refine (HE2.out _ (by first | exact K.out | exact K.out.drew)).mono ?_; rintro e w9 ⟨rfl, hb⟩)
  have K'' : Hid (Below wc.heap.size wc w9) := (by first | exact K.out.trans (hb.mono K.out.size) | exact K.out.drew.trans (hb.mono K.out.drew.size))
  clear K hb
  have K := K''
  clear K''
  refine hKK.out _ _ ?_ (fun hHeld => ?_)
  · exact E2 _ K.out
  clear hKK KK
  try simp only [Act.put]
  refine wpAnyH_ready (rs := [19]) (by kernel_rfl) (by simp) ?_
  refine AllReadyH.cons (o := _) rfl (fun KK hKK => ?_) AllReadyH.nil
  go_simp
  (go_at_call 22; refine (HVl.out _ (by first | exact K.out | exact K.out.drew)).mono ?_; rintro e w9 ⟨rfl, hb⟩)
  have K'' : Hid (Below wc.heap.size wc w9) := (by first | exact K.out.trans (hb.mono K.out.size) | exact K.out.drew.trans (hb.mono K.out.drew.size))
  clear K hb
  have K := K''
  clear K''
  refine hKK.out _ _ ?_ (fun hHeld => ?_)
  · exact E2 _ K.out
  clear hKK KK
  try simp only [Act.put]
  refine wpAnyH_take (i := 20) (oi := _) (v := ?_) rfl (by kernel_rfl) (by kernel_rfl) (by kernel_rfl) (fun _ _ _ h => h) (Or.inl ⟨by rfl, ?_⟩) (by assumption) ?_
  rotate_left
  · ((intro w hSw; (try dsimp only at hSw); go_simp) <;> (try with_reducible rfl))
  show wpAnyH _ _ _ _ _ _ _ (Act.put _ (some 73) _) _
  simp only [Act.put, List.setIfInBounds_toArray, List.set_cons_succ, List.set_cons_zero]
  refine wpAnyH_take (i := 21) (oi := _) (v := ?_) rfl (by kernel_rfl) (by kernel_rfl) (by kernel_rfl) (fun _ _ _ h => h) (Or.inl ⟨by rfl, ?_⟩) (by assumption) ?_
  rotate_left
  · ((intro w hSw; (try dsimp only at hSw); go_simp) <;> (try with_reducible rfl))
  show wpAnyH _ _ _ _ _ _ _ (Act.put _ (some 74) _) _
  simp only [Act.put, List.setIfInBounds_toArray, List.set_cons_succ, List.set_cons_zero]
  refine wpAnyH_take (i := 22) (oi := _) (v := ?_) rfl (by kernel_rfl) (by kernel_rfl) (by kernel_rfl) (fun _ _ _ h => h) (Or.inl ⟨by rfl, ?_⟩) (by assumption) ?_
  rotate_left
  · ((intro w hSw; (try dsimp only at hSw); go_simp) <;> (try with_reducible rfl))
  show wpAnyH _ _ _ _ _ _ _ (Act.put _ (some 75) _) _
  simp only [Act.put, List.setIfInBounds_toArray, List.set_cons_succ, List.set_cons_zero]
  refine wpAnyH_take (i := 23) (oi := _) (v := ?_) rfl (by kernel_rfl) (by kernel_rfl) (by kernel_rfl) (fun _ _ _ h => h) (Or.inl ⟨by rfl, ?_⟩) (by assumption) ?_
  rotate_left
  · ((intro w hSw; (try dsimp only at hSw); go_simp) <;> (try with_reducible rfl))
  show wpAnyH _ _ _ _ _ _ _ (Act.put _ (some 76) _) _
  simp only [Act.put, List.setIfInBounds_toArray, List.set_cons_succ, List.set_cons_zero]
  refine wpAnyH_take (i := 24) (oi := _) (v := ?_) rfl (by kernel_rfl) (by kernel_rfl) (by kernel_rfl) (fun _ _ _ h => h) (Or.inl ⟨by rfl, ?_⟩) (by assumption) ?_
  rotate_left
  · ((intro w hSw; (try dsimp only at hSw); go_simp) <;> (try with_reducible rfl))
  show wpAnyH _ _ _ _ _ _ _ (Act.put _ (some 77) _) _
  simp only [Act.put, List.setIfInBounds_toArray, List.set_cons_succ, List.set_cons_zero]
  refine wpAnyH_take (i := 25) (oi := _) (v := ?_) rfl (by kernel_rfl) (by kernel_rfl) (by kernel_rfl) (fun _ _ _ h => h) (Or.inl ⟨by rfl, ?_⟩) (by assumption) ?_
  rotate_left
  · ((intro w hSw; (try dsimp only at hSw); go_simp) <;> (try with_reducible rfl))
  show wpAnyH _ _ _ _ _ _ _ (Act.put _ (some 78) _) _
  simp only [Act.put, List.setIfInBounds_toArray, List.set_cons_succ, List.set_cons_zero]
  refine wpAnyH_take (i := 26) (oi := _) (v := ?_) rfl (by kernel_rfl) (by kernel_rfl) (by kernel_rfl) (fun _ _ _ h => h) (Or.inl ⟨by rfl, ?_⟩) (by assumption) ?_
  rotate_left
  · ((intro w hSw; (try dsimp only at hSw); go_simp) <;> (try with_reducible rfl))
  show wpAnyH _ _ _ _ _ _ _ (Act.put _ (some 79) _) _
  simp only [Act.put, List.setIfInBounds_toArray, List.set_cons_succ, List.set_cons_zero]
  refine wpAnyH_ready (rs := [27]) (by kernel_rfl) (by simp) ?_
  refine AllReadyH.cons (o := _) rfl (fun KK hKK => ?_) AllReadyH.nil
  go_simp
  (go_at_call 26; refine (HO.out _).mono ?_; rintro e w9 ⟨rfl, hb⟩)
  have K'' : Hid (Below wc.heap.size wc w9) := (by first | exact K.out.trans (hb.mono K.out.size) | exact K.out.drew.trans (hb.mono K.out.drew.size))
  clear K hb
  have K := K''
  clear K''
  refine hKK.out _ _ ?_ (fun hHeld => ?_)
  · exact E2 _ K.out
  clear hKK KK
  try simp only [Act.put]
  refine wpAnyH_take (i := 28) (oi := _) (v := ?_) rfl (by kernel_rfl) (by kernel_rfl) (by kernel_rfl) (fun _ _ _ h => h) (Or.inl ⟨by rfl, ?_⟩) (by assumption) ?_
  rotate_left
  · ((intro w hSw; (try dsimp only at hSw); go_simp) <;> (try with_reducible rfl))
  show wpAnyH _ _ _ _ _ _ _ (Act.put _ (some 81) _) _
  simp only [Act.put, List.setIfInBounds_toArray, List.set_cons_succ, List.set_cons_zero]
  refine wpAnyH_take (i := 29) (oi := _) (v := ?_) rfl (by kernel_rfl) (by kernel_rfl) (by kernel_rfl) (fun _ _ _ h => h) (Or.inl ⟨by rfl, ?_⟩) (by assumption) ?_
  rotate_left
  · ((intro w hSw; (try dsimp only at hSw); go_simp) <;> (try with_reducible rfl))
  show wpAnyH _ _ _ _ _ _ _ (Act.put _ (some 82) _) _
  simp only [Act.put, List.setIfInBounds_toArray, List.set_cons_succ, List.set_cons_zero]
  refine wpAnyH_take (i := 30) (oi := _) (v := ?_) rfl (by kernel_rfl) (by kernel_rfl) (by kernel_rfl) (fun _ _ _ h => h) (Or.inl ⟨by rfl, ?_⟩) (by assumption) ?_
  rotate_left
  · ((intro w hSw; (try dsimp only at hSw); go_simp) <;> (try with_reducible rfl))
  show wpAnyH _ _ _ _ _ _ _ (Act.put _ (some 6) _) _
  simp only [Act.put, List.setIfInBounds_toArray, List.set_cons_succ, List.set_cons_zero]
  refine wpAnyH_done (by kernel_rfl) ?_ _
  refine NoPanic.normal ?_
  go_wp2
  go_ret
  exact ⟨by rfl, BW _ (HKc.out.trans (K.out.mono HKc.out.size))⟩
theorem lc_any (l : Int) (a : Option Addr) (cap : Nat) (es : List (Nat × Nat)) (hes : ltE es) (ha : a = none → es.length = 0 ∧ cap = 0) (i : Int) (ac : Option Addr) (cc : Nat) (cs : List (Nat × Nat)) (hcs : ltE cs) (x : Nat × Nat) (lx : lt2 x)  (W : World) (hr : ERow W a es) (hrc : ERow W ac cs) :
    Calls Try.prog 5 #[.agg #[.int .i64 l, .slice a es.length cap], .int .i64 i, .agg #[.slice ac cs.length cc, .int .u64 (x.1 : Int), .int .u64 (x.2 : Int)]] W fun e w' => e = .returned (.bool true) ∧ Below W.heap.size W w' := by
  by_cases h12 : 12 < cs.length
  · exact lc_far l a cap es hes ha i ac cc cs hcs x lx h12 W hr hrc
  by_cases h : Ok5 l es
  · obtain ⟨k, hk, hl, ot⟩ := h.lvl
    by_cases h0 : i < 0
    · exact lc_neg l a cap es hes ha i ac cc cs hcs x lx (by omega) k hk hl h ot h0 W hr hrc
    · by_cases h1 : (es.length : Int) < i
      · exact lc_over l a cap es hes ha i ac cc cs hcs x lx (by omega) k hk hl h ot h0 h1 W hr hrc
      · exact lc_good l a cap es hes ha i ac cc cs hcs x lx (by omega) k hk hl h ot i.toNat (by omega) (by omega) W hr hrc
  · exact lc_none l a cap es hes ha i ac cc cs hcs x lx (by omega) h W hr hrc
end Go.Proofs.Ytnecjkdlmecgdaa
