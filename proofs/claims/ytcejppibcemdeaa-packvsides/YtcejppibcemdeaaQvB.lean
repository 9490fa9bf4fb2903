/- PackvSides over the seat's translation. -/
import Derived.Test.YtcejppibcemdeaaPQvA
import Derived.Test.YtcejppibcemdeaaSmA
namespace Go.Proofs.Ytcejppibcemdeaa
open Go.RowKit
open Cb Rg
open Tw (pm)
namespace Pv

theorem below_drewV {B : Nat} {w w' : World} (h : Below B w w') (k : Nat) : Below B w (w'.drewN k) := ⟨h.os, h.tape, h.output, h.size, h.block⟩
set_option linter.unusedSimpArgs false in
set_option linter.unusedVariables false in
set_option maxHeartbeats 8000000 in
set_option maxRecDepth 100000 in
theorem sd_mn (l E F : Int) (hE : ¬ E = 0) (hF : ¬ F = 0) (a1 a2 : Option Addr) (n1 c1 n2 c2 : Nat) (s t : List (Nat × Nat)) (a v : Nat × Nat) (W : World)
    (HF : Hid (∀ R : World, Below W.heap.size W R → Calls Try.prog 15 #[.int .i64 l, .slice (some ⟨R.heap.size, 0, none⟩) 2 2] (R.alloc (Obj.cells #[.slice a1 n1 c1, .slice a2 n2 c2] 25)) fun e w' => e = .returned (.bool true) ∧ Below R.heap.size R w'))
    (HL : Hid (∀ w, Below W.heap.size W w → Calls Try.prog 24 #[.int .i64 l, .slice a1 n1 c1, .agg #[.int .u64 (a.1 : Int), .int .u64 (a.2 : Int)]] w fun e w' => e = .returned (.tuple #[.slice none 0 0, .int .i64 E]) ∧ Below w.heap.size w w'))
    (HG : Hid (∀ w, Below W.heap.size W w → Calls Try.prog 25 #[.int .i64 l, .slice a1 n1 c1, .agg #[.int .u64 (a.1 : Int), .int .u64 (a.2 : Int)]] w fun e w' => e = .returned (.tuple #[.slice none 0 0, .int .i64 E]) ∧ Below w.heap.size w w'))
    (HO : Hid (∀ w, Below W.heap.size W w → Calls Try.prog 26 #[.int .i64 l, .slice a1 n1 c1, .slice a2 n2 c2] w fun e w' => e = .returned (.tuple #[.agg #[.int .u64 (v.1 : Int), .int .u64 (v.2 : Int)], .int .i64 F]) ∧ Below w.heap.size w w'))
    (HR1 : Hid (∀ w, Below W.heap.size W w → Calls Try.prog 19 #[.slice a1 n1 c1] w fun e w' => ∃ a' cap', e = .returned (.slice a' n1 cap') ∧ ERow w' a' s ∧ Below w.heap.size w w'))
    (HR2 : Hid (∀ w, Below W.heap.size W w → Calls Try.prog 19 #[.slice a2 n2 c2] w fun e w' => ∃ a' cap', e = .returned (.slice a' n2 cap') ∧ ERow w' a' t ∧ Below w.heap.size w w'))
    (HM : Hid (∀ w (a b : Option Addr) (c d : Nat), ERow w a s → ERow w b t → Calls Try.prog 20 #[.int .i64 l, .slice a n1 c, .slice b n2 d] w fun e w' => e = .returned (.int .i64 F) ∧ Below w.heap.size w w'))
    (HM1 : Hid (∀ w (a : Option Addr) (c : Nat), ERow w a s → Calls Try.prog 20 #[.int .i64 l, .slice a n1 c, .slice a n1 c] w fun e w' => e = .returned (.int .i64 E) ∧ Below w.heap.size w w')) :
    Calls Try.prog 5 #[.int .i64 l, .slice a1 n1 c1, .agg #[.int .u64 (a.1 : Int), .int .u64 (a.2 : Int), .slice a2 n2 c2]] W fun e w' => e = .returned (.bool true) ∧ Below W.heap.size W w' := by
  have hE' : (E == 0) = false := by rw [beq_eq_false_iff_ne]; exact hE
  have hF' : (F == 0) = false := by rw [beq_eq_false_iff_ne]; exact hF
  have AW := hidT awake19
  obtain ⟨W1, hW1⟩ : ∃ x, x = W.alloc (Obj.cells #[.int .u64 (a.1 : Int), .int .u64 (a.2 : Int), .slice a2 n2 c2] 48) := ⟨_, rfl⟩
  have D0 := hidT (show Below W.heap.size W W1 from hW1 ▸ (Below.refl _ _).alloc (Nat.le_refl _) _)
  have hs0 : W1.heap.size = W.heap.size + 1 := by rw [hW1]; simp
  have A0 : W1.cell? ⟨W.heap.size, 0, none⟩ = some (.int .u64 (a.1 : Int)) ∧ W1.cell? ⟨W.heap.size, 1, none⟩ = some (.int .u64 (a.2 : Int)) ∧ W1.cell? ⟨W.heap.size, 2, none⟩ = some (.slice a2 n2 c2) := by subst hW1; exact ⟨by simp [go_sem], by simp [go_sem], by simp [go_sem]⟩
  have CA := hidT (fun w (hb : Below W1.heap.size W1 w) => show w.cell? ⟨W.heap.size, 0, none⟩ = some (.int .u64 (a.1 : Int)) ∧ w.cell? ⟨W.heap.size, 1, none⟩ = some (.int .u64 (a.2 : Int)) ∧ w.cell? ⟨W.heap.size, 2, none⟩ = some (.slice a2 n2 c2) from ⟨keepc hb A0.1, keepc hb A0.2.1, keepc hb A0.2.2⟩)
  have LW := hidT (show W.heap.size < W1.heap.size from by rw [hs0]; omega)
  clear hs0
  obtain ⟨f0, f1, f2⟩ := A0
  go_enter Try.func5, Try.ntmps5
  go_upto_region 1 with fail
  rw [← hW1]
  clear hW1
  go_upto_region 6 with (first
    | (go_at_call 26; refine (HO.out _ (D0.out.trans (K3.out.1.mono D0.out.size))).mono ?_; rintro e w4 ⟨rfl, hb⟩; have K4 := hidT (And.intro (K3.out.1.trans (hb.mono K3.out.1.size)) trivial); clear hb f0 f1 f2; obtain ⟨f0, f1, f2⟩ := CA.out _ K4.out.1)
    | (go_at_call 25; refine (HG.out _ (D0.out.trans (K2.out.1.mono D0.out.size))).mono ?_; rintro e w3 ⟨rfl, hb⟩; have K3 := hidT (And.intro (K2.out.1.trans (hb.mono K2.out.1.size)) trivial); clear hb f0 f1 f2; obtain ⟨f0, f1, f2⟩ := CA.out _ K3.out.1)
    | (go_at_call 24; refine (HL.out _ (D0.out.trans (K1.out.mono D0.out.size))).mono ?_; rintro e w2 ⟨rfl, hb⟩; have K2 := hidT (And.intro (K1.out.trans (hb.mono K1.out.size)) trivial); clear hb f0 f1 f2; obtain ⟨f0, f1, f2⟩ := CA.out _ K2.out.1)
    | (go_at_call 15; refine (HF.out W1 D0.out).mono ?_; rintro e w1 ⟨rfl, hb1⟩; have K1 := hidT hb1; clear hb1 f0 f1 f2; obtain ⟨f0, f1, f2⟩ := CA.out _ K1.out))
  obtain ⟨V, hV⟩ : ∃ x, x = w4.alloc (Obj.cells #[.int .u64 (v.1 : Int), .int .u64 (v.2 : Int)] 24) := ⟨_, rfl⟩
  have D4 := hidT (show Below w4.heap.size w4 V from hV ▸ (Below.refl _ _).alloc (Nat.le_refl _) _)
  have B4 : El V w4.heap.size v.1 v.2 := hV ▸ El.newP w4 v _
  rw [← hV]
  clear hV f0 f1 f2
  generalize w4.heap.size = qc at B4 ⊢
  have DV := hidT (show Below W1.heap.size W1 V from K4.out.1.trans (D4.out.mono K4.out.1.size))
  have FV := hidT (fun w (hb : Below V.heap.size V w) => show (w.cell? ⟨W.heap.size, 0, none⟩ = some (.int .u64 (a.1 : Int)) ∧ w.cell? ⟨W.heap.size, 1, none⟩ = some (.int .u64 (a.2 : Int)) ∧ w.cell? ⟨W.heap.size, 2, none⟩ = some (.slice a2 n2 c2)) ∧ El w qc v.1 v.2 from ⟨CA.out _ (DV.out.trans (hb.mono DV.out.size)), B4.below hb⟩)
  have DW := hidT (show Below W.heap.size W V from D0.out.trans (DV.out.mono D0.out.size))
  clear B4 D4 K4 CA DV D0 LW
  refine wp_region_noPanic ?_
  refine wp_region_held_drew (S := fun w => w.cell? ⟨W.heap.size, 0, none⟩ = some (.int .u64 (a.1 : Int)) ∧ w.cell? ⟨W.heap.size, 1, none⟩ = some (.int .u64 (a.2 : Int)) ∧ w.cell? ⟨W.heap.size, 2, none⟩ = some (.slice a2 n2 c2)) (by kernel_rfl) ((FV.out _ (Below.refl _ _).drew).1) (fun hHeld => ?_)
  refine wpAnyH_take (i := 0) (oi := _) (v := ?_) rfl (by kernel_rfl) (by kernel_rfl) (by kernel_rfl) (fun _ _ _ h => h) (Or.inl ⟨by rfl, ?_⟩) (by assumption) ?_
  rotate_left
  · ((intro w hSw; (try dsimp only at hSw); go_simp) <;> (try with_reducible rfl))
  show wpAnyH _ _ _ _ _ _ _ (Act.put _ (some 50) _) _
  simp only [Act.put, List.setIfInBounds_toArray, List.set_cons_succ, List.set_cons_zero]
  refine wpAnyH_take (i := 2) (oi := _) (v := ?_) rfl (by kernel_rfl) (by kernel_rfl) (by kernel_rfl) (fun _ _ _ h => h) (Or.inl ⟨by rfl, ?_⟩) (by assumption) ?_
  rotate_left
  · ((intro w hSw; (try dsimp only at hSw); go_simp) <;> (try with_reducible rfl))
  show wpAnyH _ _ _ _ _ _ _ (Act.put _ (some 52) _) _
  simp only [Act.put, List.setIfInBounds_toArray, List.set_cons_succ, List.set_cons_zero]
  refine wpAnyH_take (i := 3) (oi := _) (v := ?_) rfl (by kernel_rfl) (by kernel_rfl) (by kernel_rfl) (fun _ _ _ h => h) (Or.inl ⟨by rfl, ?_⟩) (by assumption) ?_
  rotate_left
  · ((intro w hSw; (try dsimp only at hSw); go_simp) <;> (try with_reducible rfl))
  show wpAnyH _ _ _ _ _ _ _ (Act.put _ (some 53) _) _
  simp only [Act.put, List.setIfInBounds_toArray, List.set_cons_succ, List.set_cons_zero]
  refine wpAnyH_ready (rs := [1]) (by kernel_rfl) (by simp) ?_
  refine AllReadyH.cons (o := _) rfl (fun KK hKK => ?_) AllReadyH.nil
  go_simp
  (go_at_call 19; refine (HR1.out _ DW.out.drew).mono ?_; rintro e w5 ⟨ax, cx, rfl, hr, hb⟩)
  have K5 := hidT (show Below V.heap.size V w5 ∧ ERow w5 ax s from ⟨(Below.refl _ _).drew.trans hb, hr⟩)
  clear hb hr
  refine hKK.out _ _ ?_ (fun hHeld => ?_)
  · exact (FV.out _ K5.out.1).1
  clear hKK KK
  try simp only [Act.put]
  refine wpAnyH_ready (rs := [4]) (by kernel_rfl) (by simp) ?_
  refine AllReadyH.cons (o := _) rfl (fun KK hKK => ?_) AllReadyH.nil
  go_simp
  (go_at_call 19; refine (HR2.out _ (DW.out.trans (K5.out.1.mono DW.out.size))).mono ?_; rintro e w6 ⟨ay, cy, rfl, hr, hb⟩)
  have K6 := hidT (show Below V.heap.size V w6 ∧ ERow w6 ax s ∧ ERow w6 ay t from ⟨K5.out.1.trans (hb.mono K5.out.1.size), K5.out.2.below hb, hr⟩)
  clear hb hr K5
  refine hKK.out _ _ ?_ (fun hHeld => ?_)
  · exact (FV.out _ K6.out.1).1
  clear hKK KK
  try simp only [Act.put]
  refine wpAnyH_take (i := 5) (oi := _) (v := ?_) rfl (by kernel_rfl) (by kernel_rfl) (by kernel_rfl) (fun _ _ _ h => h) (Or.inl ⟨by rfl, ?_⟩) (by assumption) ?_
  rotate_left
  · ((intro w hSw; (try dsimp only at hSw); go_simp) <;> (try with_reducible rfl))
  show wpAnyH _ _ _ _ _ _ _ (Act.put _ (some 13) _) _
  simp only [Act.put, List.setIfInBounds_toArray, List.set_cons_succ, List.set_cons_zero]
  refine wpAnyH_take (i := 6) (oi := _) (v := ?_) rfl (by kernel_rfl) (by kernel_rfl) (by kernel_rfl) (fun _ _ _ h => h) (Or.inl ⟨by rfl, ?_⟩) (by assumption) ?_
  rotate_left
  · ((intro w hSw; (try dsimp only at hSw); go_simp) <;> (try with_reducible rfl))
  show wpAnyH _ _ _ _ _ _ _ (Act.put _ (some 14) _) _
  simp only [Act.put, List.setIfInBounds_toArray, List.set_cons_succ, List.set_cons_zero]
  refine wpAnyH_done (by kernel_rfl) ?_ _
  refine NoPanic.normal ?_
  have FA := hidT (fun w (hb : Below w6.heap.size w6 w) => show ((w.cell? ⟨W.heap.size, 0, none⟩ = some (.int .u64 (a.1 : Int)) ∧ w.cell? ⟨W.heap.size, 1, none⟩ = some (.int .u64 (a.2 : Int)) ∧ w.cell? ⟨W.heap.size, 2, none⟩ = some (.slice a2 n2 c2)) ∧ El w qc v.1 v.2) ∧ ERow w ax s ∧ ERow w ay t from ⟨FV.out _ (K6.out.1.trans (hb.mono K6.out.1.size)), K6.out.2.1.below hb, K6.out.2.2.below hb⟩)
  have DX := hidT (show Below W.heap.size W w6 from DW.out.trans (K6.out.1.mono DW.out.size))
  have M0 := hidT (Below.refl w6.heap.size w6)
  clear FV DW K6
  obtain ⟨⟨⟨f0, f1, f2⟩, _⟩, _⟩ := FA.out _ M0.out
  go_upto_region 12 with (first
    | (have _g := M1; clear _g; go_at_call 20; refine (HM.out _ _ _ _ _ (FA.out _ M1.out).2.1 (FA.out _ M1.out).2.2).mono ?_; rintro e v3 ⟨rfl, hb⟩; have M2 := hidT (M1.out.trans (hb.mono M1.out.size)); clear hb f0 f1 f2; obtain ⟨⟨⟨f0, f1, f2⟩, _⟩, _⟩ := FA.out _ M2.out)
    | (have _g := M0; clear _g; go_at_call 20; refine (HM1.out _ _ _ (FA.out _ M0.out).2.1).mono ?_; rintro e v1 ⟨rfl, hb⟩; have M1 := hidT (M0.out.trans (hb.mono M0.out.size)); clear hb f0 f1 f2; obtain ⟨⟨⟨f0, f1, f2⟩, _⟩, _⟩ := FA.out _ M1.out))
  clear f0 f1 f2
  go_quiet (fail)
  rename_i nq
  have K := hidT (below_drewV M2.out nq)
  clear M2
  generalize v3.drewN nq = u0 at K ⊢
  go_wp2_with (go_at_call 10; refine (AW.out.go _).mono ?_; rintro e u1 ⟨rfl, hb⟩; have J := hidT (K.out.trans (hb.mono K.out.size)); clear hb)
  go_ret
  exact ⟨by first | rfl | simp, DX.out.trans (J.out.mono DX.out.size)⟩
set_option linter.unusedSimpArgs false in
set_option linter.unusedVariables false in
set_option maxHeartbeats 8000000 in
set_option maxRecDepth 100000 in
theorem sd_bo (l : Int) (a1 a2 : Option Addr) (n1 c1 n2 c2 : Nat) (s t : List (Nat × Nat)) (a v : Nat × Nat) (W : World)
    (HF : Hid (∀ R : World, Below W.heap.size W R → Calls Try.prog 15 #[.int .i64 l, .slice (some ⟨R.heap.size, 0, none⟩) 2 2] (R.alloc (Obj.cells #[.slice a1 n1 c1, .slice a2 n2 c2] 25)) fun e w' => e = .returned (.bool true) ∧ Below R.heap.size R w'))
    (HL : Hid (∀ w, Below W.heap.size W w → Calls Try.prog 24 #[.int .i64 l, .slice a1 n1 c1, .agg #[.int .u64 (a.1 : Int), .int .u64 (a.2 : Int)]] w fun e w' => e = .returned (.tuple #[.slice none 0 0, .int .i64 5]) ∧ Below w.heap.size w w'))
    (HG : Hid (∀ w, Below W.heap.size W w → Calls Try.prog 25 #[.int .i64 l, .slice a1 n1 c1, .agg #[.int .u64 (a.1 : Int), .int .u64 (a.2 : Int)]] w fun e w' => e = .returned (.tuple #[.slice none 0 0, .int .i64 5]) ∧ Below w.heap.size w w'))
    (HO : Hid (∀ w, Below W.heap.size W w → Calls Try.prog 26 #[.int .i64 l, .slice a1 n1 c1, .slice a2 n2 c2] w fun e w' => e = .returned (.tuple #[.agg #[.int .u64 (v.1 : Int), .int .u64 (v.2 : Int)], .int .i64 0]) ∧ Below w.heap.size w w'))
    (HR1 : Hid (∀ w, Below W.heap.size W w → Calls Try.prog 19 #[.slice a1 n1 c1] w fun e w' => ∃ a' cap', e = .returned (.slice a' n1 cap') ∧ ERow w' a' s ∧ Below w.heap.size w w'))
    (HR2 : Hid (∀ w, Below W.heap.size W w → Calls Try.prog 19 #[.slice a2 n2 c2] w fun e w' => ∃ a' cap', e = .returned (.slice a' n2 cap') ∧ ERow w' a' t ∧ Below w.heap.size w w'))
    (HM : Hid (∀ w (a b : Option Addr) (c d : Nat), ERow w a s → ERow w b t → Calls Try.prog 20 #[.int .i64 l, .slice a n1 c, .slice b n2 d] w fun e w' => e = .returned (.int .i64 0) ∧ Below w.heap.size w w'))
    (HM1 : Hid (∀ w (a : Option Addr) (c : Nat), ERow w a s → Calls Try.prog 20 #[.int .i64 l, .slice a n1 c, .slice a n1 c] w fun e w' => e = .returned (.int .i64 0) ∧ Below w.heap.size w w'))
    (OF : Hid (Ret 14 #[.int .i64 l, .agg #[.int .u64 (a.1 : Int), .int .u64 (a.2 : Int)]] (.bool false)))
    (HD : Hid (∀ w (a b : Option Addr) (c d : Nat), ERow w a s → ERow w b t → Calls Try.prog 27 #[.int .i64 l, .slice a n1 c, .slice b n2 d] w fun e w' => e = .returned (.agg #[.int .u64 (v.1 : Int), .int .u64 (v.2 : Int)]) ∧ Below w.heap.size w w')) :
    Calls Try.prog 5 #[.int .i64 l, .slice a1 n1 c1, .agg #[.int .u64 (a.1 : Int), .int .u64 (a.2 : Int), .slice a2 n2 c2]] W fun e w' => e = .returned (.bool true) ∧ Below W.heap.size W w' := by
  have AW := hidT awake19
  obtain ⟨W1, hW1⟩ : ∃ x, x = W.alloc (Obj.cells #[.int .u64 (a.1 : Int), .int .u64 (a.2 : Int), .slice a2 n2 c2] 48) := ⟨_, rfl⟩
  have D0 := hidT (show Below W.heap.size W W1 from hW1 ▸ (Below.refl _ _).alloc (Nat.le_refl _) _)
  have hs0 : W1.heap.size = W.heap.size + 1 := by rw [hW1]; simp
  have A0 : W1.cell? ⟨W.heap.size, 0, none⟩ = some (.int .u64 (a.1 : Int)) ∧ W1.cell? ⟨W.heap.size, 1, none⟩ = some (.int .u64 (a.2 : Int)) ∧ W1.cell? ⟨W.heap.size, 2, none⟩ = some (.slice a2 n2 c2) := by subst hW1; exact ⟨by simp [go_sem], by simp [go_sem], by simp [go_sem]⟩
  have CA := hidT (fun w (hb : Below W1.heap.size W1 w) => show w.cell? ⟨W.heap.size, 0, none⟩ = some (.int .u64 (a.1 : Int)) ∧ w.cell? ⟨W.heap.size, 1, none⟩ = some (.int .u64 (a.2 : Int)) ∧ w.cell? ⟨W.heap.size, 2, none⟩ = some (.slice a2 n2 c2) from ⟨keepc hb A0.1, keepc hb A0.2.1, keepc hb A0.2.2⟩)
  have LW := hidT (show W.heap.size < W1.heap.size from by rw [hs0]; omega)
  clear hs0
  obtain ⟨f0, f1, f2⟩ := A0
  go_enter Try.func5, Try.ntmps5
  go_upto_region 1 with fail
  rw [← hW1]
  clear hW1
  go_upto_region 6 with (first
    | (go_at_call 26; refine (HO.out _ (D0.out.trans (K3.out.1.mono D0.out.size))).mono ?_; rintro e w4 ⟨rfl, hb⟩; have K4 := hidT (And.intro (K3.out.1.trans (hb.mono K3.out.1.size)) trivial); clear hb f0 f1 f2; obtain ⟨f0, f1, f2⟩ := CA.out _ K4.out.1)
    | (go_at_call 25; refine (HG.out _ (D0.out.trans (K2.out.1.mono D0.out.size))).mono ?_; rintro e w3 ⟨rfl, hb⟩; have K3 := hidT (And.intro (K2.out.1.trans (hb.mono K2.out.1.size)) trivial); clear hb f0 f1 f2; obtain ⟨f0, f1, f2⟩ := CA.out _ K3.out.1)
    | (go_at_call 24; refine (HL.out _ (D0.out.trans (K1.out.mono D0.out.size))).mono ?_; rintro e w2 ⟨rfl, hb⟩; have K2 := hidT (And.intro (K1.out.trans (hb.mono K1.out.size)) trivial); clear hb f0 f1 f2; obtain ⟨f0, f1, f2⟩ := CA.out _ K2.out.1)
    | (go_at_call 15; refine (HF.out W1 D0.out).mono ?_; rintro e w1 ⟨rfl, hb1⟩; have K1 := hidT hb1; clear hb1 f0 f1 f2; obtain ⟨f0, f1, f2⟩ := CA.out _ K1.out))
  obtain ⟨V, hV⟩ : ∃ x, x = w4.alloc (Obj.cells #[.int .u64 (v.1 : Int), .int .u64 (v.2 : Int)] 24) := ⟨_, rfl⟩
  have D4 := hidT (show Below w4.heap.size w4 V from hV ▸ (Below.refl _ _).alloc (Nat.le_refl _) _)
  have B4 : El V w4.heap.size v.1 v.2 := hV ▸ El.newP w4 v _
  rw [← hV]
  clear hV f0 f1 f2
  generalize w4.heap.size = qc at B4 ⊢
  have DV := hidT (show Below W1.heap.size W1 V from K4.out.1.trans (D4.out.mono K4.out.1.size))
  have FV := hidT (fun w (hb : Below V.heap.size V w) => show (w.cell? ⟨W.heap.size, 0, none⟩ = some (.int .u64 (a.1 : Int)) ∧ w.cell? ⟨W.heap.size, 1, none⟩ = some (.int .u64 (a.2 : Int)) ∧ w.cell? ⟨W.heap.size, 2, none⟩ = some (.slice a2 n2 c2)) ∧ El w qc v.1 v.2 from ⟨CA.out _ (DV.out.trans (hb.mono DV.out.size)), B4.below hb⟩)
  have DW := hidT (show Below W.heap.size W V from D0.out.trans (DV.out.mono D0.out.size))
  clear B4 D4 K4 CA DV D0 LW
  refine wp_region_noPanic ?_
  refine wp_region_held_drew (S := fun w => w.cell? ⟨W.heap.size, 0, none⟩ = some (.int .u64 (a.1 : Int)) ∧ w.cell? ⟨W.heap.size, 1, none⟩ = some (.int .u64 (a.2 : Int)) ∧ w.cell? ⟨W.heap.size, 2, none⟩ = some (.slice a2 n2 c2)) (by kernel_rfl) ((FV.out _ (Below.refl _ _).drew).1) (fun hHeld => ?_)
  refine wpAnyH_take (i := 0) (oi := _) (v := ?_) rfl (by kernel_rfl) (by kernel_rfl) (by kernel_rfl) (fun _ _ _ h => h) (Or.inl ⟨by rfl, ?_⟩) (by assumption) ?_
  rotate_left
  · ((intro w hSw; (try dsimp only at hSw); go_simp) <;> (try with_reducible rfl))
  show wpAnyH _ _ _ _ _ _ _ (Act.put _ (some 50) _) _
  simp only [Act.put, List.setIfInBounds_toArray, List.set_cons_succ, List.set_cons_zero]
  refine wpAnyH_take (i := 2) (oi := _) (v := ?_) rfl (by kernel_rfl) (by kernel_rfl) (by kernel_rfl) (fun _ _ _ h => h) (Or.inl ⟨by rfl, ?_⟩) (by assumption) ?_
  rotate_left
  · ((intro w hSw; (try dsimp only at hSw); go_simp) <;> (try with_reducible rfl))
  show wpAnyH _ _ _ _ _ _ _ (Act.put _ (some 52) _) _
  simp only [Act.put, List.setIfInBounds_toArray, List.set_cons_succ, List.set_cons_zero]
  refine wpAnyH_take (i := 3) (oi := _) (v := ?_) rfl (by kernel_rfl) (by kernel_rfl) (by kernel_rfl) (fun _ _ _ h => h) (Or.inl ⟨by rfl, ?_⟩) (by assumption) ?_
  rotate_left
  · ((intro w hSw; (try dsimp only at hSw); go_simp) <;> (try with_reducible rfl))
  show wpAnyH _ _ _ _ _ _ _ (Act.put _ (some 53) _) _
  simp only [Act.put, List.setIfInBounds_toArray, List.set_cons_succ, List.set_cons_zero]
  refine wpAnyH_ready (rs := [1]) (by kernel_rfl) (by simp) ?_
  refine AllReadyH.cons (o := _) rfl (fun KK hKK => ?_) AllReadyH.nil
  go_simp
  (go_at_call 19; refine (HR1.out _ DW.out.drew).mono ?_; rintro e w5 ⟨ax, cx, rfl, hr, hb⟩)
  have K5 := hidT (show Below V.heap.size V w5 ∧ ERow w5 ax s from ⟨(Below.refl _ _).drew.trans hb, hr⟩)
  clear hb hr
  refine hKK.out _ _ ?_ (fun hHeld => ?_)
  · exact (FV.out _ K5.out.1).1
  clear hKK KK
  try simp only [Act.put]
  refine wpAnyH_ready (rs := [4]) (by kernel_rfl) (by simp) ?_
  refine AllReadyH.cons (o := _) rfl (fun KK hKK => ?_) AllReadyH.nil
  go_simp
  (go_at_call 19; refine (HR2.out _ (DW.out.trans (K5.out.1.mono DW.out.size))).mono ?_; rintro e w6 ⟨ay, cy, rfl, hr, hb⟩)
  have K6 := hidT (show Below V.heap.size V w6 ∧ ERow w6 ax s ∧ ERow w6 ay t from ⟨K5.out.1.trans (hb.mono K5.out.1.size), K5.out.2.below hb, hr⟩)
  clear hb hr K5
  refine hKK.out _ _ ?_ (fun hHeld => ?_)
  · exact (FV.out _ K6.out.1).1
  clear hKK KK
  try simp only [Act.put]
  refine wpAnyH_take (i := 5) (oi := _) (v := ?_) rfl (by kernel_rfl) (by kernel_rfl) (by kernel_rfl) (fun _ _ _ h => h) (Or.inl ⟨by rfl, ?_⟩) (by assumption) ?_
  rotate_left
  · ((intro w hSw; (try dsimp only at hSw); go_simp) <;> (try with_reducible rfl))
  show wpAnyH _ _ _ _ _ _ _ (Act.put _ (some 13) _) _
  simp only [Act.put, List.setIfInBounds_toArray, List.set_cons_succ, List.set_cons_zero]
  refine wpAnyH_take (i := 6) (oi := _) (v := ?_) rfl (by kernel_rfl) (by kernel_rfl) (by kernel_rfl) (fun _ _ _ h => h) (Or.inl ⟨by rfl, ?_⟩) (by assumption) ?_
  rotate_left
  · ((intro w hSw; (try dsimp only at hSw); go_simp) <;> (try with_reducible rfl))
  show wpAnyH _ _ _ _ _ _ _ (Act.put _ (some 14) _) _
  simp only [Act.put, List.setIfInBounds_toArray, List.set_cons_succ, List.set_cons_zero]
  refine wpAnyH_done (by kernel_rfl) ?_ _
  refine NoPanic.normal ?_
  have FA := hidT (fun w (hb : Below w6.heap.size w6 w) => show ((w.cell? ⟨W.heap.size, 0, none⟩ = some (.int .u64 (a.1 : Int)) ∧ w.cell? ⟨W.heap.size, 1, none⟩ = some (.int .u64 (a.2 : Int)) ∧ w.cell? ⟨W.heap.size, 2, none⟩ = some (.slice a2 n2 c2)) ∧ El w qc v.1 v.2) ∧ ERow w ax s ∧ ERow w ay t from ⟨FV.out _ (K6.out.1.trans (hb.mono K6.out.1.size)), K6.out.2.1.below hb, K6.out.2.2.below hb⟩)
  have DX := hidT (show Below W.heap.size W w6 from DW.out.trans (K6.out.1.mono DW.out.size))
  have M0 := hidT (Below.refl w6.heap.size w6)
  clear FV DW K6
  obtain ⟨⟨⟨f0, f1, f2⟩, _⟩, _⟩ := FA.out _ M0.out
  go_upto_region 12 with (first
    | (have _g := M2; clear _g; go_at_call 20; refine (HM.out _ _ _ _ _ (FA.out _ M2.out).2.1 (FA.out _ M2.out).2.2).mono ?_; rintro e v3 ⟨rfl, hb⟩; have M3 := hidT (M2.out.trans (hb.mono M2.out.size)); clear hb f0 f1 f2; obtain ⟨⟨⟨f0, f1, f2⟩, _⟩, _⟩ := FA.out _ M3.out)
    | (have _g := M1; clear _g; go_at_call 14; refine (OF.out.go _).mono ?_; rintro e v2 ⟨rfl, hb⟩; have M2 := hidT (M1.out.trans (hb.mono M1.out.size)); clear hb f0 f1 f2; obtain ⟨⟨⟨f0, f1, f2⟩, _⟩, _⟩ := FA.out _ M2.out)
    | (have _g := M0; clear _g; go_at_call 20; refine (HM1.out _ _ _ (FA.out _ M0.out).2.1).mono ?_; rintro e v1 ⟨rfl, hb⟩; have M1 := hidT (M0.out.trans (hb.mono M0.out.size)); clear hb f0 f1 f2; obtain ⟨⟨⟨f0, f1, f2⟩, _⟩, _⟩ := FA.out _ M1.out))
  clear f0 f1 f2
  have K := M3
  clear M3
  obtain ⟨c1', c0'⟩ := (FA.out _ K.out).1.2
  go_region_held3 (fun w => w.cell? ⟨qc, 0, none⟩ = some (.int .u64 (v.1 : Int)) ∧ w.cell? ⟨qc, 1, none⟩ = some (.int .u64 (v.2 : Int))) (first | (go_keep; done) | (exact ⟨c1', c0'⟩)) (first | (go_at_call 27; refine (HD.out _ _ _ _ _ (FA.out _ (by first | exact K.out | exact K.out.drew)).2.1 (FA.out _ (by first | exact K.out | exact K.out.drew)).2.2).mono ?_; rintro e w' ⟨rfl, hb⟩; have K'' := hidT (show Below w6.heap.size w6 w' from by first | exact K.out.trans (hb.mono K.out.size) | exact K.out.drew.trans (hb.mono K.out.drew.size)); clear K hb c1' c0'; have K := K''; clear K''; obtain ⟨c1', c0'⟩ := (FA.out _ K.out).1.2))
  all_goals
    generalize w' = u0 at K ⊢
    clear c1' c0'
    go_wp2_with (go_at_call 10; refine (AW.out.go _).mono ?_; rintro e u1 ⟨rfl, hb⟩; have J := hidT (K.out.trans (hb.mono K.out.size)); clear hb)
    go_ret
    exact ⟨by first | rfl | simp, DX.out.trans (J.out.mono DX.out.size)⟩
set_option linter.unusedSimpArgs false in
set_option linter.unusedVariables false in
set_option maxHeartbeats 8000000 in
set_option maxRecDepth 100000 in
theorem sd_bn (l F : Int) (hF : ¬ F = 0) (a1 a2 : Option Addr) (n1 c1 n2 c2 : Nat) (s t : List (Nat × Nat)) (a v : Nat × Nat) (W : World)
    (HF : Hid (∀ R : World, Below W.heap.size W R → Calls Try.prog 15 #[.int .i64 l, .slice (some ⟨R.heap.size, 0, none⟩) 2 2] (R.alloc (Obj.cells #[.slice a1 n1 c1, .slice a2 n2 c2] 25)) fun e w' => e = .returned (.bool true) ∧ Below R.heap.size R w'))
    (HL : Hid (∀ w, Below W.heap.size W w → Calls Try.prog 24 #[.int .i64 l, .slice a1 n1 c1, .agg #[.int .u64 (a.1 : Int), .int .u64 (a.2 : Int)]] w fun e w' => e = .returned (.tuple #[.slice none 0 0, .int .i64 5]) ∧ Below w.heap.size w w'))
    (HG : Hid (∀ w, Below W.heap.size W w → Calls Try.prog 25 #[.int .i64 l, .slice a1 n1 c1, .agg #[.int .u64 (a.1 : Int), .int .u64 (a.2 : Int)]] w fun e w' => e = .returned (.tuple #[.slice none 0 0, .int .i64 5]) ∧ Below w.heap.size w w'))
    (HO : Hid (∀ w, Below W.heap.size W w → Calls Try.prog 26 #[.int .i64 l, .slice a1 n1 c1, .slice a2 n2 c2] w fun e w' => e = .returned (.tuple #[.agg #[.int .u64 (v.1 : Int), .int .u64 (v.2 : Int)], .int .i64 F]) ∧ Below w.heap.size w w'))
    (HR1 : Hid (∀ w, Below W.heap.size W w → Calls Try.prog 19 #[.slice a1 n1 c1] w fun e w' => ∃ a' cap', e = .returned (.slice a' n1 cap') ∧ ERow w' a' s ∧ Below w.heap.size w w'))
    (HR2 : Hid (∀ w, Below W.heap.size W w → Calls Try.prog 19 #[.slice a2 n2 c2] w fun e w' => ∃ a' cap', e = .returned (.slice a' n2 cap') ∧ ERow w' a' t ∧ Below w.heap.size w w'))
    (HM : Hid (∀ w (a b : Option Addr) (c d : Nat), ERow w a s → ERow w b t → Calls Try.prog 20 #[.int .i64 l, .slice a n1 c, .slice b n2 d] w fun e w' => e = .returned (.int .i64 F) ∧ Below w.heap.size w w'))
    (HM1 : Hid (∀ w (a : Option Addr) (c : Nat), ERow w a s → Calls Try.prog 20 #[.int .i64 l, .slice a n1 c, .slice a n1 c] w fun e w' => e = .returned (.int .i64 0) ∧ Below w.heap.size w w'))
    (OF : Hid (Ret 14 #[.int .i64 l, .agg #[.int .u64 (a.1 : Int), .int .u64 (a.2 : Int)]] (.bool false))) :
    Calls Try.prog 5 #[.int .i64 l, .slice a1 n1 c1, .agg #[.int .u64 (a.1 : Int), .int .u64 (a.2 : Int), .slice a2 n2 c2]] W fun e w' => e = .returned (.bool true) ∧ Below W.heap.size W w' := by
  have hF' : (F == 0) = false := by rw [beq_eq_false_iff_ne]; exact hF
  have AW := hidT awake19
  obtain ⟨W1, hW1⟩ : ∃ x, x = W.alloc (Obj.cells #[.int .u64 (a.1 : Int), .int .u64 (a.2 : Int), .slice a2 n2 c2] 48) := ⟨_, rfl⟩
  have D0 := hidT (show Below W.heap.size W W1 from hW1 ▸ (Below.refl _ _).alloc (Nat.le_refl _) _)
  have hs0 : W1.heap.size = W.heap.size + 1 := by rw [hW1]; simp
  have A0 : W1.cell? ⟨W.heap.size, 0, none⟩ = some (.int .u64 (a.1 : Int)) ∧ W1.cell? ⟨W.heap.size, 1, none⟩ = some (.int .u64 (a.2 : Int)) ∧ W1.cell? ⟨W.heap.size, 2, none⟩ = some (.slice a2 n2 c2) := by subst hW1; exact ⟨by simp [go_sem], by simp [go_sem], by simp [go_sem]⟩
  have CA := hidT (fun w (hb : Below W1.heap.size W1 w) => show w.cell? ⟨W.heap.size, 0, none⟩ = some (.int .u64 (a.1 : Int)) ∧ w.cell? ⟨W.heap.size, 1, none⟩ = some (.int .u64 (a.2 : Int)) ∧ w.cell? ⟨W.heap.size, 2, none⟩ = some (.slice a2 n2 c2) from ⟨keepc hb A0.1, keepc hb A0.2.1, keepc hb A0.2.2⟩)
  have LW := hidT (show W.heap.size < W1.heap.size from by rw [hs0]; omega)
  clear hs0
  obtain ⟨f0, f1, f2⟩ := A0
  go_enter Try.func5, Try.ntmps5
  go_upto_region 1 with fail
  rw [← hW1]
  clear hW1
  go_upto_region 6 with (first
    | (go_at_call 26; refine (HO.out _ (D0.out.trans (K3.out.1.mono D0.out.size))).mono ?_; rintro e w4 ⟨rfl, hb⟩; have K4 := hidT (And.intro (K3.out.1.trans (hb.mono K3.out.1.size)) trivial); clear hb f0 f1 f2; obtain ⟨f0, f1, f2⟩ := CA.out _ K4.out.1)
    | (go_at_call 25; refine (HG.out _ (D0.out.trans (K2.out.1.mono D0.out.size))).mono ?_; rintro e w3 ⟨rfl, hb⟩; have K3 := hidT (And.intro (K2.out.1.trans (hb.mono K2.out.1.size)) trivial); clear hb f0 f1 f2; obtain ⟨f0, f1, f2⟩ := CA.out _ K3.out.1)
    | (go_at_call 24; refine (HL.out _ (D0.out.trans (K1.out.mono D0.out.size))).mono ?_; rintro e w2 ⟨rfl, hb⟩; have K2 := hidT (And.intro (K1.out.trans (hb.mono K1.out.size)) trivial); clear hb f0 f1 f2; obtain ⟨f0, f1, f2⟩ := CA.out _ K2.out.1)
    | (go_at_call 15; refine (HF.out W1 D0.out).mono ?_; rintro e w1 ⟨rfl, hb1⟩; have K1 := hidT hb1; clear hb1 f0 f1 f2; obtain ⟨f0, f1, f2⟩ := CA.out _ K1.out))
  obtain ⟨V, hV⟩ : ∃ x, x = w4.alloc (Obj.cells #[.int .u64 (v.1 : Int), .int .u64 (v.2 : Int)] 24) := ⟨_, rfl⟩
  have D4 := hidT (show Below w4.heap.size w4 V from hV ▸ (Below.refl _ _).alloc (Nat.le_refl _) _)
  have B4 : El V w4.heap.size v.1 v.2 := hV ▸ El.newP w4 v _
  rw [← hV]
  clear hV f0 f1 f2
  generalize w4.heap.size = qc at B4 ⊢
  have DV := hidT (show Below W1.heap.size W1 V from K4.out.1.trans (D4.out.mono K4.out.1.size))
  have FV := hidT (fun w (hb : Below V.heap.size V w) => show (w.cell? ⟨W.heap.size, 0, none⟩ = some (.int .u64 (a.1 : Int)) ∧ w.cell? ⟨W.heap.size, 1, none⟩ = some (.int .u64 (a.2 : Int)) ∧ w.cell? ⟨W.heap.size, 2, none⟩ = some (.slice a2 n2 c2)) ∧ El w qc v.1 v.2 from ⟨CA.out _ (DV.out.trans (hb.mono DV.out.size)), B4.below hb⟩)
  have DW := hidT (show Below W.heap.size W V from D0.out.trans (DV.out.mono D0.out.size))
  clear B4 D4 K4 CA DV D0 LW
  refine wp_region_noPanic ?_
  refine wp_region_held_drew (S := fun w => w.cell? ⟨W.heap.size, 0, none⟩ = some (.int .u64 (a.1 : Int)) ∧ w.cell? ⟨W.heap.size, 1, none⟩ = some (.int .u64 (a.2 : Int)) ∧ w.cell? ⟨W.heap.size, 2, none⟩ = some (.slice a2 n2 c2)) (by kernel_rfl) ((FV.out _ (Below.refl _ _).drew).1) (fun hHeld => ?_)
  refine wpAnyH_take (i := 0) (oi := _) (v := ?_) rfl (by kernel_rfl) (by kernel_rfl) (by kernel_rfl) (fun _ _ _ h => h) (Or.inl ⟨by rfl, ?_⟩) (by assumption) ?_
  rotate_left
  · ((intro w hSw; (try dsimp only at hSw); go_simp) <;> (try with_reducible rfl))
  show wpAnyH _ _ _ _ _ _ _ (Act.put _ (some 50) _) _
  simp only [Act.put, List.setIfInBounds_toArray, List.set_cons_succ, List.set_cons_zero]
  refine wpAnyH_take (i := 2) (oi := _) (v := ?_) rfl (by kernel_rfl) (by kernel_rfl) (by kernel_rfl) (fun _ _ _ h => h) (Or.inl ⟨by rfl, ?_⟩) (by assumption) ?_
  rotate_left
  · ((intro w hSw; (try dsimp only at hSw); go_simp) <;> (try with_reducible rfl))
  show wpAnyH _ _ _ _ _ _ _ (Act.put _ (some 52) _) _
  simp only [Act.put, List.setIfInBounds_toArray, List.set_cons_succ, List.set_cons_zero]
  refine wpAnyH_take (i := 3) (oi := _) (v := ?_) rfl (by kernel_rfl) (by kernel_rfl) (by kernel_rfl) (fun _ _ _ h => h) (Or.inl ⟨by rfl, ?_⟩) (by assumption) ?_
  rotate_left
  · ((intro w hSw; (try dsimp only at hSw); go_simp) <;> (try with_reducible rfl))
  show wpAnyH _ _ _ _ _ _ _ (Act.put _ (some 53) _) _
  simp only [Act.put, List.setIfInBounds_toArray, List.set_cons_succ, List.set_cons_zero]
  refine wpAnyH_ready (rs := [1]) (by kernel_rfl) (by simp) ?_
  refine AllReadyH.cons (o := _) rfl (fun KK hKK => ?_) AllReadyH.nil
  go_simp
  (go_at_call 19; refine (HR1.out _ DW.out.drew).mono ?_; rintro e w5 ⟨ax, cx, rfl, hr, hb⟩)
  have K5 := hidT (show Below V.heap.size V w5 ∧ ERow w5 ax s from ⟨(Below.refl _ _).drew.trans hb, hr⟩)
  clear hb hr
  refine hKK.out _ _ ?_ (fun hHeld => ?_)
  · exact (FV.out _ K5.out.1).1
  clear hKK KK
  try simp only [Act.put]
  refine wpAnyH_ready (rs := [4]) (by kernel_rfl) (by simp) ?_
  refine AllReadyH.cons (o := _) rfl (fun KK hKK => ?_) AllReadyH.nil
  go_simp
  (go_at_call 19; refine (HR2.out _ (DW.out.trans (K5.out.1.mono DW.out.size))).mono ?_; rintro e w6 ⟨ay, cy, rfl, hr, hb⟩)
  have K6 := hidT (show Below V.heap.size V w6 ∧ ERow w6 ax s ∧ ERow w6 ay t from ⟨K5.out.1.trans (hb.mono K5.out.1.size), K5.out.2.below hb, hr⟩)
  clear hb hr K5
  refine hKK.out _ _ ?_ (fun hHeld => ?_)
  · exact (FV.out _ K6.out.1).1
  clear hKK KK
  try simp only [Act.put]
  refine wpAnyH_take (i := 5) (oi := _) (v := ?_) rfl (by kernel_rfl) (by kernel_rfl) (by kernel_rfl) (fun _ _ _ h => h) (Or.inl ⟨by rfl, ?_⟩) (by assumption) ?_
  rotate_left
  · ((intro w hSw; (try dsimp only at hSw); go_simp) <;> (try with_reducible rfl))
  show wpAnyH _ _ _ _ _ _ _ (Act.put _ (some 13) _) _
  simp only [Act.put, List.setIfInBounds_toArray, List.set_cons_succ, List.set_cons_zero]
  refine wpAnyH_take (i := 6) (oi := _) (v := ?_) rfl (by kernel_rfl) (by kernel_rfl) (by kernel_rfl) (fun _ _ _ h => h) (Or.inl ⟨by rfl, ?_⟩) (by assumption) ?_
  rotate_left
  · ((intro w hSw; (try dsimp only at hSw); go_simp) <;> (try with_reducible rfl))
  show wpAnyH _ _ _ _ _ _ _ (Act.put _ (some 14) _) _
  simp only [Act.put, List.setIfInBounds_toArray, List.set_cons_succ, List.set_cons_zero]
  refine wpAnyH_done (by kernel_rfl) ?_ _
  refine NoPanic.normal ?_
  have FA := hidT (fun w (hb : Below w6.heap.size w6 w) => show ((w.cell? ⟨W.heap.size, 0, none⟩ = some (.int .u64 (a.1 : Int)) ∧ w.cell? ⟨W.heap.size, 1, none⟩ = some (.int .u64 (a.2 : Int)) ∧ w.cell? ⟨W.heap.size, 2, none⟩ = some (.slice a2 n2 c2)) ∧ El w qc v.1 v.2) ∧ ERow w ax s ∧ ERow w ay t from ⟨FV.out _ (K6.out.1.trans (hb.mono K6.out.1.size)), K6.out.2.1.below hb, K6.out.2.2.below hb⟩)
  have DX := hidT (show Below W.heap.size W w6 from DW.out.trans (K6.out.1.mono DW.out.size))
  have M0 := hidT (Below.refl w6.heap.size w6)
  clear FV DW K6
  obtain ⟨⟨⟨f0, f1, f2⟩, _⟩, _⟩ := FA.out _ M0.out
  go_upto_region 12 with (first
    | (have _g := M2; clear _g; go_at_call 20; refine (HM.out _ _ _ _ _ (FA.out _ M2.out).2.1 (FA.out _ M2.out).2.2).mono ?_; rintro e v3 ⟨rfl, hb⟩; have M3 := hidT (M2.out.trans (hb.mono M2.out.size)); clear hb f0 f1 f2; obtain ⟨⟨⟨f0, f1, f2⟩, _⟩, _⟩ := FA.out _ M3.out)
    | (have _g := M1; clear _g; go_at_call 14; refine (OF.out.go _).mono ?_; rintro e v2 ⟨rfl, hb⟩; have M2 := hidT (M1.out.trans (hb.mono M1.out.size)); clear hb f0 f1 f2; obtain ⟨⟨⟨f0, f1, f2⟩, _⟩, _⟩ := FA.out _ M2.out)
    | (have _g := M0; clear _g; go_at_call 20; refine (HM1.out _ _ _ (FA.out _ M0.out).2.1).mono ?_; rintro e v1 ⟨rfl, hb⟩; have M1 := hidT (M0.out.trans (hb.mono M0.out.size)); clear hb f0 f1 f2; obtain ⟨⟨⟨f0, f1, f2⟩, _⟩, _⟩ := FA.out _ M1.out))
  clear f0 f1 f2
  go_quiet (fail)
  rename_i nq
  have K := hidT (below_drewV M3.out nq)
  clear M3
  generalize v3.drewN nq = u0 at K ⊢
  go_wp2_with (go_at_call 10; refine (AW.out.go _).mono ?_; rintro e u1 ⟨rfl, hb⟩; have J := hidT (K.out.trans (hb.mono K.out.size)); clear hb)
  go_ret
  exact ⟨by first | rfl | simp, DX.out.trans (J.out.mono DX.out.size)⟩
set_option linter.unusedSimpArgs false in
set_option linter.unusedVariables false in
set_option maxHeartbeats 8000000 in
set_option maxRecDepth 100000 in
theorem sd_on (l F : Int) (hF : ¬ F = 0) (a1 a2 : Option Addr) (n1 c1 n2 c2 : Nat) (s t : List (Nat × Nat)) (p q : List (Nat × Nat)) (n0 : 0 < n1) (hs' : s.length = n1) (hp' : p.length = n1) (hq' : q.length = n1) (hn : n1 ≤ 128) (a v : Nat × Nat) (W : World)
    (HF : Hid (∀ R : World, Below W.heap.size W R → Calls Try.prog 15 #[.int .i64 l, .slice (some ⟨R.heap.size, 0, none⟩) 2 2] (R.alloc (Obj.cells #[.slice a1 n1 c1, .slice a2 n2 c2] 25)) fun e w' => e = .returned (.bool true) ∧ Below R.heap.size R w'))
    (HL : Hid (∀ w, Below W.heap.size W w → Calls Try.prog 24 #[.int .i64 l, .slice a1 n1 c1, .agg #[.int .u64 (a.1 : Int), .int .u64 (a.2 : Int)]] w fun e w' => ∃ g, e = .returned (.tuple #[.slice (some ⟨g, 0, none⟩) n1 n1, .int .i64 0]) ∧ ERow w' (some ⟨g, 0, none⟩) p ∧ Below w.heap.size w w'))
    (HG : Hid (∀ w, Below W.heap.size W w → Calls Try.prog 25 #[.int .i64 l, .slice a1 n1 c1, .agg #[.int .u64 (a.1 : Int), .int .u64 (a.2 : Int)]] w fun e w' => ∃ g, e = .returned (.tuple #[.slice (some ⟨g, 0, none⟩) n1 n1, .int .i64 0]) ∧ ERow w' (some ⟨g, 0, none⟩) q ∧ Below w.heap.size w w'))
    (HO : Hid (∀ w, Below W.heap.size W w → Calls Try.prog 26 #[.int .i64 l, .slice a1 n1 c1, .slice a2 n2 c2] w fun e w' => e = .returned (.tuple #[.agg #[.int .u64 (v.1 : Int), .int .u64 (v.2 : Int)], .int .i64 F]) ∧ Below w.heap.size w w'))
    (HR1 : Hid (∀ w, Below W.heap.size W w → Calls Try.prog 19 #[.slice a1 n1 c1] w fun e w' => ∃ a' cap', e = .returned (.slice a' n1 cap') ∧ ERow w' a' s ∧ Below w.heap.size w w'))
    (HR2 : Hid (∀ w, Below W.heap.size W w → Calls Try.prog 19 #[.slice a2 n2 c2] w fun e w' => ∃ a' cap', e = .returned (.slice a' n2 cap') ∧ ERow w' a' t ∧ Below w.heap.size w w'))
    (HM : Hid (∀ w (a b : Option Addr) (c d : Nat), ERow w a s → ERow w b t → Calls Try.prog 20 #[.int .i64 l, .slice a n1 c, .slice b n2 d] w fun e w' => e = .returned (.int .i64 F) ∧ Below w.heap.size w w'))
    (HM1 : Hid (∀ w (a : Option Addr) (c : Nat), ERow w a s → Calls Try.prog 20 #[.int .i64 l, .slice a n1 c, .slice a n1 c] w fun e w' => e = .returned (.int .i64 0) ∧ Below w.heap.size w w'))
    (OF : Hid (Ret 14 #[.int .i64 l, .agg #[.int .u64 (a.1 : Int), .int .u64 (a.2 : Int)]] (.bool true)))
    (PL : Hid (∀ w, Calls Try.prog 13 #[.int .i64 l, .agg #[.int .u64 (a.1 : Int), .int .u64 (a.2 : Int)], .agg #[.int .u64 0, .int .u64 1]] w fun e w' => ∃ g c : Nat, e = .returned (.slice (some ⟨g, 0, none⟩) n1 c) ∧ ERow w' (some ⟨g, 0, none⟩) (pairv n1 a (0, 1)) ∧ Below w.heap.size w w'))
    (TL : Hid (∀ w (g f c g2 f2 d : Nat), ERow w (some ⟨g, f, none⟩) s → ERow w (some ⟨g2, f2, none⟩) (pairv n1 a (0, 1)) → Calls Try.prog 23 #[.int .i64 l, .slice (some ⟨g, f, none⟩) n1 c, .slice (some ⟨g2, f2, none⟩) n1 d] w fun e w' => ∃ g c : Nat, e = .returned (.slice (some ⟨g, 0, none⟩) n1 c) ∧ ERow w' (some ⟨g, 0, none⟩) p ∧ Below w.heap.size w w'))
    (PR : Hid (∀ w, Calls Try.prog 13 #[.int .i64 l, .agg #[.int .u64 0, .int .u64 1], .agg #[.int .u64 (a.1 : Int), .int .u64 (a.2 : Int)]] w fun e w' => ∃ g c : Nat, e = .returned (.slice (some ⟨g, 0, none⟩) n1 c) ∧ ERow w' (some ⟨g, 0, none⟩) (pairv n1 (0, 1) a) ∧ Below w.heap.size w w'))
    (TR : Hid (∀ w (g f c g2 f2 d : Nat), ERow w (some ⟨g, f, none⟩) s → ERow w (some ⟨g2, f2, none⟩) (pairv n1 (0, 1) a) → Calls Try.prog 23 #[.int .i64 l, .slice (some ⟨g, f, none⟩) n1 c, .slice (some ⟨g2, f2, none⟩) n1 d] w fun e w' => ∃ g c : Nat, e = .returned (.slice (some ⟨g, 0, none⟩) n1 c) ∧ ERow w' (some ⟨g, 0, none⟩) q ∧ Below w.heap.size w w')) :
    Calls Try.prog 5 #[.int .i64 l, .slice a1 n1 c1, .agg #[.int .u64 (a.1 : Int), .int .u64 (a.2 : Int), .slice a2 n2 c2]] W fun e w' => e = .returned (.bool true) ∧ Below W.heap.size W w' := by
  have hF' : (F == 0) = false := by rw [beq_eq_false_iff_ne]; exact hF
  have SM := hidT (fun (x : List (Nat × Nat)) (hx : x.length = n1) (a b : Option Addr) (c d : Nat) (w : World) (h1 : ERow w a x) (h2 : ERow w b x) => show Calls Try.prog 12 #[.slice a n1 c, .slice b n1 d] w fun e w' => e = .returned (.bool true) ∧ Below w.heap.size w w' from by
    have := same_rows a b c d x (by omega) w h1 h2
    rw [hx] at this
    exact this)
  have LN := hidT (And.intro hp' hq')
  have NE := hidT (fun (w : World) (a : Option Addr) (h : ERow w a s) => show ∃ g f : Nat, a = some ⟨g, f, none⟩ from by
    obtain ⟨g, f, e, _⟩ := h.cells 0 (by omega)
    exact ⟨g, f, e⟩)
  clear hs' hp' hq'
  have AW := hidT awake19
  obtain ⟨W1, hW1⟩ : ∃ x, x = W.alloc (Obj.cells #[.int .u64 (a.1 : Int), .int .u64 (a.2 : Int), .slice a2 n2 c2] 48) := ⟨_, rfl⟩
  have D0 := hidT (show Below W.heap.size W W1 from hW1 ▸ (Below.refl _ _).alloc (Nat.le_refl _) _)
  have hs0 : W1.heap.size = W.heap.size + 1 := by rw [hW1]; simp
  have A0 : W1.cell? ⟨W.heap.size, 0, none⟩ = some (.int .u64 (a.1 : Int)) ∧ W1.cell? ⟨W.heap.size, 1, none⟩ = some (.int .u64 (a.2 : Int)) ∧ W1.cell? ⟨W.heap.size, 2, none⟩ = some (.slice a2 n2 c2) := by subst hW1; exact ⟨by simp [go_sem], by simp [go_sem], by simp [go_sem]⟩
  have CA := hidT (fun w (hb : Below W1.heap.size W1 w) => show w.cell? ⟨W.heap.size, 0, none⟩ = some (.int .u64 (a.1 : Int)) ∧ w.cell? ⟨W.heap.size, 1, none⟩ = some (.int .u64 (a.2 : Int)) ∧ w.cell? ⟨W.heap.size, 2, none⟩ = some (.slice a2 n2 c2) from ⟨keepc hb A0.1, keepc hb A0.2.1, keepc hb A0.2.2⟩)
  have LW := hidT (show W.heap.size < W1.heap.size from by rw [hs0]; omega)
  clear hs0
  obtain ⟨f0, f1, f2⟩ := A0
  go_enter Try.func5, Try.ntmps5
  go_upto_region 1 with fail
  rw [← hW1]
  clear hW1
  go_upto_region 6 with (first
    | (go_at_call 26; refine (HO.out _ (D0.out.trans (K3.out.1.mono D0.out.size))).mono ?_; rintro e w4 ⟨rfl, hb⟩; have K4 := hidT (And.intro (K3.out.1.trans (hb.mono K3.out.1.size)) (And.intro (K3.out.2.1.below hb) (K3.out.2.2.below hb))); clear hb f0 f1 f2; obtain ⟨f0, f1, f2⟩ := CA.out _ K4.out.1)
    | (go_at_call 25; refine (HG.out _ (D0.out.trans (K2.out.1.mono D0.out.size))).mono ?_; rintro e w3 ⟨gb, rfl, hr, hb⟩; have K3 := hidT (And.intro (K2.out.1.trans (hb.mono K2.out.1.size)) (And.intro (K2.out.2.below hb) hr)); clear hb hr f0 f1 f2; obtain ⟨f0, f1, f2⟩ := CA.out _ K3.out.1)
    | (go_at_call 24; refine (HL.out _ (D0.out.trans (K1.out.mono D0.out.size))).mono ?_; rintro e w2 ⟨ga, rfl, hr, hb⟩; have K2 := hidT (And.intro (K1.out.trans (hb.mono K1.out.size)) hr); clear hb hr f0 f1 f2; obtain ⟨f0, f1, f2⟩ := CA.out _ K2.out.1)
    | (go_at_call 15; refine (HF.out W1 D0.out).mono ?_; rintro e w1 ⟨rfl, hb1⟩; have K1 := hidT hb1; clear hb1 f0 f1 f2; obtain ⟨f0, f1, f2⟩ := CA.out _ K1.out))
  obtain ⟨V, hV⟩ : ∃ x, x = w4.alloc (Obj.cells #[.int .u64 (v.1 : Int), .int .u64 (v.2 : Int)] 24) := ⟨_, rfl⟩
  have D4 := hidT (show Below w4.heap.size w4 V from hV ▸ (Below.refl _ _).alloc (Nat.le_refl _) _)
  have B4 : El V w4.heap.size v.1 v.2 := hV ▸ El.newP w4 v _
  rw [← hV]
  clear hV f0 f1 f2
  generalize w4.heap.size = qc at B4 ⊢
  have DV := hidT (show Below W1.heap.size W1 V from K4.out.1.trans (D4.out.mono K4.out.1.size))
  have FV := hidT (fun w (hb : Below V.heap.size V w) => show (w.cell? ⟨W.heap.size, 0, none⟩ = some (.int .u64 (a.1 : Int)) ∧ w.cell? ⟨W.heap.size, 1, none⟩ = some (.int .u64 (a.2 : Int)) ∧ w.cell? ⟨W.heap.size, 2, none⟩ = some (.slice a2 n2 c2)) ∧ El w qc v.1 v.2 ∧ ERow w (some ⟨ga, 0, none⟩) p ∧ ERow w (some ⟨gb, 0, none⟩) q from ⟨CA.out _ (DV.out.trans (hb.mono DV.out.size)), B4.below hb, (K4.out.2.1.below D4.out).below hb, (K4.out.2.2.below D4.out).below hb⟩)
  have DW := hidT (show Below W.heap.size W V from D0.out.trans (DV.out.mono D0.out.size))
  clear B4 D4 K4 CA DV D0 LW
  refine wp_region_noPanic ?_
  refine wp_region_held_drew (S := fun w => w.cell? ⟨W.heap.size, 0, none⟩ = some (.int .u64 (a.1 : Int)) ∧ w.cell? ⟨W.heap.size, 1, none⟩ = some (.int .u64 (a.2 : Int)) ∧ w.cell? ⟨W.heap.size, 2, none⟩ = some (.slice a2 n2 c2)) (by kernel_rfl) ((FV.out _ (Below.refl _ _).drew).1) (fun hHeld => ?_)
  refine wpAnyH_take (i := 0) (oi := _) (v := ?_) rfl (by kernel_rfl) (by kernel_rfl) (by kernel_rfl) (fun _ _ _ h => h) (Or.inl ⟨by rfl, ?_⟩) (by assumption) ?_
  rotate_left
  · ((intro w hSw; (try dsimp only at hSw); go_simp) <;> (try with_reducible rfl))
  show wpAnyH _ _ _ _ _ _ _ (Act.put _ (some 50) _) _
  simp only [Act.put, List.setIfInBounds_toArray, List.set_cons_succ, List.set_cons_zero]
  refine wpAnyH_take (i := 2) (oi := _) (v := ?_) rfl (by kernel_rfl) (by kernel_rfl) (by kernel_rfl) (fun _ _ _ h => h) (Or.inl ⟨by rfl, ?_⟩) (by assumption) ?_
  rotate_left
  · ((intro w hSw; (try dsimp only at hSw); go_simp) <;> (try with_reducible rfl))
  show wpAnyH _ _ _ _ _ _ _ (Act.put _ (some 52) _) _
  simp only [Act.put, List.setIfInBounds_toArray, List.set_cons_succ, List.set_cons_zero]
  refine wpAnyH_take (i := 3) (oi := _) (v := ?_) rfl (by kernel_rfl) (by kernel_rfl) (by kernel_rfl) (fun _ _ _ h => h) (Or.inl ⟨by rfl, ?_⟩) (by assumption) ?_
  rotate_left
  · ((intro w hSw; (try dsimp only at hSw); go_simp) <;> (try with_reducible rfl))
  show wpAnyH _ _ _ _ _ _ _ (Act.put _ (some 53) _) _
  simp only [Act.put, List.setIfInBounds_toArray, List.set_cons_succ, List.set_cons_zero]
  refine wpAnyH_ready (rs := [1]) (by kernel_rfl) (by simp) ?_
  refine AllReadyH.cons (o := _) rfl (fun KK hKK => ?_) AllReadyH.nil
  go_simp
  (go_at_call 19; refine (HR1.out _ DW.out.drew).mono ?_; rintro e w5 ⟨ax, cx, rfl, hr, hb⟩)
  have K5 := hidT (show Below V.heap.size V w5 ∧ ERow w5 ax s from ⟨(Below.refl _ _).drew.trans hb, hr⟩)
  clear hb hr
  refine hKK.out _ _ ?_ (fun hHeld => ?_)
  · exact (FV.out _ K5.out.1).1
  clear hKK KK
  try simp only [Act.put]
  refine wpAnyH_ready (rs := [4]) (by kernel_rfl) (by simp) ?_
  refine AllReadyH.cons (o := _) rfl (fun KK hKK => ?_) AllReadyH.nil
  go_simp
  (go_at_call 19; refine (HR2.out _ (DW.out.trans (K5.out.1.mono DW.out.size))).mono ?_; rintro e w6 ⟨ay, cy, rfl, hr, hb⟩)
  have K6 := hidT (show Below V.heap.size V w6 ∧ ERow w6 ax s ∧ ERow w6 ay t from ⟨K5.out.1.trans (hb.mono K5.out.1.size), K5.out.2.below hb, hr⟩)
  clear hb hr K5
  refine hKK.out _ _ ?_ (fun hHeld => ?_)
  · exact (FV.out _ K6.out.1).1
  clear hKK KK
  try simp only [Act.put]
  refine wpAnyH_take (i := 5) (oi := _) (v := ?_) rfl (by kernel_rfl) (by kernel_rfl) (by kernel_rfl) (fun _ _ _ h => h) (Or.inl ⟨by rfl, ?_⟩) (by assumption) ?_
  rotate_left
  · ((intro w hSw; (try dsimp only at hSw); go_simp) <;> (try with_reducible rfl))
  show wpAnyH _ _ _ _ _ _ _ (Act.put _ (some 13) _) _
  simp only [Act.put, List.setIfInBounds_toArray, List.set_cons_succ, List.set_cons_zero]
  refine wpAnyH_take (i := 6) (oi := _) (v := ?_) rfl (by kernel_rfl) (by kernel_rfl) (by kernel_rfl) (fun _ _ _ h => h) (Or.inl ⟨by rfl, ?_⟩) (by assumption) ?_
  rotate_left
  · ((intro w hSw; (try dsimp only at hSw); go_simp) <;> (try with_reducible rfl))
  show wpAnyH _ _ _ _ _ _ _ (Act.put _ (some 14) _) _
  simp only [Act.put, List.setIfInBounds_toArray, List.set_cons_succ, List.set_cons_zero]
  refine wpAnyH_done (by kernel_rfl) ?_ _
  refine NoPanic.normal ?_
  obtain ⟨gx, fx, rfl⟩ := NE.out _ _ K6.out.2.1
  have FA := hidT (fun w (hb : Below w6.heap.size w6 w) => show ((w.cell? ⟨W.heap.size, 0, none⟩ = some (.int .u64 (a.1 : Int)) ∧ w.cell? ⟨W.heap.size, 1, none⟩ = some (.int .u64 (a.2 : Int)) ∧ w.cell? ⟨W.heap.size, 2, none⟩ = some (.slice a2 n2 c2)) ∧ El w qc v.1 v.2 ∧ ERow w (some ⟨ga, 0, none⟩) p ∧ ERow w (some ⟨gb, 0, none⟩) q) ∧ ERow w (some ⟨gx, fx, none⟩) s ∧ ERow w ay t from ⟨FV.out _ (K6.out.1.trans (hb.mono K6.out.1.size)), K6.out.2.1.below hb, K6.out.2.2.below hb⟩)
  have DX := hidT (show Below W.heap.size W w6 from DW.out.trans (K6.out.1.mono DW.out.size))
  have M0 := hidT (Below.refl w6.heap.size w6)
  clear FV DW K6
  obtain ⟨⟨⟨f0, f1, f2⟩, _⟩, _⟩ := FA.out _ M0.out
  go_upto_region 12 with (first
    | (have _g := M2; clear _g; go_at_call 20; refine (HM.out _ _ _ _ _ (FA.out _ M2.out).2.1 (FA.out _ M2.out).2.2).mono ?_; rintro e v3 ⟨rfl, hb⟩; have M3 := hidT (M2.out.trans (hb.mono M2.out.size)); clear hb f0 f1 f2; obtain ⟨⟨⟨f0, f1, f2⟩, _⟩, _⟩ := FA.out _ M3.out)
    | (have _g := M1; clear _g; go_at_call 14; refine (OF.out.go _).mono ?_; rintro e v2 ⟨rfl, hb⟩; have M2 := hidT (M1.out.trans (hb.mono M1.out.size)); clear hb f0 f1 f2; obtain ⟨⟨⟨f0, f1, f2⟩, _⟩, _⟩ := FA.out _ M2.out)
    | (have _g := M0; clear _g; go_at_call 20; refine (HM1.out _ _ _ (FA.out _ M0.out).2.1).mono ?_; rintro e v1 ⟨rfl, hb⟩; have M1 := hidT (M0.out.trans (hb.mono M0.out.size)); clear hb f0 f1 f2; obtain ⟨⟨⟨f0, f1, f2⟩, _⟩, _⟩ := FA.out _ M1.out))
  clear f0 f1 f2
  go_quiet (fail)
  rename_i nq
  have K := hidT (below_drewV M3.out nq)
  clear M3
  generalize v3.drewN nq = u0 at K ⊢
  obtain ⟨f0, f1, _⟩ := (FA.out _ (K.out.alloc K.out.size (Obj.cells #[.int .u64 0, .int .u64 1] 28))).1.1
  go_upto_region 18 with fail
  obtain ⟨U, hU⟩ : ∃ x, x = (u0.alloc (Obj.cells #[.int .u64 0, .int .u64 1] 28)).alloc (Obj.cells #[.int .u64 (a.1 : Int), .int .u64 (a.2 : Int)] 28) := ⟨_, rfl⟩
  have DU := hidT (show Below u0.heap.size u0 U from hU ▸ ((Below.refl _ _).alloc (Nat.le_refl _) _).alloc (by simp) _)
  have B7 : El U u0.heap.size 0 1 := by
    subst hU
    exact (El.newP u0 (0, 1) _).below ((Below.refl _ _).alloc (Nat.le_refl _) _)
  have B8 : El U (u0.heap.size + 1) a.1 a.2 := by
    subst hU
    have := El.newP (u0.alloc (Obj.cells #[.int .u64 0, .int .u64 1] 28)) a 28
    simpa using this
  rw [← hU]
  clear hU f0 f1
  generalize u0.heap.size = q7 at B7 B8 ⊢
  have D5 := hidT (K.out.trans (DU.out.mono K.out.size))
  have FB := hidT (fun w (hb : Below U.heap.size U w) => show (El w q7 0 1 ∧ El w (q7 + 1) a.1 a.2) ∧ ERow w (some ⟨ga, 0, none⟩) p ∧ ERow w (some ⟨gb, 0, none⟩) q ∧ ERow w (some ⟨gx, fx, none⟩) s from
    let h := FA.out _ (D5.out.trans (hb.mono D5.out.size))
    ⟨⟨B7.below hb, B8.below hb⟩, h.1.2.2.1, h.1.2.2.2, h.2.1⟩)
  have DY := hidT (DX.out.trans (D5.out.mono DX.out.size))
  have J0 := hidT (Below.refl U.heap.size U)
  clear B7 B8 FA K DU D5 DX
  obtain ⟨⟨⟨g1, g0⟩, ⟨h1, h0⟩⟩, _⟩ := FB.out _ J0.out
  go_wp2_with (first
    | (have _g := R6; clear _g; go_at_call 12; refine (SM.out q LN.out.2 _ _ _ _ _ (FB.out _ J6.out).2.2.1 R6.out).mono ?_; rintro e u7 ⟨rfl, hb⟩; have J7 := hidT (J6.out.trans (hb.mono J6.out.size)); clear g1 g0 h1 h0; obtain ⟨⟨⟨g1, g0⟩, ⟨h1, h0⟩⟩, _⟩ := FB.out _ J7.out; clear hb R6)
    | (have _g := R5; clear _g; go_at_call 23; refine (TR.out _ gx fx cx pp 0 cp (FB.out _ J5.out).2.2.2 R5.out).mono ?_; rintro e u6 ⟨pt, ct, rfl, hr, hb⟩; have J6 := hidT (J5.out.trans (hb.mono J5.out.size)); clear g1 g0 h1 h0; obtain ⟨⟨⟨g1, g0⟩, ⟨h1, h0⟩⟩, _⟩ := FB.out _ J6.out; have R6 := hidT hr; clear hb hr R5)
    | (have _g := J4; clear _g; go_at_call 13; refine (PR.out _).mono ?_; rintro e u5 ⟨pp, cp, rfl, hr, hb⟩; have J5 := hidT (J4.out.trans (hb.mono J4.out.size)); clear g1 g0 h1 h0; obtain ⟨⟨⟨g1, g0⟩, ⟨h1, h0⟩⟩, _⟩ := FB.out _ J5.out; have R5 := hidT hr; clear hb hr)
    | (have _g := R3; clear _g; go_at_call 12; refine (SM.out p LN.out.1 _ _ _ _ _ (FB.out _ J3.out).2.1 R3.out).mono ?_; rintro e u4 ⟨rfl, hb⟩; have J4 := hidT (J3.out.trans (hb.mono J3.out.size)); clear g1 g0 h1 h0; obtain ⟨⟨⟨g1, g0⟩, ⟨h1, h0⟩⟩, _⟩ := FB.out _ J4.out; clear hb R3)
    | (have _g := R2; clear _g; go_at_call 23; refine (TL.out _ gx fx cx pp 0 cp (FB.out _ J2.out).2.2.2 R2.out).mono ?_; rintro e u3 ⟨pt, ct, rfl, hr, hb⟩; have J3 := hidT (J2.out.trans (hb.mono J2.out.size)); clear g1 g0 h1 h0; obtain ⟨⟨⟨g1, g0⟩, ⟨h1, h0⟩⟩, _⟩ := FB.out _ J3.out; have R3 := hidT hr; clear hb hr R2)
    | (have _g := J1; clear _g; go_at_call 13; refine (PL.out _).mono ?_; rintro e u2 ⟨pp, cp, rfl, hr, hb⟩; have J2 := hidT (J1.out.trans (hb.mono J1.out.size)); clear g1 g0 h1 h0; obtain ⟨⟨⟨g1, g0⟩, ⟨h1, h0⟩⟩, _⟩ := FB.out _ J2.out; have R2 := hidT hr; clear hb hr)
    | (have _g := J0; clear _g; go_at_call 10; refine (AW.out.go _).mono ?_; rintro e u1 ⟨rfl, hb⟩; have J1 := hidT (J0.out.trans (hb.mono J0.out.size)); clear g1 g0 h1 h0; obtain ⟨⟨⟨g1, g0⟩, ⟨h1, h0⟩⟩, _⟩ := FB.out _ J1.out; clear hb))
  go_ret
  exact ⟨by first | rfl | simp, DY.out.trans (J7.out.mono DY.out.size)⟩
set_option linter.unusedSimpArgs false in
set_option linter.unusedVariables false in
set_option maxHeartbeats 8000000 in
set_option maxRecDepth 100000 in
theorem sd_oo (l : Int) (a1 a2 : Option Addr) (n1 c1 n2 c2 : Nat) (s t : List (Nat × Nat)) (p q : List (Nat × Nat)) (n0 : 0 < n1) (hs' : s.length = n1) (hp' : p.length = n1) (hq' : q.length = n1) (hn : n1 ≤ 128) (a v : Nat × Nat) (W : World)
    (HF : Hid (∀ R : World, Below W.heap.size W R → Calls Try.prog 15 #[.int .i64 l, .slice (some ⟨R.heap.size, 0, none⟩) 2 2] (R.alloc (Obj.cells #[.slice a1 n1 c1, .slice a2 n2 c2] 25)) fun e w' => e = .returned (.bool true) ∧ Below R.heap.size R w'))
    (HL : Hid (∀ w, Below W.heap.size W w → Calls Try.prog 24 #[.int .i64 l, .slice a1 n1 c1, .agg #[.int .u64 (a.1 : Int), .int .u64 (a.2 : Int)]] w fun e w' => ∃ g, e = .returned (.tuple #[.slice (some ⟨g, 0, none⟩) n1 n1, .int .i64 0]) ∧ ERow w' (some ⟨g, 0, none⟩) p ∧ Below w.heap.size w w'))
    (HG : Hid (∀ w, Below W.heap.size W w → Calls Try.prog 25 #[.int .i64 l, .slice a1 n1 c1, .agg #[.int .u64 (a.1 : Int), .int .u64 (a.2 : Int)]] w fun e w' => ∃ g, e = .returned (.tuple #[.slice (some ⟨g, 0, none⟩) n1 n1, .int .i64 0]) ∧ ERow w' (some ⟨g, 0, none⟩) q ∧ Below w.heap.size w w'))
    (HO : Hid (∀ w, Below W.heap.size W w → Calls Try.prog 26 #[.int .i64 l, .slice a1 n1 c1, .slice a2 n2 c2] w fun e w' => e = .returned (.tuple #[.agg #[.int .u64 (v.1 : Int), .int .u64 (v.2 : Int)], .int .i64 0]) ∧ Below w.heap.size w w'))
    (HR1 : Hid (∀ w, Below W.heap.size W w → Calls Try.prog 19 #[.slice a1 n1 c1] w fun e w' => ∃ a' cap', e = .returned (.slice a' n1 cap') ∧ ERow w' a' s ∧ Below w.heap.size w w'))
    (HR2 : Hid (∀ w, Below W.heap.size W w → Calls Try.prog 19 #[.slice a2 n2 c2] w fun e w' => ∃ a' cap', e = .returned (.slice a' n2 cap') ∧ ERow w' a' t ∧ Below w.heap.size w w'))
    (HM : Hid (∀ w (a b : Option Addr) (c d : Nat), ERow w a s → ERow w b t → Calls Try.prog 20 #[.int .i64 l, .slice a n1 c, .slice b n2 d] w fun e w' => e = .returned (.int .i64 0) ∧ Below w.heap.size w w'))
    (HM1 : Hid (∀ w (a : Option Addr) (c : Nat), ERow w a s → Calls Try.prog 20 #[.int .i64 l, .slice a n1 c, .slice a n1 c] w fun e w' => e = .returned (.int .i64 0) ∧ Below w.heap.size w w'))
    (OF : Hid (Ret 14 #[.int .i64 l, .agg #[.int .u64 (a.1 : Int), .int .u64 (a.2 : Int)]] (.bool true)))
    (HD : Hid (∀ w (a b : Option Addr) (c d : Nat), ERow w a s → ERow w b t → Calls Try.prog 27 #[.int .i64 l, .slice a n1 c, .slice b n2 d] w fun e w' => e = .returned (.agg #[.int .u64 (v.1 : Int), .int .u64 (v.2 : Int)]) ∧ Below w.heap.size w w'))
    (PL : Hid (∀ w, Calls Try.prog 13 #[.int .i64 l, .agg #[.int .u64 (a.1 : Int), .int .u64 (a.2 : Int)], .agg #[.int .u64 0, .int .u64 1]] w fun e w' => ∃ g c : Nat, e = .returned (.slice (some ⟨g, 0, none⟩) n1 c) ∧ ERow w' (some ⟨g, 0, none⟩) (pairv n1 a (0, 1)) ∧ Below w.heap.size w w'))
    (TL : Hid (∀ w (g f c g2 f2 d : Nat), ERow w (some ⟨g, f, none⟩) s → ERow w (some ⟨g2, f2, none⟩) (pairv n1 a (0, 1)) → Calls Try.prog 23 #[.int .i64 l, .slice (some ⟨g, f, none⟩) n1 c, .slice (some ⟨g2, f2, none⟩) n1 d] w fun e w' => ∃ g c : Nat, e = .returned (.slice (some ⟨g, 0, none⟩) n1 c) ∧ ERow w' (some ⟨g, 0, none⟩) p ∧ Below w.heap.size w w'))
    (PR : Hid (∀ w, Calls Try.prog 13 #[.int .i64 l, .agg #[.int .u64 0, .int .u64 1], .agg #[.int .u64 (a.1 : Int), .int .u64 (a.2 : Int)]] w fun e w' => ∃ g c : Nat, e = .returned (.slice (some ⟨g, 0, none⟩) n1 c) ∧ ERow w' (some ⟨g, 0, none⟩) (pairv n1 (0, 1) a) ∧ Below w.heap.size w w'))
    (TR : Hid (∀ w (g f c g2 f2 d : Nat), ERow w (some ⟨g, f, none⟩) s → ERow w (some ⟨g2, f2, none⟩) (pairv n1 (0, 1) a) → Calls Try.prog 23 #[.int .i64 l, .slice (some ⟨g, f, none⟩) n1 c, .slice (some ⟨g2, f2, none⟩) n1 d] w fun e w' => ∃ g c : Nat, e = .returned (.slice (some ⟨g, 0, none⟩) n1 c) ∧ ERow w' (some ⟨g, 0, none⟩) q ∧ Below w.heap.size w w')) :
    Calls Try.prog 5 #[.int .i64 l, .slice a1 n1 c1, .agg #[.int .u64 (a.1 : Int), .int .u64 (a.2 : Int), .slice a2 n2 c2]] W fun e w' => e = .returned (.bool true) ∧ Below W.heap.size W w' := by
  have SM := hidT (fun (x : List (Nat × Nat)) (hx : x.length = n1) (a b : Option Addr) (c d : Nat) (w : World) (h1 : ERow w a x) (h2 : ERow w b x) => show Calls Try.prog 12 #[.slice a n1 c, .slice b n1 d] w fun e w' => e = .returned (.bool true) ∧ Below w.heap.size w w' from by
    have := same_rows a b c d x (by omega) w h1 h2
    rw [hx] at this
    exact this)
  have LN := hidT (And.intro hp' hq')
  have NE := hidT (fun (w : World) (a : Option Addr) (h : ERow w a s) => show ∃ g f : Nat, a = some ⟨g, f, none⟩ from by
    obtain ⟨g, f, e, _⟩ := h.cells 0 (by omega)
    exact ⟨g, f, e⟩)
  clear hs' hp' hq'
  have AW := hidT awake19
  obtain ⟨W1, hW1⟩ : ∃ x, x = W.alloc (Obj.cells #[.int .u64 (a.1 : Int), .int .u64 (a.2 : Int), .slice a2 n2 c2] 48) := ⟨_, rfl⟩
  have D0 := hidT (show Below W.heap.size W W1 from hW1 ▸ (Below.refl _ _).alloc (Nat.le_refl _) _)
  have hs0 : W1.heap.size = W.heap.size + 1 := by rw [hW1]; simp
  have A0 : W1.cell? ⟨W.heap.size, 0, none⟩ = some (.int .u64 (a.1 : Int)) ∧ W1.cell? ⟨W.heap.size, 1, none⟩ = some (.int .u64 (a.2 : Int)) ∧ W1.cell? ⟨W.heap.size, 2, none⟩ = some (.slice a2 n2 c2) := by subst hW1; exact ⟨by simp [go_sem], by simp [go_sem], by simp [go_sem]⟩
  have CA := hidT (fun w (hb : Below W1.heap.size W1 w) => show w.cell? ⟨W.heap.size, 0, none⟩ = some (.int .u64 (a.1 : Int)) ∧ w.cell? ⟨W.heap.size, 1, none⟩ = some (.int .u64 (a.2 : Int)) ∧ w.cell? ⟨W.heap.size, 2, none⟩ = some (.slice a2 n2 c2) from ⟨keepc hb A0.1, keepc hb A0.2.1, keepc hb A0.2.2⟩)
  have LW := hidT (show W.heap.size < W1.heap.size from by rw [hs0]; omega)
  clear hs0
  obtain ⟨f0, f1, f2⟩ := A0
  go_enter Try.func5, Try.ntmps5
  go_upto_region 1 with fail
  rw [← hW1]
  clear hW1
  go_upto_region 6 with (first
    | (go_at_call 26; refine (HO.out _ (D0.out.trans (K3.out.1.mono D0.out.size))).mono ?_; rintro e w4 ⟨rfl, hb⟩; have K4 := hidT (And.intro (K3.out.1.trans (hb.mono K3.out.1.size)) (And.intro (K3.out.2.1.below hb) (K3.out.2.2.below hb))); clear hb f0 f1 f2; obtain ⟨f0, f1, f2⟩ := CA.out _ K4.out.1)
    | (go_at_call 25; refine (HG.out _ (D0.out.trans (K2.out.1.mono D0.out.size))).mono ?_; rintro e w3 ⟨gb, rfl, hr, hb⟩; have K3 := hidT (And.intro (K2.out.1.trans (hb.mono K2.out.1.size)) (And.intro (K2.out.2.below hb) hr)); clear hb hr f0 f1 f2; obtain ⟨f0, f1, f2⟩ := CA.out _ K3.out.1)
    | (go_at_call 24; refine (HL.out _ (D0.out.trans (K1.out.mono D0.out.size))).mono ?_; rintro e w2 ⟨ga, rfl, hr, hb⟩; have K2 := hidT (And.intro (K1.out.trans (hb.mono K1.out.size)) hr); clear hb hr f0 f1 f2; obtain ⟨f0, f1, f2⟩ := CA.out _ K2.out.1)
    | (go_at_call 15; refine (HF.out W1 D0.out).mono ?_; rintro e w1 ⟨rfl, hb1⟩; have K1 := hidT hb1; clear hb1 f0 f1 f2; obtain ⟨f0, f1, f2⟩ := CA.out _ K1.out))
  obtain ⟨V, hV⟩ : ∃ x, x = w4.alloc (Obj.cells #[.int .u64 (v.1 : Int), .int .u64 (v.2 : Int)] 24) := ⟨_, rfl⟩
  have D4 := hidT (show Below w4.heap.size w4 V from hV ▸ (Below.refl _ _).alloc (Nat.le_refl _) _)
  have B4 : El V w4.heap.size v.1 v.2 := hV ▸ El.newP w4 v _
  rw [← hV]
  clear hV f0 f1 f2
  generalize w4.heap.size = qc at B4 ⊢
  have DV := hidT (show Below W1.heap.size W1 V from K4.out.1.trans (D4.out.mono K4.out.1.size))
  have FV := hidT (fun w (hb : Below V.heap.size V w) => show (w.cell? ⟨W.heap.size, 0, none⟩ = some (.int .u64 (a.1 : Int)) ∧ w.cell? ⟨W.heap.size, 1, none⟩ = some (.int .u64 (a.2 : Int)) ∧ w.cell? ⟨W.heap.size, 2, none⟩ = some (.slice a2 n2 c2)) ∧ El w qc v.1 v.2 ∧ ERow w (some ⟨ga, 0, none⟩) p ∧ ERow w (some ⟨gb, 0, none⟩) q from ⟨CA.out _ (DV.out.trans (hb.mono DV.out.size)), B4.below hb, (K4.out.2.1.below D4.out).below hb, (K4.out.2.2.below D4.out).below hb⟩)
  have DW := hidT (show Below W.heap.size W V from D0.out.trans (DV.out.mono D0.out.size))
  clear B4 D4 K4 CA DV D0 LW
  refine wp_region_noPanic ?_
  refine wp_region_held_drew (S := fun w => w.cell? ⟨W.heap.size, 0, none⟩ = some (.int .u64 (a.1 : Int)) ∧ w.cell? ⟨W.heap.size, 1, none⟩ = some (.int .u64 (a.2 : Int)) ∧ w.cell? ⟨W.heap.size, 2, none⟩ = some (.slice a2 n2 c2)) (by kernel_rfl) ((FV.out _ (Below.refl _ _).drew).1) (fun hHeld => ?_)
  refine wpAnyH_take (i := 0) (oi := _) (v := ?_) rfl (by kernel_rfl) (by kernel_rfl) (by kernel_rfl) (fun _ _ _ h => h) (Or.inl ⟨by rfl, ?_⟩) (by assumption) ?_
  rotate_left
  · ((intro w hSw; (try dsimp only at hSw); go_simp) <;> (try with_reducible rfl))
  show wpAnyH _ _ _ _ _ _ _ (Act.put _ (some 50) _) _
  simp only [Act.put, List.setIfInBounds_toArray, List.set_cons_succ, List.set_cons_zero]
  refine wpAnyH_take (i := 2) (oi := _) (v := ?_) rfl (by kernel_rfl) (by kernel_rfl) (by kernel_rfl) (fun _ _ _ h => h) (Or.inl ⟨by rfl, ?_⟩) (by assumption) ?_
  rotate_left
  · ((intro w hSw; (try dsimp only at hSw); go_simp) <;> (try with_reducible rfl))
  show wpAnyH _ _ _ _ _ _ _ (Act.put _ (some 52) _) _
  simp only [Act.put, List.setIfInBounds_toArray, List.set_cons_succ, List.set_cons_zero]
  refine wpAnyH_take (i := 3) (oi := _) (v := ?_) rfl (by kernel_rfl) (by kernel_rfl) (by kernel_rfl) (fun _ _ _ h => h) (Or.inl ⟨by rfl, ?_⟩) (by assumption) ?_
  rotate_left
  · ((intro w hSw; (try dsimp only at hSw); go_simp) <;> (try with_reducible rfl))
  show wpAnyH _ _ _ _ _ _ _ (Act.put _ (some 53) _) _
  simp only [Act.put, List.setIfInBounds_toArray, List.set_cons_succ, List.set_cons_zero]
  refine wpAnyH_ready (rs := [1]) (by kernel_rfl) (by simp) ?_
  refine AllReadyH.cons (o := _) rfl (fun KK hKK => ?_) AllReadyH.nil
  go_simp
  (go_at_call 19; refine (HR1.out _ DW.out.drew).mono ?_; rintro e w5 ⟨ax, cx, rfl, hr, hb⟩)
  have K5 := hidT (show Below V.heap.size V w5 ∧ ERow w5 ax s from ⟨(Below.refl _ _).drew.trans hb, hr⟩)
  clear hb hr
  refine hKK.out _ _ ?_ (fun hHeld => ?_)
  · exact (FV.out _ K5.out.1).1
  clear hKK KK
  try simp only [Act.put]
  refine wpAnyH_ready (rs := [4]) (by kernel_rfl) (by simp) ?_
  refine AllReadyH.cons (o := _) rfl (fun KK hKK => ?_) AllReadyH.nil
  go_simp
  (go_at_call 19; refine (HR2.out _ (DW.out.trans (K5.out.1.mono DW.out.size))).mono ?_; rintro e w6 ⟨ay, cy, rfl, hr, hb⟩)
  have K6 := hidT (show Below V.heap.size V w6 ∧ ERow w6 ax s ∧ ERow w6 ay t from ⟨K5.out.1.trans (hb.mono K5.out.1.size), K5.out.2.below hb, hr⟩)
  clear hb hr K5
  refine hKK.out _ _ ?_ (fun hHeld => ?_)
  · exact (FV.out _ K6.out.1).1
  clear hKK KK
  try simp only [Act.put]
  refine wpAnyH_take (i := 5) (oi := _) (v := ?_) rfl (by kernel_rfl) (by kernel_rfl) (by kernel_rfl) (fun _ _ _ h => h) (Or.inl ⟨by rfl, ?_⟩) (by assumption) ?_
  rotate_left
  · ((intro w hSw; (try dsimp only at hSw); go_simp) <;> (try with_reducible rfl))
  show wpAnyH _ _ _ _ _ _ _ (Act.put _ (some 13) _) _
  simp only [Act.put, List.setIfInBounds_toArray, List.set_cons_succ, List.set_cons_zero]
  refine wpAnyH_take (i := 6) (oi := _) (v := ?_) rfl (by kernel_rfl) (by kernel_rfl) (by kernel_rfl) (fun _ _ _ h => h) (Or.inl ⟨by rfl, ?_⟩) (by assumption) ?_
  rotate_left
  · ((intro w hSw; (try dsimp only at hSw); go_simp) <;> (try with_reducible rfl))
  show wpAnyH _ _ _ _ _ _ _ (Act.put _ (some 14) _) _
  simp only [Act.put, List.setIfInBounds_toArray, List.set_cons_succ, List.set_cons_zero]
  refine wpAnyH_done (by kernel_rfl) ?_ _
  refine NoPanic.normal ?_
  obtain ⟨gx, fx, rfl⟩ := NE.out _ _ K6.out.2.1
  have FA := hidT (fun w (hb : Below w6.heap.size w6 w) => show ((w.cell? ⟨W.heap.size, 0, none⟩ = some (.int .u64 (a.1 : Int)) ∧ w.cell? ⟨W.heap.size, 1, none⟩ = some (.int .u64 (a.2 : Int)) ∧ w.cell? ⟨W.heap.size, 2, none⟩ = some (.slice a2 n2 c2)) ∧ El w qc v.1 v.2 ∧ ERow w (some ⟨ga, 0, none⟩) p ∧ ERow w (some ⟨gb, 0, none⟩) q) ∧ ERow w (some ⟨gx, fx, none⟩) s ∧ ERow w ay t from ⟨FV.out _ (K6.out.1.trans (hb.mono K6.out.1.size)), K6.out.2.1.below hb, K6.out.2.2.below hb⟩)
  have DX := hidT (show Below W.heap.size W w6 from DW.out.trans (K6.out.1.mono DW.out.size))
  have M0 := hidT (Below.refl w6.heap.size w6)
  clear FV DW K6
  obtain ⟨⟨⟨f0, f1, f2⟩, _⟩, _⟩ := FA.out _ M0.out
  go_upto_region 12 with (first
    | (have _g := M2; clear _g; go_at_call 20; refine (HM.out _ _ _ _ _ (FA.out _ M2.out).2.1 (FA.out _ M2.out).2.2).mono ?_; rintro e v3 ⟨rfl, hb⟩; have M3 := hidT (M2.out.trans (hb.mono M2.out.size)); clear hb f0 f1 f2; obtain ⟨⟨⟨f0, f1, f2⟩, _⟩, _⟩ := FA.out _ M3.out)
    | (have _g := M1; clear _g; go_at_call 14; refine (OF.out.go _).mono ?_; rintro e v2 ⟨rfl, hb⟩; have M2 := hidT (M1.out.trans (hb.mono M1.out.size)); clear hb f0 f1 f2; obtain ⟨⟨⟨f0, f1, f2⟩, _⟩, _⟩ := FA.out _ M2.out)
    | (have _g := M0; clear _g; go_at_call 20; refine (HM1.out _ _ _ (FA.out _ M0.out).2.1).mono ?_; rintro e v1 ⟨rfl, hb⟩; have M1 := hidT (M0.out.trans (hb.mono M0.out.size)); clear hb f0 f1 f2; obtain ⟨⟨⟨f0, f1, f2⟩, _⟩, _⟩ := FA.out _ M1.out))
  clear f0 f1 f2
  have K := M3
  clear M3
  obtain ⟨c1', c0'⟩ := (FA.out _ K.out).1.2.1
  go_region_held3 (fun w => w.cell? ⟨qc, 0, none⟩ = some (.int .u64 (v.1 : Int)) ∧ w.cell? ⟨qc, 1, none⟩ = some (.int .u64 (v.2 : Int))) (first | (go_keep; done) | (exact ⟨c1', c0'⟩)) (first | (go_at_call 27; refine (HD.out _ _ _ _ _ (FA.out _ (by first | exact K.out | exact K.out.drew)).2.1 (FA.out _ (by first | exact K.out | exact K.out.drew)).2.2).mono ?_; rintro e w' ⟨rfl, hb⟩; have K'' := hidT (show Below w6.heap.size w6 w' from by first | exact K.out.trans (hb.mono K.out.size) | exact K.out.drew.trans (hb.mono K.out.drew.size)); clear K hb c1' c0'; have K := K''; clear K''; obtain ⟨c1', c0'⟩ := (FA.out _ K.out).1.2.1))
  all_goals
    generalize w' = u0 at K ⊢
    clear c1' c0'
    obtain ⟨f0, f1, _⟩ := (FA.out _ (K.out.alloc K.out.size (Obj.cells #[.int .u64 0, .int .u64 1] 28))).1.1
    go_upto_region 18 with fail
    obtain ⟨U, hU⟩ : ∃ x, x = (u0.alloc (Obj.cells #[.int .u64 0, .int .u64 1] 28)).alloc (Obj.cells #[.int .u64 (a.1 : Int), .int .u64 (a.2 : Int)] 28) := ⟨_, rfl⟩
    have DU := hidT (show Below u0.heap.size u0 U from hU ▸ ((Below.refl _ _).alloc (Nat.le_refl _) _).alloc (by simp) _)
    have B7 : El U u0.heap.size 0 1 := by
      subst hU
      exact (El.newP u0 (0, 1) _).below ((Below.refl _ _).alloc (Nat.le_refl _) _)
    have B8 : El U (u0.heap.size + 1) a.1 a.2 := by
      subst hU
      have := El.newP (u0.alloc (Obj.cells #[.int .u64 0, .int .u64 1] 28)) a 28
      simpa using this
    rw [← hU]
    clear hU f0 f1
    generalize u0.heap.size = q7 at B7 B8 ⊢
    have D5 := hidT (K.out.trans (DU.out.mono K.out.size))
    have FB := hidT (fun w (hb : Below U.heap.size U w) => show (El w q7 0 1 ∧ El w (q7 + 1) a.1 a.2) ∧ ERow w (some ⟨ga, 0, none⟩) p ∧ ERow w (some ⟨gb, 0, none⟩) q ∧ ERow w (some ⟨gx, fx, none⟩) s from
      let h := FA.out _ (D5.out.trans (hb.mono D5.out.size))
      ⟨⟨B7.below hb, B8.below hb⟩, h.1.2.2.1, h.1.2.2.2, h.2.1⟩)
    have DY := hidT (DX.out.trans (D5.out.mono DX.out.size))
    have J0 := hidT (Below.refl U.heap.size U)
    clear B7 B8 FA K DU D5 DX
    obtain ⟨⟨⟨g1, g0⟩, ⟨h1, h0⟩⟩, _⟩ := FB.out _ J0.out
    go_wp2_with (first
      | (have _g := R6; clear _g; go_at_call 12; refine (SM.out q LN.out.2 _ _ _ _ _ (FB.out _ J6.out).2.2.1 R6.out).mono ?_; rintro e u7 ⟨rfl, hb⟩; have J7 := hidT (J6.out.trans (hb.mono J6.out.size)); clear g1 g0 h1 h0; obtain ⟨⟨⟨g1, g0⟩, ⟨h1, h0⟩⟩, _⟩ := FB.out _ J7.out; clear hb R6)
      | (have _g := R5; clear _g; go_at_call 23; refine (TR.out _ gx fx cx pp 0 cp (FB.out _ J5.out).2.2.2 R5.out).mono ?_; rintro e u6 ⟨pt, ct, rfl, hr, hb⟩; have J6 := hidT (J5.out.trans (hb.mono J5.out.size)); clear g1 g0 h1 h0; obtain ⟨⟨⟨g1, g0⟩, ⟨h1, h0⟩⟩, _⟩ := FB.out _ J6.out; have R6 := hidT hr; clear hb hr R5)
      | (have _g := J4; clear _g; go_at_call 13; refine (PR.out _).mono ?_; rintro e u5 ⟨pp, cp, rfl, hr, hb⟩; have J5 := hidT (J4.out.trans (hb.mono J4.out.size)); clear g1 g0 h1 h0; obtain ⟨⟨⟨g1, g0⟩, ⟨h1, h0⟩⟩, _⟩ := FB.out _ J5.out; have R5 := hidT hr; clear hb hr)
      | (have _g := R3; clear _g; go_at_call 12; refine (SM.out p LN.out.1 _ _ _ _ _ (FB.out _ J3.out).2.1 R3.out).mono ?_; rintro e u4 ⟨rfl, hb⟩; have J4 := hidT (J3.out.trans (hb.mono J3.out.size)); clear g1 g0 h1 h0; obtain ⟨⟨⟨g1, g0⟩, ⟨h1, h0⟩⟩, _⟩ := FB.out _ J4.out; clear hb R3)
      | (have _g := R2; clear _g; go_at_call 23; refine (TL.out _ gx fx cx pp 0 cp (FB.out _ J2.out).2.2.2 R2.out).mono ?_; rintro e u3 ⟨pt, ct, rfl, hr, hb⟩; have J3 := hidT (J2.out.trans (hb.mono J2.out.size)); clear g1 g0 h1 h0; obtain ⟨⟨⟨g1, g0⟩, ⟨h1, h0⟩⟩, _⟩ := FB.out _ J3.out; have R3 := hidT hr; clear hb hr R2)
      | (have _g := J1; clear _g; go_at_call 13; refine (PL.out _).mono ?_; rintro e u2 ⟨pp, cp, rfl, hr, hb⟩; have J2 := hidT (J1.out.trans (hb.mono J1.out.size)); clear g1 g0 h1 h0; obtain ⟨⟨⟨g1, g0⟩, ⟨h1, h0⟩⟩, _⟩ := FB.out _ J2.out; have R2 := hidT hr; clear hb hr)
      | (have _g := J0; clear _g; go_at_call 10; refine (AW.out.go _).mono ?_; rintro e u1 ⟨rfl, hb⟩; have J1 := hidT (J0.out.trans (hb.mono J0.out.size)); clear g1 g0 h1 h0; obtain ⟨⟨⟨g1, g0⟩, ⟨h1, h0⟩⟩, _⟩ := FB.out _ J1.out; clear hb))
    go_ret
    exact ⟨by first | rfl | simp, DY.out.trans (J7.out.mono DY.out.size)⟩
end Pv
end Go.Proofs.Ytcejppibcemdeaa
