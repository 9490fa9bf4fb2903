/- ClaimTotals over the seat's translation. -/
import Derived.Test.YtejoombhcnldmaaPCmJ
namespace Go.Proofs.Ytejoombhcnldmaa
open Go.RowKit
open Cb
open Tw (pm)

/-- The case in its box, and what lay there. -/
structure Kc (W w : World) (q : Nat) (C ww : Int) (a : Option Addr) (n cap : Nat) (b : Nat × Nat) : Prop where
  c0 : w.cell? ⟨q, 0, none⟩ = some (.int .i64 C)
  c1 : w.cell? ⟨q, 1, none⟩ = some (.int .i64 ww)
  c2 : w.cell? ⟨q, 2, none⟩ = some (.slice a n cap)
  c4 : w.cell? ⟨q, 4, none⟩ = some (.int .u64 (b.1 : Int))
  c5 : w.cell? ⟨q, 5, none⟩ = some (.int .u64 (b.2 : Int))
  d : Below W.heap.size W w
theorem Kc.below {W w w' : World} {q n cap : Nat} {C ww : Int} {a : Option Addr} {b : Nat × Nat} (h : Kc W w q C ww a n cap b) (hb : Below w.heap.size w w') : Kc W w' q C ww a n cap b := ⟨keepc hb h.c0, keepc hb h.c1, keepc hb h.c2, keepc hb h.c4, keepc hb h.c5, h.d.trans (hb.mono h.d.size)⟩
theorem Kc.alloc {W w : World} {q n cap : Nat} {C ww : Int} {a : Option Addr} {b : Nat × Nat} (h : Kc W w q C ww a n cap b) (o : Obj) : Kc W (w.alloc o) q C ww a n cap b := h.below ((Below.refl _ _).alloc (Nat.le_refl _) o)
theorem Kc.drew {W w : World} {q n cap : Nat} {C ww : Int} {a : Option Addr} {b : Nat × Nat} (h : Kc W w q C ww a n cap b) : Kc W w.drew q C ww a n cap b := h.below (Below.refl _ _).drew
theorem Kc.put {W w : World} {q n cap g : Nat} {C ww : Int} {a : Option Addr} {b : Nat × Nat} (h : Kc W w q C ww a n cap b) (hg : W.heap.size ≤ g) (hne : q ≠ g) (x y : Value) : Kc W ((w.setCell ⟨g, 0, none⟩ x).setCell ⟨g, 1, none⟩ y) q C ww a n cap b := by
  obtain ⟨h0, h1, h2, h4, h5, hd⟩ := h
  exact ⟨by simp [go_sem, *], by simp [go_sem, *], by simp [go_sem, *], by simp [go_sem, *], by simp [go_sem, *], below2 (p := g) hd hg _ _⟩
theorem ct_far (l C w : Int) (a z : Option Addr) (cap zcap : Nat) (cl : List Stp) (zs : List (Nat × Nat)) (b : Nat × Nat) (h : ¬ fwB C w cl.length zs.length) (W : World) :
    Calls Try.prog 3 #[.int .i64 l, .agg #[.int .i64 C, .int .i64 w, .slice a cl.length cap, .slice z zs.length zcap, .int .u64 (b.1 : Int), .int .u64 (b.2 : Int)]] W fun e w' => e = .returned (.bool true) ∧ Below W.heap.size W w' := by
  have HF := hidC (few22 C w a z cl.length zs.length cap zcap b)
  rw [decide_eq_false h] at HF
  have AW := hidC awake22
  clear h
  go_enter Try.func3, Try.ntmps3
  go_wp2_with (first | (go_at_call 9; refine (HF.out.go _).mono ?_; rintro e w1 ⟨rfl, hb1⟩; have D1 : Hid (Below W.heap.size W w1) := ((Below.refl W.heap.size W).alloc (Nat.le_refl _) _).trans (hb1.mono (by simp)); clear hb1) | (go_at_call 10; refine (AW.out.go _).mono ?_; rintro e w2 ⟨rfl, hb2⟩; have D2 : Hid (Below W.heap.size W w2) := D1.out.trans (hb2.mono D1.out.size); clear hb2))
  go_ret
  exact ⟨rfl, D2.out⟩
set_option maxHeartbeats 40000000 in
set_option maxRecDepth 100000 in
theorem ct_main (l C w : Int) (a z : Option Addr) (cap zcap N : Nat) (cl : List Stp) (zs : List (Nat × Nat)) (b : Nat × Nat) (hN : cl.length = N) (h : fwB C w N zs.length) (oc : okC cl) (lb : lt2 b) (W : World) (hr : ORow W a cl) :
    Calls Try.prog 3 #[.int .i64 l, .agg #[.int .i64 C, .int .i64 w, .slice a N cap, .slice z zs.length zcap, .int .u64 (b.1 : Int), .int .u64 (b.2 : Int)]] W fun e w' => e = .returned (.bool true) ∧ Below W.heap.size W w' := by
  have HF := hidC (few22 C w a z N zs.length cap zcap b)
  rw [decide_eq_true h] at HF
  have AW := hidC awake22
  have h3 : N ≤ 210 := by unfold fwB at h; omega
  have HT := hidC (fun (v : World) (hb : Below W.heap.size W v) => cmtot l a cap cl b (by omega) oc lb v (hr.below hb))
  have HR := hidC (fun (v : World) (hb : Below W.heap.size W v) => rref22 a cap cl (by omega) v (hr.below hb))
  have HU := hidC (fun (v : World) (a' : Option Addr) (cap' : Nat) (hb : ORow v a' cl) => rtot22 l a' cap' cl b (by omega) oc lb v hb)
  have HC := hidC (fun (v : World) (hb : Below W.heap.size W v) => cmchk C w a cap cl (by omega) v (hr.below hb))
  have HD := hidC (fun (v : World) (a' : Option Addr) (cap' : Nat) (hb : ORow v a' cl) => rchk22 C w a' cap' cl (by omega) v hb)
  rw [hN] at HT HR HU HC HD
  have K0 : Hid (Kc W (W.alloc (Obj.cells #[.int .i64 C, .int .i64 w, .slice a N cap, .slice z zs.length zcap, .int .u64 (b.1 : Int), .int .u64 (b.2 : Int)] 28)) W.heap.size C w a N cap b) := ⟨by simp [go_sem], by simp [go_sem], by simp [go_sem], by simp [go_sem], by simp [go_sem], (Below.refl W.heap.size W).alloc (Nat.le_refl _) _⟩
  generalize ttv l cl b = t at *
  generalize ttE l cl b = te at *
  generalize ckE C w cl = ke at *
  clear h oc lb hr hN h3
  go_enter Try.func3, Try.ntmps3
  go_upto_region 4 with (first | (go_at_call 9; refine (HF.out.go _).mono ?_; rintro e w1 ⟨rfl, hb1⟩; have K1 : Hid (Kc W w1 W.heap.size C w a N cap b) := K0.out.below hb1; clear hb1 K0; obtain ⟨c0, c1, c2, c4, c5, _⟩ := K1.out) | (go_at_call 11; refine (HT.out _ K1.out.d).mono ?_; rintro e w2 ⟨rfl, hb2⟩; have K2 : Hid (Kc W w2 W.heap.size C w a N cap b) := K1.out.below hb2; clear hb2 K1 c0 c1 c2 c4 c5))
  rename_i Kk hKk
  have CONT : ∀ (q5 q7 : Nat) (v26 : Value) (w7 : World), Kc W w7 W.heap.size C w a N cap b → El w7 q5 t.1 t.2 → El w7 q7 t.1 t.2 → Kk { tmps := #[.int .i64 l, .agg #[.int .i64 C, .int .i64 w, .slice a N cap, .slice z zs.length zcap, .int .u64 (b.1 : Int), .int .u64 (b.2 : Int)], undef, .pointer (some ⟨W.heap.size, 0, none⟩), .bool false, .pointer (some ⟨q5, 0, none⟩), .int .i64 te, .pointer (some ⟨q7, 0, none⟩), .int .i64 te, .agg #[.int .i64 C, .int .i64 w, .slice a N cap, .slice z zs.length zcap, .int .u64 (b.1 : Int), .int .u64 (b.2 : Int)], .bool true, .bool false, undef, .tuple #[.agg #[.int .u64 (t.1 : Int), .int .u64 (t.2 : Int)], .int .i64 te], .int .i64 l, .pointer (some ⟨W.heap.size, 2, none⟩), .slice a N cap, .pointer (some ⟨W.heap.size, 4, none⟩), .agg #[.int .u64 (b.1 : Int), .int .u64 (b.2 : Int)], .tuple #[.agg #[.int .u64 (t.1 : Int), .int .u64 (t.2 : Int)], .int .i64 te], .agg #[.int .u64 (t.1 : Int), .int .u64 (t.2 : Int)], .int .i64 te, .tuple #[.agg #[.int .u64 (t.1 : Int), .int .u64 (t.2 : Int)], .int .i64 te], .int .i64 l, .pointer (some ⟨W.heap.size, 2, none⟩), .slice a N cap, v26, .pointer (some ⟨W.heap.size, 4, none⟩), .agg #[.int .u64 (b.1 : Int), .int .u64 (b.2 : Int)], .tuple #[.agg #[.int .u64 (t.1 : Int), .int .u64 (t.2 : Int)], .int .i64 te], .agg #[.int .u64 (t.1 : Int), .int .u64 (t.2 : Int)], .int .i64 te, undef, undef, undef, undef, undef, undef, undef, undef, undef, undef, undef, undef, undef, undef, undef, undef, undef, undef, undef, undef, undef, undef, undef, undef, undef, undef, undef, undef, undef], defers := [] } w7 := by
    intro q5 q7 v26 w7 K E5 E7
    refine hKk _ _ ?_
    clear hKk HT HU HF K2
    go_upto_region 5 with fail
    refine wp_region_noPanic ?_
    refine wp_region_peel (S := fun v => (v.cell? ⟨W.heap.size, 0, none⟩ = some (.int .i64 C) ∧ v.cell? ⟨W.heap.size, 1, none⟩ = some (.int .i64 w) ∧ v.cell? ⟨W.heap.size, 2, none⟩ = some (.slice a N cap)) ∧ (v.cell? ⟨q5, 0, none⟩ = some (.int .u64 (t.1 : Int)) ∧ v.cell? ⟨q5, 1, none⟩ = some (.int .u64 (t.2 : Int))) ∧ v.cell? ⟨q7, 0, none⟩ = some (.int .u64 (t.1 : Int)) ∧ v.cell? ⟨q7, 1, none⟩ = some (.int .u64 (t.2 : Int))) 29 (by kernel_rfl) rfl (by kernel_rfl) ?_ (fun hHeld => ?_)
    · exact ⟨⟨K.c0, K.c1, K.c2⟩, ⟨E5.hi, E5.lo⟩, E7.hi, E7.lo⟩
    refine wpAnyH_ready (rs := [0]) (by kernel_rfl) (by simp) ?_
    refine AllReadyH.cons (o := _) rfl (fun KK hKK => ?_) AllReadyH.nil
    go_simp
    (go_at_call 10; refine (AW.out.go _).mono ?_; rintro e w' ⟨rfl, hb'⟩)
    have E5' := El.below (w' := w') (by first | exact E5 | exact E5.drew) hb'
    have E7' := El.below (w' := w') (by first | exact E7 | exact E7.drew) hb'
    have K'' := Kc.below (w' := w') (by first | exact K | exact K.drew) hb'
    clear K hb' E5 E7
    have K := K''
    have E5 := E5'
    have E7 := E7'
    clear K'' E5' E7'
    refine hKK.out _ _ ?_ (fun hHeld => ?_)
    · exact ⟨⟨K.c0, K.c1, K.c2⟩, ⟨E5.hi, E5.lo⟩, E7.hi, E7.lo⟩
    clear hKK KK
    try simp only [Act.put]
    refine wpAnyH_take (i := 1) (oi := _) (v := ?_) rfl (by kernel_rfl) (by kernel_rfl) (by kernel_rfl) (fun _ _ _ h => h) (Or.inl ⟨by rfl, ?_⟩) (by assumption) ?_
    rotate_left
    · ((intro w hSw; (try dsimp only at hSw); go_simp) <;> (try with_reducible rfl))
    show wpAnyH _ _ _ _ _ _ _ (Act.put _ (some 33) _) _
    simp only [Act.put, List.setIfInBounds_toArray, List.set_cons_succ, List.set_cons_zero]
    refine wpAnyH_take (i := 2) (oi := _) (v := ?_) rfl (by kernel_rfl) (by kernel_rfl) (by kernel_rfl) (fun _ _ _ h => h) (Or.inl ⟨by rfl, ?_⟩) (by assumption) ?_
    rotate_left
    · ((intro w hSw; (try dsimp only at hSw); go_simp) <;> (try with_reducible rfl))
    show wpAnyH _ _ _ _ _ _ _ (Act.put _ (some 34) _) _
    simp only [Act.put, List.setIfInBounds_toArray, List.set_cons_succ, List.set_cons_zero]
    refine wpAnyH_take (i := 3) (oi := _) (v := ?_) rfl (by kernel_rfl) (by kernel_rfl) (by kernel_rfl) (fun _ _ _ h => h) (Or.inl ⟨by rfl, ?_⟩) (by assumption) ?_
    rotate_left
    · ((intro w hSw; (try dsimp only at hSw); go_simp) <;> (try with_reducible rfl))
    show wpAnyH _ _ _ _ _ _ _ (Act.put _ (some 35) _) _
    simp only [Act.put, List.setIfInBounds_toArray, List.set_cons_succ, List.set_cons_zero]
    refine wpAnyH_take (i := 4) (oi := _) (v := ?_) rfl (by kernel_rfl) (by kernel_rfl) (by kernel_rfl) (fun _ _ _ h => h) (Or.inl ⟨by rfl, ?_⟩) (by assumption) ?_
    rotate_left
    · ((intro w hSw; (try dsimp only at hSw); go_simp) <;> (try with_reducible rfl))
    show wpAnyH _ _ _ _ _ _ _ (Act.put _ (some 36) _) _
    simp only [Act.put, List.setIfInBounds_toArray, List.set_cons_succ, List.set_cons_zero]
    refine wpAnyH_take (i := 5) (oi := _) (v := ?_) rfl (by kernel_rfl) (by kernel_rfl) (by kernel_rfl) (fun _ _ _ h => h) (Or.inl ⟨by rfl, ?_⟩) (by assumption) ?_
    rotate_left
    · ((intro w hSw; (try dsimp only at hSw); go_simp) <;> (try with_reducible rfl))
    show wpAnyH _ _ _ _ _ _ _ (Act.put _ (some 37) _) _
    simp only [Act.put, List.setIfInBounds_toArray, List.set_cons_succ, List.set_cons_zero]
    refine wpAnyH_take (i := 6) (oi := _) (v := ?_) rfl (by kernel_rfl) (by kernel_rfl) (by kernel_rfl) (fun _ _ _ h => h) (Or.inl ⟨by rfl, ?_⟩) (by assumption) ?_
    rotate_left
    · ((intro w hSw; (try dsimp only at hSw); go_simp) <;> (try with_reducible rfl))
    show wpAnyH _ _ _ _ _ _ _ (Act.put _ (some 38) _) _
    simp only [Act.put, List.setIfInBounds_toArray, List.set_cons_succ, List.set_cons_zero]
    refine wpAnyH_take (i := 7) (oi := _) (v := ?_) rfl (by kernel_rfl) (by kernel_rfl) (by kernel_rfl) (fun _ _ _ h => h) (Or.inl ⟨by rfl, ?_⟩) (by assumption) ?_
    rotate_left
    · ((intro w hSw; (try dsimp only at hSw); go_simp) <;> (try with_reducible rfl))
    show wpAnyH _ _ _ _ _ _ _ (Act.put _ (some 39) _) _
    simp only [Act.put, List.setIfInBounds_toArray, List.set_cons_succ, List.set_cons_zero]
    refine wpAnyH_take (i := 8) (oi := _) (v := ?_) rfl (by kernel_rfl) (by kernel_rfl) (by kernel_rfl) (fun _ _ _ h => h) (Or.inl ⟨by rfl, ?_⟩) (by assumption) ?_
    rotate_left
    · ((intro w hSw; (try dsimp only at hSw); go_simp) <;> (try with_reducible rfl))
    show wpAnyH _ _ _ _ _ _ _ (Act.put _ (some 40) _) _
    simp only [Act.put, List.setIfInBounds_toArray, List.set_cons_succ, List.set_cons_zero]
    refine wpAnyH_take (i := 9) (oi := _) (v := ?_) rfl (by kernel_rfl) (by kernel_rfl) (by kernel_rfl) (fun _ _ _ h => h) (Or.inl ⟨by rfl, ?_⟩) (by assumption) ?_
    rotate_left
    · ((intro w hSw; (try dsimp only at hSw); go_simp) <;> (try with_reducible rfl))
    show wpAnyH _ _ _ _ _ _ _ (Act.put _ (some 41) _) _
    simp only [Act.put, List.setIfInBounds_toArray, List.set_cons_succ, List.set_cons_zero]
    refine wpAnyH_take (i := 10) (oi := _) (v := ?_) rfl (by kernel_rfl) (by kernel_rfl) (by kernel_rfl) (fun _ _ _ h => h) (Or.inl ⟨by rfl, ?_⟩) (by assumption) ?_
    rotate_left
    · ((intro w hSw; (try dsimp only at hSw); go_simp) <;> (try with_reducible rfl))
    show wpAnyH _ _ _ _ _ _ _ (Act.put _ (some 42) _) _
    simp only [Act.put, List.setIfInBounds_toArray, List.set_cons_succ, List.set_cons_zero]
    refine wpAnyH_take (i := 11) (oi := _) (v := ?_) rfl (by kernel_rfl) (by kernel_rfl) (by kernel_rfl) (fun _ _ _ h => h) (Or.inl ⟨by rfl, ?_⟩) (by assumption) ?_
    rotate_left
    · ((intro w hSw; (try dsimp only at hSw); go_simp) <;> (try with_reducible rfl))
    show wpAnyH _ _ _ _ _ _ _ (Act.put _ (some 43) _) _
    simp only [Act.put, List.setIfInBounds_toArray, List.set_cons_succ, List.set_cons_zero]
    refine wpAnyH_take (i := 12) (oi := _) (v := ?_) rfl (by kernel_rfl) (by kernel_rfl) (by kernel_rfl) (fun _ _ _ h => h) (Or.inl ⟨by rfl, ?_⟩) (by assumption) ?_
    rotate_left
    · ((intro w hSw; (try dsimp only at hSw); go_simp) <;> (try with_reducible rfl))
    show wpAnyH _ _ _ _ _ _ _ (Act.put _ (some 44) _) _
    simp only [Act.put, List.setIfInBounds_toArray, List.set_cons_succ, List.set_cons_zero]
    refine wpAnyH_take (i := 13) (oi := _) (v := ?_) rfl (by kernel_rfl) (by kernel_rfl) (by kernel_rfl) (fun _ _ _ h => h) (Or.inl ⟨by rfl, ?_⟩) (by assumption) ?_
    rotate_left
    · ((intro w hSw; (try dsimp only at hSw); go_simp) <;> (try with_reducible rfl))
    show wpAnyH _ _ _ _ _ _ _ (Act.put _ (some 45) _) _
    simp only [Act.put, List.setIfInBounds_toArray, List.set_cons_succ, List.set_cons_zero]
    refine wpAnyH_take (i := 14) (oi := _) (v := ?_) rfl (by kernel_rfl) (by kernel_rfl) (by kernel_rfl) (fun _ _ _ h => h) (Or.inl ⟨by rfl, ?_⟩) (by assumption) ?_
    rotate_left
    · ((intro w hSw; (try dsimp only at hSw); go_simp) <;> (try with_reducible rfl))
    show wpAnyH _ _ _ _ _ _ _ (Act.put _ (some 46) _) _
    simp only [Act.put, List.setIfInBounds_toArray, List.set_cons_succ, List.set_cons_zero]
    refine wpAnyH_take (i := 15) (oi := _) (v := ?_) rfl (by kernel_rfl) (by kernel_rfl) (by kernel_rfl) (fun _ _ _ h => h) (Or.inl ⟨by rfl, ?_⟩) (by assumption) ?_
    rotate_left
    · ((intro w hSw; (try dsimp only at hSw); go_simp) <;> (try with_reducible rfl))
    show wpAnyH _ _ _ _ _ _ _ (Act.put _ (some 47) _) _
    simp only [Act.put, List.setIfInBounds_toArray, List.set_cons_succ, List.set_cons_zero]
    refine wpAnyH_take (i := 16) (oi := _) (v := ?_) rfl (by kernel_rfl) (by kernel_rfl) (by kernel_rfl) (fun _ _ _ h => h) (Or.inl ⟨by rfl, ?_⟩) (by assumption) ?_
    rotate_left
    · ((intro w hSw; (try dsimp only at hSw); go_simp) <;> (try with_reducible rfl))
    show wpAnyH _ _ _ _ _ _ _ (Act.put _ (some 48) _) _
    simp only [Act.put, List.setIfInBounds_toArray, List.set_cons_succ, List.set_cons_zero]
    refine wpAnyH_take (i := 17) (oi := _) (v := ?_) rfl (by kernel_rfl) (by kernel_rfl) (by kernel_rfl) (fun _ _ _ h => h) (Or.inl ⟨by rfl, ?_⟩) (by assumption) ?_
    rotate_left
    · ((intro w hSw; (try dsimp only at hSw); go_simp) <;> (try with_reducible rfl))
    show wpAnyH _ _ _ _ _ _ _ (Act.put _ (some 49) _) _
    simp only [Act.put, List.setIfInBounds_toArray, List.set_cons_succ, List.set_cons_zero]
    refine wpAnyH_take (i := 19) (oi := _) (v := ?_) rfl (by kernel_rfl) (by kernel_rfl) (by kernel_rfl) (fun _ _ _ h => h) (Or.inl ⟨by rfl, ?_⟩) (by assumption) ?_
    rotate_left
    · ((intro w hSw; (try dsimp only at hSw); go_simp) <;> (try with_reducible rfl))
    show wpAnyH _ _ _ _ _ _ _ (Act.put _ (some 51) _) _
    simp only [Act.put, List.setIfInBounds_toArray, List.set_cons_succ, List.set_cons_zero]
    refine wpAnyH_take (i := 20) (oi := _) (v := ?_) rfl (by kernel_rfl) (by kernel_rfl) (by kernel_rfl) (fun _ _ _ h => h) (Or.inl ⟨by rfl, ?_⟩) (by assumption) ?_
    rotate_left
    · ((intro w hSw; (try dsimp only at hSw); go_simp) <;> (try with_reducible rfl))
    show wpAnyH _ _ _ _ _ _ _ (Act.put _ (some 52) _) _
    simp only [Act.put, List.setIfInBounds_toArray, List.set_cons_succ, List.set_cons_zero]
    refine wpAnyH_take (i := 21) (oi := _) (v := ?_) rfl (by kernel_rfl) (by kernel_rfl) (by kernel_rfl) (fun _ _ _ h => h) (Or.inl ⟨by rfl, ?_⟩) (by assumption) ?_
    rotate_left
    · ((intro w hSw; (try dsimp only at hSw); go_simp) <;> (try with_reducible rfl))
    show wpAnyH _ _ _ _ _ _ _ (Act.put _ (some 53) _) _
    simp only [Act.put, List.setIfInBounds_toArray, List.set_cons_succ, List.set_cons_zero]
    refine wpAnyH_take (i := 22) (oi := _) (v := ?_) rfl (by kernel_rfl) (by kernel_rfl) (by kernel_rfl) (fun _ _ _ h => h) (Or.inl ⟨by rfl, ?_⟩) (by assumption) ?_
    rotate_left
    · ((intro w hSw; (try dsimp only at hSw); go_simp) <;> (try with_reducible rfl))
    show wpAnyH _ _ _ _ _ _ _ (Act.put _ (some 54) _) _
    simp only [Act.put, List.setIfInBounds_toArray, List.set_cons_succ, List.set_cons_zero]
    refine wpAnyH_take (i := 23) (oi := _) (v := ?_) rfl (by kernel_rfl) (by kernel_rfl) (by kernel_rfl) (fun _ _ _ h => h) (Or.inl ⟨by rfl, ?_⟩) (by assumption) ?_
    rotate_left
    · ((intro w hSw; (try dsimp only at hSw); go_simp) <;> (try with_reducible rfl))
    show wpAnyH _ _ _ _ _ _ _ (Act.put _ (some 55) _) _
    simp only [Act.put, List.setIfInBounds_toArray, List.set_cons_succ, List.set_cons_zero]
    refine wpAnyH_take (i := 24) (oi := _) (v := ?_) rfl (by kernel_rfl) (by kernel_rfl) (by kernel_rfl) (fun _ _ _ h => h) (Or.inl ⟨by rfl, ?_⟩) (by assumption) ?_
    rotate_left
    · ((intro w hSw; (try dsimp only at hSw); go_simp) <;> (try with_reducible rfl))
    show wpAnyH _ _ _ _ _ _ _ (Act.put _ (some 56) _) _
    simp only [Act.put, List.setIfInBounds_toArray, List.set_cons_succ, List.set_cons_zero]
    refine wpAnyH_ready (rs := [18]) (by kernel_rfl) (by simp) ?_
    refine AllReadyH.cons (o := _) rfl (fun KK hKK => ?_) AllReadyH.nil
    go_simp
    (go_at_call 14; refine (HC.out _ K.d).mono ?_; rintro e w' ⟨rfl, hb'⟩)
    have E5' := El.below (w' := w') (by first | exact E5 | exact E5.drew) hb'
    have E7' := El.below (w' := w') (by first | exact E7 | exact E7.drew) hb'
    have K'' := Kc.below (w' := w') (by first | exact K | exact K.drew) hb'
    clear K hb' E5 E7
    have K := K''
    have E5 := E5'
    have E7 := E7'
    clear K'' E5' E7'
    refine hKK.out _ _ ?_ (fun hHeld => ?_)
    · exact ⟨⟨K.c0, K.c1, K.c2⟩, ⟨E5.hi, E5.lo⟩, E7.hi, E7.lo⟩
    clear hKK KK
    try simp only [Act.put]
    refine wpAnyH_ready (rs := [25]) (by kernel_rfl) (by simp) ?_
    refine AllReadyH.cons (o := _) rfl (fun KK hKK => ?_) AllReadyH.nil
    go_simp
    (go_at_call 13; refine (HR.out _ K.d).mono ?_; rintro e w' ⟨ra, rc, rfl, R1, hb'⟩)
    have E5' := El.below (w' := w') (by first | exact E5 | exact E5.drew) hb'
    have E7' := El.below (w' := w') (by first | exact E7 | exact E7.drew) hb'
    have K'' := Kc.below (w' := w') (by first | exact K | exact K.drew) hb'
    clear K hb' E5 E7
    have K := K''
    have E5 := E5'
    have E7 := E7'
    clear K'' E5' E7'
    refine hKK.out _ _ ?_ (fun hHeld => ?_)
    · exact ⟨⟨K.c0, K.c1, K.c2⟩, ⟨E5.hi, E5.lo⟩, E7.hi, E7.lo⟩
    clear hKK KK
    try simp only [Act.put]
    refine wpAnyH_ready (rs := [26]) (by kernel_rfl) (by simp) ?_
    refine AllReadyH.cons (o := _) rfl (fun KK hKK => ?_) AllReadyH.nil
    go_simp
    (go_at_call 15; refine (HD.out _ _ _ R1).mono ?_; rintro e w' ⟨rfl, hb'⟩)
    have E5' := El.below (w' := w') (by first | exact E5 | exact E5.drew) hb'
    have E7' := El.below (w' := w') (by first | exact E7 | exact E7.drew) hb'
    have K'' := Kc.below (w' := w') (by first | exact K | exact K.drew) hb'
    clear K hb' E5 E7
    have K := K''
    have E5 := E5'
    have E7 := E7'
    clear K'' E5' E7'
    refine hKK.out _ _ ?_ (fun hHeld => ?_)
    · exact ⟨⟨K.c0, K.c1, K.c2⟩, ⟨E5.hi, E5.lo⟩, E7.hi, E7.lo⟩
    clear hKK KK
    try simp only [Act.put]
    refine wpAnyH_take (i := 27) (oi := _) (v := ?_) rfl (by kernel_rfl) (by kernel_rfl) (by kernel_rfl) (fun _ _ _ h => h) (Or.inl ⟨by rfl, ?_⟩) (by assumption) ?_
    rotate_left
    · ((intro w hSw; (try dsimp only at hSw); go_simp) <;> (try with_reducible rfl))
    show wpAnyH _ _ _ _ _ _ _ (Act.put _ (some 59) _) _
    simp only [Act.put, List.setIfInBounds_toArray, List.set_cons_succ, List.set_cons_zero]
    refine wpAnyH_take (i := 28) (oi := _) (v := ?_) rfl (by kernel_rfl) (by kernel_rfl) (by kernel_rfl) (fun _ _ _ h => h) (Or.inl ⟨by rfl, ?_⟩) (by assumption) ?_
    rotate_left
    · ((intro w hSw; (try dsimp only at hSw); go_simp) <;> (try with_reducible rfl))
    show wpAnyH _ _ _ _ _ _ _ (Act.put _ (some 60) _) _
    simp only [Act.put, List.setIfInBounds_toArray, List.set_cons_succ, List.set_cons_zero]
    refine wpAnyH_done (by kernel_rfl) ?_ _
    refine peel_last rfl (fun KK hKK => ?_)
    clear hHeld
    go_simp
    refine hKK _ _ ?_
    refine NoPanic.normal ?_
    clear hKK KK
    go_wp2
    go_ret
    exact ⟨rfl, K.d⟩
  have E5 : El (w2.alloc (Obj.cells #[.int .u64 (t.1 : Int), .int .u64 (t.2 : Int)] 26)) w2.heap.size t.1 t.2 := El.newR w2 t _
  have K := K2.out.alloc (Obj.cells #[.int .u64 (t.1 : Int), .int .u64 (t.2 : Int)] 26)
  clear K2 hKk AW HC HD HF HT
  generalize w2.alloc (Obj.cells #[.int .u64 (t.1 : Int), .int .u64 (t.2 : Int)] 26) = wa at *
  generalize w2.heap.size = q5 at *
  refine wp_region_noPanic ?_
  refine wp_region_peel (S := fun v => v.cell? ⟨W.heap.size, 2, none⟩ = some (.slice a N cap) ∧ v.cell? ⟨W.heap.size, 4, none⟩ = some (.int .u64 (b.1 : Int)) ∧ v.cell? ⟨W.heap.size, 5, none⟩ = some (.int .u64 (b.2 : Int))) 12 (by kernel_rfl) rfl (by kernel_rfl) ?_ (fun hHeld => ?_)
  · exact ⟨K.c2, K.c4, K.c5⟩
  refine wpAnyH_take (i := 0) (oi := _) (v := ?_) rfl (by kernel_rfl) (by kernel_rfl) (by kernel_rfl) (fun _ _ _ h => h) (Or.inl ⟨by rfl, ?_⟩) (by assumption) ?_
  rotate_left
  · ((intro w hSw; (try dsimp only at hSw); go_simp) <;> (try with_reducible rfl))
  show wpAnyH _ _ _ _ _ _ _ (Act.put _ (some 23) _) _
  simp only [Act.put, List.setIfInBounds_toArray, List.set_cons_succ, List.set_cons_zero]
  refine wpAnyH_take (i := 1) (oi := _) (v := ?_) rfl (by kernel_rfl) (by kernel_rfl) (by kernel_rfl) (fun _ _ _ h => h) (Or.inl ⟨by rfl, ?_⟩) (by assumption) ?_
  rotate_left
  · ((intro w hSw; (try dsimp only at hSw); go_simp) <;> (try with_reducible rfl))
  show wpAnyH _ _ _ _ _ _ _ (Act.put _ (some 24) _) _
  simp only [Act.put, List.setIfInBounds_toArray, List.set_cons_succ, List.set_cons_zero]
  refine wpAnyH_take (i := 2) (oi := _) (v := ?_) rfl (by kernel_rfl) (by kernel_rfl) (by kernel_rfl) (fun _ _ _ h => h) (Or.inl ⟨by rfl, ?_⟩) (by assumption) ?_
  rotate_left
  · ((intro w hSw; (try dsimp only at hSw); go_simp) <;> (try with_reducible rfl))
  show wpAnyH _ _ _ _ _ _ _ (Act.put _ (some 25) _) _
  simp only [Act.put, List.setIfInBounds_toArray, List.set_cons_succ, List.set_cons_zero]
  refine wpAnyH_take (i := 4) (oi := _) (v := ?_) rfl (by kernel_rfl) (by kernel_rfl) (by kernel_rfl) (fun _ _ _ h => h) (Or.inl ⟨by rfl, ?_⟩) (by assumption) ?_
  rotate_left
  · ((intro w hSw; (try dsimp only at hSw); go_simp) <;> (try with_reducible rfl))
  show wpAnyH _ _ _ _ _ _ _ (Act.put _ (some 27) _) _
  simp only [Act.put, List.setIfInBounds_toArray, List.set_cons_succ, List.set_cons_zero]
  refine wpAnyH_take (i := 5) (oi := _) (v := ?_) rfl (by kernel_rfl) (by kernel_rfl) (by kernel_rfl) (fun _ _ _ h => h) (Or.inl ⟨by rfl, ?_⟩) (by assumption) ?_
  rotate_left
  · ((intro w hSw; (try dsimp only at hSw); go_simp) <;> (try with_reducible rfl))
  show wpAnyH _ _ _ _ _ _ _ (Act.put _ (some 28) _) _
  simp only [Act.put, List.setIfInBounds_toArray, List.set_cons_succ, List.set_cons_zero]
  have K' := K.drew
  have E5' := E5.drew
  clear K E5
  have K := K'
  have E5 := E5'
  clear K' E5'
  generalize wa.drew = wb at *
  refine wpAnyH_ready (rs := [3, 10]) (by kernel_rfl) (by simp) ?_
  refine AllReadyH.cons (o := _) rfl (fun KK hKK => ?_) (AllReadyH.cons (o := _) rfl (fun KK hKK => ?_) AllReadyH.nil)
  · skip
    go_simp
    (go_at_call 13; refine (HR.out _ (by first | exact K.d | exact K.drew.d)).mono ?_; rintro e w' ⟨ra, rc, rfl, R1, hb'⟩)
    have K' := Kc.below (w' := w') (by first | exact K | exact K.drew) hb'
    have E5' := El.below (w' := w') (by first | exact E5 | exact E5.drew) hb'
    clear hb' K E5
    have K := K'
    have E5 := E5'
    clear K' E5'
    refine hKK.out _ _ ?_ (fun hHeld => ?_)
    · exact ⟨K.c2, K.c4, K.c5⟩
    clear hKK KK
    try simp only [Act.put]
    refine wpAnyH_ready (rs := [6, 10]) (by kernel_rfl) (by simp) ?_
    refine AllReadyH.cons (o := _) rfl (fun KK hKK => ?_) (AllReadyH.cons (o := _) rfl (fun KK hKK => ?_) AllReadyH.nil)
    · skip
      go_simp
      (go_at_call 12; refine (HU.out _ _ _ R1).mono ?_; rintro e w' ⟨rfl, hb'⟩)
      clear R1
      have K' := Kc.below (w' := w') (by first | exact K | exact K.drew) hb'
      have E5' := El.below (w' := w') (by first | exact E5 | exact E5.drew) hb'
      clear hb' K E5
      have K := K'
      have E5 := E5'
      clear K' E5'
      refine hKK.out _ _ ?_ (fun hHeld => ?_)
      · exact ⟨K.c2, K.c4, K.c5⟩
      clear hKK KK
      try simp only [Act.put]
      refine wpAnyH_take (i := 7) (oi := _) (v := ?_) rfl (by kernel_rfl) (by kernel_rfl) (by kernel_rfl) (fun _ _ _ h => h) (Or.inl ⟨by rfl, ?_⟩) (by assumption) ?_
      rotate_left
      · ((intro w hSw; (try dsimp only at hSw); go_simp) <;> (try with_reducible rfl))
      show wpAnyH _ _ _ _ _ _ _ (Act.put _ (some 22) _) _
      simp only [Act.put, List.setIfInBounds_toArray, List.set_cons_succ, List.set_cons_zero]
      refine wpAnyH_take (i := 8) (oi := _) (v := ?_) rfl (by kernel_rfl) (by kernel_rfl) (by kernel_rfl) (fun _ _ _ h => h) (Or.inl ⟨by rfl, ?_⟩) (by assumption) ?_
      rotate_left
      · ((intro w hSw; (try dsimp only at hSw); go_simp) <;> (try with_reducible rfl))
      show wpAnyH _ _ _ _ _ _ _ (Act.put _ (some 30) _) _
      simp only [Act.put, List.setIfInBounds_toArray, List.set_cons_succ, List.set_cons_zero]
      refine wpAnyH_take (i := 9) (oi := _) (v := ?_) rfl (by kernel_rfl) (by kernel_rfl) (by kernel_rfl) (fun _ _ _ h => h) (Or.inl ⟨by rfl, ?_⟩) (by assumption) ?_
      rotate_left
      · ((intro w hSw; (try dsimp only at hSw); go_simp) <;> (try with_reducible rfl))
      show wpAnyH _ _ _ _ _ _ _ (Act.put _ (some 31) _) _
      simp only [Act.put, List.setIfInBounds_toArray, List.set_cons_succ, List.set_cons_zero]
      refine wpAnyH_ready (rs := [10]) (by kernel_rfl) (by simp) ?_
      refine AllReadyH.cons (o := _) rfl (fun KK hKK => ?_) AllReadyH.nil
      go_simp
      have hq5 : q5 < w'.heap.size := E5.lt
      have hqW : W.heap.size < w'.heap.size := cell_lt K.c0
      have E7 : Ew (w'.alloc (Obj.cells #[.int .u64 0, .int .u64 0] 34)) w'.heap.size 0 0 := Ew.roomR w' _
      have K' := K.alloc (Obj.cells #[.int .u64 0, .int .u64 0] 34)
      have E5' := E5.alloc (Obj.cells #[.int .u64 0, .int .u64 0] 34)
      clear K E5
      have K := K'
      have E5 := E5'
      clear K' E5'
      generalize w'.alloc (Obj.cells #[.int .u64 0, .int .u64 0] 34) = v7 at *
      generalize w'.heap.size = q7 at *
      refine hKK.out _ _ ?_ (fun hHeld => ?_)
      · exact ⟨K.c2, K.c4, K.c5⟩
      clear hKK KK
      try simp only [Act.put]
      refine wpAnyH_ready (rs := [11]) (by kernel_rfl) (by simp) ?_
      refine AllReadyH.cons (o := _) rfl (fun KK hKK => ?_) AllReadyH.nil
      have r1 := E7.hi
      have r0 := E7.lo
      have f1 := E7.fhi
      have f0 := E7.flo
      go_simp
      have K' := K.put (g := q7) (Nat.le_of_lt hqW) (Nat.ne_of_lt hqW) (.int .u64 (t.1 : Int)) (.int .u64 (t.2 : Int))
      have E5' := E5.keepR (b := q7) (fun h => absurd h (by omega)) 0 1 (.int .u64 (t.1 : Int)) (.int .u64 (t.2 : Int))
      have E7' := E7.set t.1 t.2
      clear K E5 E7 r1 r0 f1 f0
      have K := K'
      have E5 := E5'
      have E7 := E7'
      clear K' E5' E7'
      refine hKK.out _ _ ?_ (fun hHeld => ?_)
      · exact ⟨K.c2, K.c4, K.c5⟩
      clear hKK KK
      try simp only [Act.put]
      refine wpAnyH_done (by kernel_rfl) ?_ _
      refine peel_last rfl (fun KK hKK => ?_)
      clear hHeld
      go_simp
      refine hKK _ _ ?_
      refine NoPanic.normal ?_
      exact CONT q5 q7 _ _ K E5 E7.toEl
    · skip
      go_simp
      have hq5 : q5 < w'.heap.size := E5.lt
      have hqW : W.heap.size < w'.heap.size := cell_lt K.c0
      have E7 : Ew (w'.alloc (Obj.cells #[.int .u64 0, .int .u64 0] 34)) w'.heap.size 0 0 := Ew.roomR w' _
      have K' := K.alloc (Obj.cells #[.int .u64 0, .int .u64 0] 34)
      have E5' := E5.alloc (Obj.cells #[.int .u64 0, .int .u64 0] 34)
      have R1' := R1.below ((Below.refl _ _).alloc (Nat.le_refl _) (Obj.cells #[.int .u64 0, .int .u64 0] 34))
      clear K E5 R1
      have K := K'
      have E5 := E5'
      have R1 := R1'
      clear K' E5' R1'
      generalize w'.alloc (Obj.cells #[.int .u64 0, .int .u64 0] 34) = v7 at *
      generalize w'.heap.size = q7 at *
      refine hKK.out _ _ ?_ (fun hHeld => ?_)
      · exact ⟨K.c2, K.c4, K.c5⟩
      clear hKK KK
      try simp only [Act.put]
      refine wpAnyH_ready (rs := [6]) (by kernel_rfl) (by simp) ?_
      refine AllReadyH.cons (o := _) rfl (fun KK hKK => ?_) AllReadyH.nil
      go_simp
      (go_at_call 12; refine (HU.out _ _ _ R1).mono ?_; rintro e w' ⟨rfl, hb'⟩)
      clear R1
      have K' := Kc.below (w' := w') (by first | exact K | exact K.drew) hb'
      have E5' := El.below (w' := w') (by first | exact E5 | exact E5.drew) hb'
      have E7' := Ew.below (w' := w') (by first | exact E7 | exact E7.drew) hb'
      clear hb' K E5 E7
      have K := K'
      have E5 := E5'
      have E7 := E7'
      clear K' E5' E7'
      refine hKK.out _ _ ?_ (fun hHeld => ?_)
      · exact ⟨K.c2, K.c4, K.c5⟩
      clear hKK KK
      try simp only [Act.put]
      refine wpAnyH_take (i := 7) (oi := _) (v := ?_) rfl (by kernel_rfl) (by kernel_rfl) (by kernel_rfl) (fun _ _ _ h => h) (Or.inl ⟨by rfl, ?_⟩) (by assumption) ?_
      rotate_left
      · ((intro w hSw; (try dsimp only at hSw); go_simp) <;> (try with_reducible rfl))
      show wpAnyH _ _ _ _ _ _ _ (Act.put _ (some 22) _) _
      simp only [Act.put, List.setIfInBounds_toArray, List.set_cons_succ, List.set_cons_zero]
      refine wpAnyH_take (i := 8) (oi := _) (v := ?_) rfl (by kernel_rfl) (by kernel_rfl) (by kernel_rfl) (fun _ _ _ h => h) (Or.inl ⟨by rfl, ?_⟩) (by assumption) ?_
      rotate_left
      · ((intro w hSw; (try dsimp only at hSw); go_simp) <;> (try with_reducible rfl))
      show wpAnyH _ _ _ _ _ _ _ (Act.put _ (some 30) _) _
      simp only [Act.put, List.setIfInBounds_toArray, List.set_cons_succ, List.set_cons_zero]
      refine wpAnyH_take (i := 9) (oi := _) (v := ?_) rfl (by kernel_rfl) (by kernel_rfl) (by kernel_rfl) (fun _ _ _ h => h) (Or.inl ⟨by rfl, ?_⟩) (by assumption) ?_
      rotate_left
      · ((intro w hSw; (try dsimp only at hSw); go_simp) <;> (try with_reducible rfl))
      show wpAnyH _ _ _ _ _ _ _ (Act.put _ (some 31) _) _
      simp only [Act.put, List.setIfInBounds_toArray, List.set_cons_succ, List.set_cons_zero]
      refine wpAnyH_ready (rs := [11]) (by kernel_rfl) (by simp) ?_
      refine AllReadyH.cons (o := _) rfl (fun KK hKK => ?_) AllReadyH.nil
      have r1 := E7.hi
      have r0 := E7.lo
      have f1 := E7.fhi
      have f0 := E7.flo
      go_simp
      have K' := K.put (g := q7) (Nat.le_of_lt hqW) (Nat.ne_of_lt hqW) (.int .u64 (t.1 : Int)) (.int .u64 (t.2 : Int))
      have E5' := E5.keepR (b := q7) (fun h => absurd h (by omega)) 0 1 (.int .u64 (t.1 : Int)) (.int .u64 (t.2 : Int))
      have E7' := E7.set t.1 t.2
      clear K E5 E7 r1 r0 f1 f0
      have K := K'
      have E5 := E5'
      have E7 := E7'
      clear K' E5' E7'
      refine hKK.out _ _ ?_ (fun hHeld => ?_)
      · exact ⟨K.c2, K.c4, K.c5⟩
      clear hKK KK
      try simp only [Act.put]
      refine wpAnyH_done (by kernel_rfl) ?_ _
      refine peel_last rfl (fun KK hKK => ?_)
      clear hHeld
      go_simp
      refine hKK _ _ ?_
      refine NoPanic.normal ?_
      exact CONT q5 q7 _ _ K E5 E7.toEl
  · skip
    go_simp
    have hq5 : q5 < wb.heap.size := E5.lt
    have hqW : W.heap.size < wb.heap.size := cell_lt K.c0
    have E7 : Ew (wb.alloc (Obj.cells #[.int .u64 0, .int .u64 0] 34)) wb.heap.size 0 0 := Ew.roomR wb _
    have K' := K.alloc (Obj.cells #[.int .u64 0, .int .u64 0] 34)
    have E5' := E5.alloc (Obj.cells #[.int .u64 0, .int .u64 0] 34)
    clear K E5
    have K := K'
    have E5 := E5'
    clear K' E5'
    generalize wb.alloc (Obj.cells #[.int .u64 0, .int .u64 0] 34) = v7 at *
    generalize wb.heap.size = q7 at *
    refine hKK.out _ _ ?_ (fun hHeld => ?_)
    · exact ⟨K.c2, K.c4, K.c5⟩
    clear hKK KK
    try simp only [Act.put]
    refine wpAnyH_ready (rs := [3]) (by kernel_rfl) (by simp) ?_
    refine AllReadyH.cons (o := _) rfl (fun KK hKK => ?_) AllReadyH.nil
    go_simp
    (go_at_call 13; refine (HR.out _ (by first | exact K.d | exact K.drew.d)).mono ?_; rintro e w' ⟨ra, rc, rfl, R1, hb'⟩)
    have K' := Kc.below (w' := w') (by first | exact K | exact K.drew) hb'
    have E5' := El.below (w' := w') (by first | exact E5 | exact E5.drew) hb'
    have E7' := Ew.below (w' := w') (by first | exact E7 | exact E7.drew) hb'
    clear hb' K E5 E7
    have K := K'
    have E5 := E5'
    have E7 := E7'
    clear K' E5' E7'
    refine hKK.out _ _ ?_ (fun hHeld => ?_)
    · exact ⟨K.c2, K.c4, K.c5⟩
    clear hKK KK
    try simp only [Act.put]
    refine wpAnyH_ready (rs := [6]) (by kernel_rfl) (by simp) ?_
    refine AllReadyH.cons (o := _) rfl (fun KK hKK => ?_) AllReadyH.nil
    go_simp
    (go_at_call 12; refine (HU.out _ _ _ R1).mono ?_; rintro e w' ⟨rfl, hb'⟩)
    clear R1
    have K' := Kc.below (w' := w') (by first | exact K | exact K.drew) hb'
    have E5' := El.below (w' := w') (by first | exact E5 | exact E5.drew) hb'
    have E7' := Ew.below (w' := w') (by first | exact E7 | exact E7.drew) hb'
    clear hb' K E5 E7
    have K := K'
    have E5 := E5'
    have E7 := E7'
    clear K' E5' E7'
    refine hKK.out _ _ ?_ (fun hHeld => ?_)
    · exact ⟨K.c2, K.c4, K.c5⟩
    clear hKK KK
    try simp only [Act.put]
    refine wpAnyH_take (i := 7) (oi := _) (v := ?_) rfl (by kernel_rfl) (by kernel_rfl) (by kernel_rfl) (fun _ _ _ h => h) (Or.inl ⟨by rfl, ?_⟩) (by assumption) ?_
    rotate_left
    · ((intro w hSw; (try dsimp only at hSw); go_simp) <;> (try with_reducible rfl))
    show wpAnyH _ _ _ _ _ _ _ (Act.put _ (some 22) _) _
    simp only [Act.put, List.setIfInBounds_toArray, List.set_cons_succ, List.set_cons_zero]
    refine wpAnyH_take (i := 8) (oi := _) (v := ?_) rfl (by kernel_rfl) (by kernel_rfl) (by kernel_rfl) (fun _ _ _ h => h) (Or.inl ⟨by rfl, ?_⟩) (by assumption) ?_
    rotate_left
    · ((intro w hSw; (try dsimp only at hSw); go_simp) <;> (try with_reducible rfl))
    show wpAnyH _ _ _ _ _ _ _ (Act.put _ (some 30) _) _
    simp only [Act.put, List.setIfInBounds_toArray, List.set_cons_succ, List.set_cons_zero]
    refine wpAnyH_take (i := 9) (oi := _) (v := ?_) rfl (by kernel_rfl) (by kernel_rfl) (by kernel_rfl) (fun _ _ _ h => h) (Or.inl ⟨by rfl, ?_⟩) (by assumption) ?_
    rotate_left
    · ((intro w hSw; (try dsimp only at hSw); go_simp) <;> (try with_reducible rfl))
    show wpAnyH _ _ _ _ _ _ _ (Act.put _ (some 31) _) _
    simp only [Act.put, List.setIfInBounds_toArray, List.set_cons_succ, List.set_cons_zero]
    refine wpAnyH_ready (rs := [11]) (by kernel_rfl) (by simp) ?_
    refine AllReadyH.cons (o := _) rfl (fun KK hKK => ?_) AllReadyH.nil
    have r1 := E7.hi
    have r0 := E7.lo
    have f1 := E7.fhi
    have f0 := E7.flo
    go_simp
    have K' := K.put (g := q7) (Nat.le_of_lt hqW) (Nat.ne_of_lt hqW) (.int .u64 (t.1 : Int)) (.int .u64 (t.2 : Int))
    have E5' := E5.keepR (b := q7) (fun h => absurd h (by omega)) 0 1 (.int .u64 (t.1 : Int)) (.int .u64 (t.2 : Int))
    have E7' := E7.set t.1 t.2
    clear K E5 E7 r1 r0 f1 f0
    have K := K'
    have E5 := E5'
    have E7 := E7'
    clear K' E5' E7'
    refine hKK.out _ _ ?_ (fun hHeld => ?_)
    · exact ⟨K.c2, K.c4, K.c5⟩
    clear hKK KK
    try simp only [Act.put]
    refine wpAnyH_done (by kernel_rfl) ?_ _
    refine peel_last rfl (fun KK hKK => ?_)
    clear hHeld
    go_simp
    refine hKK _ _ ?_
    refine NoPanic.normal ?_
    exact CONT q5 q7 _ _ K E5 E7.toEl
theorem ct_any (l C w : Int) (a z : Option Addr) (cap zcap : Nat) (cl : List Stp) (zs : List (Nat × Nat)) (b : Nat × Nat) (oc : okC cl) (lb : lt2 b) (W : World) (hr : ORow W a cl) :
    Calls Try.prog 3 #[.int .i64 l, .agg #[.int .i64 C, .int .i64 w, .slice a cl.length cap, .slice z zs.length zcap, .int .u64 (b.1 : Int), .int .u64 (b.2 : Int)]] W fun e w' => e = .returned (.bool true) ∧ Below W.heap.size W w' := by
  by_cases h : fwB C w cl.length zs.length
  · exact ct_main l C w a z cap zcap cl.length cl zs b rfl h oc lb W hr
  · exact ct_far l C w a z cap zcap cl zs b h W
end Go.Proofs.Ytejoombhcnldmaa
