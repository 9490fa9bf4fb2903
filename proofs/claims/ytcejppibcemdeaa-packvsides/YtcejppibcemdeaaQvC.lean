/- PackvSides over the seat's translation: all cases. -/
import Derived.Test.YtcejppibcemdeaaQvB
import Derived.Test.YtcejppibcemdeaaPSlD
namespace Go.Proofs.Ytcejppibcemdeaa
open Go.RowKit
open Cb Rg
open Tw (pm)
namespace Pv

set_option linter.unusedSimpArgs false in
set_option linter.unusedVariables false in
set_option maxHeartbeats 8000000 in
set_option maxRecDepth 100000 in
theorem sd_few (l : Int) (a1 a2 : Option Addr) (n1 c1 n2 c2 : Nat) (a : Nat × Nat) (W : World)
    (HF : Hid (∀ R : World, Below W.heap.size W R → Calls Try.prog 15 #[.int .i64 l, .slice (some ⟨R.heap.size, 0, none⟩) 2 2] (R.alloc (Obj.cells #[.slice a1 n1 c1, .slice a2 n2 c2] 25)) fun e w' => e = .returned (.bool false) ∧ Below R.heap.size R w')) :
    Calls Try.prog 5 #[.int .i64 l, .slice a1 n1 c1, .agg #[.int .u64 (a.1 : Int), .int .u64 (a.2 : Int), .slice a2 n2 c2]] W fun e w' => e = .returned (.bool true) ∧ Below W.heap.size W w' := by
  have AW := hidT awake19
  obtain ⟨W1, hW1⟩ : ∃ x, x = W.alloc (Obj.cells #[.int .u64 (a.1 : Int), .int .u64 (a.2 : Int), .slice a2 n2 c2] 48) := ⟨_, rfl⟩
  have D0 := hidT (show Below W.heap.size W W1 from hW1 ▸ (Below.refl _ _).alloc (Nat.le_refl _) _)
  have hs0 : W1.heap.size = W.heap.size + 1 := by rw [hW1]; simp
  have A0 : W1.cell? ⟨W.heap.size, 0, none⟩ = some (.int .u64 (a.1 : Int)) ∧ W1.cell? ⟨W.heap.size, 1, none⟩ = some (.int .u64 (a.2 : Int)) ∧ W1.cell? ⟨W.heap.size, 2, none⟩ = some (.slice a2 n2 c2) := by subst hW1; exact ⟨by simp [go_sem], by simp [go_sem], by simp [go_sem]⟩
  have CA := hidT (fun w (hb : Below W1.heap.size W1 w) => show w.cell? ⟨W.heap.size, 0, none⟩ = some (.int .u64 (a.1 : Int)) ∧ w.cell? ⟨W.heap.size, 1, none⟩ = some (.int .u64 (a.2 : Int)) ∧ w.cell? ⟨W.heap.size, 2, none⟩ = some (.slice a2 n2 c2) from ⟨keepc hb A0.1, keepc hb A0.2.1, keepc hb A0.2.2⟩)
  have LW := hidT (show W.heap.size < W1.heap.size from by rw [hs0]; omega)
  clear hs0
  obtain ⟨f0, f1, f2⟩ := A0
  go_enter Try.func5, Try.ntmps5
  go_upto_region 1 with fail
  rw [← hW1]
  clear hW1
  go_wp2_with (first
    | (go_at_call 15; refine (HF.out W1 D0.out).mono ?_; rintro e w1 ⟨rfl, hb1⟩; have K1 := hidT hb1; clear hb1 f0 f1 f2; obtain ⟨f0, f1, f2⟩ := CA.out _ K1.out)
    | (go_at_call 10; refine (AW.out.go _).mono ?_; rintro e w2 ⟨rfl, hb⟩; have K2 := hidT (K1.out.trans (hb.mono K1.out.size)); clear hb))
  go_ret
  exact ⟨rfl, D0.out.trans (K2.out.mono D0.out.size)⟩
theorem hdv_bes (k N : Nat) (s : List (Nat × Nat)) (a : Nat × Nat) : hdv k N [s] [a] = if hdv k N [s, s] [] = 0 then (if ofB (k : Int) (a.1 : Int) (a.2 : Int) = true then 0 else 5) else hdv k N [s, s] [] := by
  unfold hdv szB alB
  by_cases e1 : s.length = N <;> cases hB : (s.all fun e => ofB (k : Int) (e.1 : Int) (e.2 : Int)) <;> cases hC : ofB (k : Int) (a.1 : Int) (a.2 : Int) <;> simp [e1, hB, hC]
theorem up_below {R w' : World} {o : Obj} (h : Below (R.alloc o).heap.size (R.alloc o) w') : Below R.heap.size R w' := ((Below.refl R.heap.size R).alloc (Nat.le_refl _) _).trans (h.mono (by simp))
theorem sd_any (l : Int) (a1 a2 : Option Addr) (c1 c2 : Nat) (s t : List (Nat × Nat)) (a : Nat × Nat) (ls : ltE s) (lt : ltE t) (la : lt2 a) (W : World) (rs : ERow W a1 s) (rt : ERow W a2 t) :
    Calls Try.prog 5 #[.int .i64 l, .slice a1 s.length c1, .agg #[.int .u64 (a.1 : Int), .int .u64 (a.2 : Int), .slice a2 t.length c2]] W fun e w' => e = .returned (.bool true) ∧ Below W.heap.size W w' := by
  have HF0 := fun (R : World) (_ : Below W.heap.size W R) => (few19 l (some ⟨R.heap.size, 0, none⟩) 2 2 [(a1, s.length, c1), (a2, t.length, c2)] rfl (by decide) (R.alloc (Obj.cells #[.slice a1 s.length c1, .slice a2 t.length c2] 25)) (grid_new R _ [(a1, s.length, c1), (a2, t.length, c2)] _ rfl)).mono fun e w' h => show e = .returned (.bool (fw19 l [(a1, s.length, c1), (a2, t.length, c2)])) ∧ Below R.heap.size R w' from ⟨h.1, up_below h.2⟩
  have HF := hidT HF0
  clear HF0
  cases hfw : fw19 l [(a1, s.length, c1), (a2, t.length, c2)] with
  | false =>
    rw [hfw] at HF
    exact sd_few l a1 a2 _ c1 _ c2 a W HF
  | true =>
    rw [hfw] at HF
    have h20 : s.length ≤ 20 ∧ t.length ≤ 20 := by
      unfold fw19 at hfw
      simp at hfw
      exact hfw.2
    have HR1 := fun w (hw : Below W.heap.size W w) => ref_row a1 c1 s (by omega) w (rs.below hw)
    have HR2 := fun w (hw : Below W.heap.size W w) => ref_row a2 c2 t (by omega) w (rt.below hw)
    by_cases hl : 0 ≤ l ∧ l ≤ 7
    · obtain ⟨k, rfl⟩ : ∃ k : Nat, l = (k : Int) := ⟨l.toNat, by omega⟩
      have hk : k < 8 := by omega
      obtain ⟨N, hN⟩ : ∃ N, N = 2 ^ k := ⟨_, rfl⟩
      have n128 : N ≤ 128 := by rw [hN]; exact pow128 hk
      have n0 : 0 < N := by rw [hN]; exact Nat.two_pow_pos k
      have HM := fun w (a b : Option Addr) (c d : Nat) (x : ERow w a s) (y : ERow w b t) => rmayv k hk N hN a b c d s t ls lt (by omega) (by omega) w x y
      have HM1 := fun w (a : Option Addr) (c : Nat) (x : ERow w a s) => rmayv k hk N hN a a c c s s ls ls (by omega) (by omega) w x x
      have HI2 := fun w (hw : Below W.heap.size W w) (R : World) (hR : Below w.heap.size w R) => hind_two k hk N hN a1 a2 c1 c2 s t ls lt (by omega) (by omega) R ((rs.below hw).below hR) ((rt.below hw).below hR)
      have HI1 := fun w (hw : Below W.heap.size W w) (R : World) (b : Nat) (hR : Below w.heap.size w R) (ra : ERow R (some ⟨b, 0, none⟩) [a]) => hind_bes k hk N hN b 1 a la a1 c1 s ls (by omega) R ra ((rs.below hw).below hR)
      have hB := hdv_bes k N s a
      have OF := rof_any (k : Int) a.1 a.2 la.1 la.2
      have HD := fun w (x y : Option Addr) (c d : Nat) (p : ERow w x s) (q : ERow w y t) => rdot_any (k : Int) x y c d s t ls lt (by omega) w p q
      have HD1 := fun w (hw : Below W.heap.size W w) => dot_any (k : Int) a1 a2 c1 c2 s t ls lt (by omega) w (rs.below hw) (rt.below hw)
      by_cases hE1 : hdv k N [s, s] [] = 0
      · obtain ⟨z1, _, z3, _⟩ := hdv_zero hE1
        rw [if_pos hE1] at hB
        rw [hE1] at HM1
        obtain ⟨b1, o1, e1, _⟩ := rs.cells 0 (by omega)
        subst e1
        cases hof : ofB (k : Int) (a.1 : Int) (a.2 : Int) with
        | false =>
          rw [hof] at hB OF
          rw [if_neg (by decide)] at hB
          rw [hB] at HI1
          have L := fun w hw => byl_no (k : Int) 5 (some ⟨b1, o1, none⟩) s.length c1 a la (by decide) w (HI1 w hw)
          have G := fun w hw => byr_no (k : Int) 5 (some ⟨b1, o1, none⟩) s.length c1 a la (by decide) w (HI1 w hw)
          by_cases hF : hdv k N [s, t] [] = 0
          · rw [hF] at HM HI2
            exact sd_bo (k : Int) _ a2 _ c1 _ c2 s t a _ W HF L G (fun w hw => fold_ok (k : Int) _ a2 _ c1 _ c2 _ w (HI2 w hw) (fun u hu => HD1 u (hw.trans (hu.mono hw.size)))) HR1 HR2 HM HM1 OF HD
          · exact sd_bn (k : Int) _ hF _ a2 _ c1 _ c2 s t a (0, 0) W HF L G (fun w hw => fold_no (k : Int) _ _ a2 _ c1 _ c2 hF w (HI2 w hw)) HR1 HR2 HM HM1 OF
        | true =>
          rw [hof] at hB OF
          rw [if_pos rfl] at hB
          rw [hB] at HI1
          have ePL : prL k s (pairv N a (0, 1)) = trns N (rgt (trns N s) a) := by
            rw [hN]
            exact (lft_prL (by omega) (z1.trans hN) ls z3 la hof).symm
          have ePR : prL k s (pairv N (0, 1) a) = rgt s a := by
            rw [hN]
            exact rgt_prL (by omega) (z1.trans hN) a
          have BL := fun w (hw : Below W.heap.size W w) => byleft_any k hk N hN b1 o1 c1 s z1 ls z3 a la hof w (rs.below hw)
          have BR := fun w (hw : Below W.heap.size W w) => (byright_any k hk N n128 b1 o1 c1 s z1 ls z3 a la hof w (rs.below hw)).mono fun e w' ⟨g, h1, h2, h3⟩ => (⟨g, h1, h2.1, h3⟩ : ∃ g : Nat, e = Ending.returned (.slice (some ⟨g, 0, none⟩) N N) ∧ ERow w' (some ⟨g, 0, none⟩) (rgt s a) ∧ Below w.heap.size w w')
          have PL := fun w => (rpair k hk N hN a (0, 1) la lt_one w).mono fun e w' ⟨g, c, h1, _, h3, _, h5⟩ => (⟨g, c, h1, h3, h5⟩ : ∃ g c : Nat, e = Ending.returned (.slice (some ⟨g, 0, none⟩) N c) ∧ ERow w' (some ⟨g, 0, none⟩) (pairv N a (0, 1)) ∧ Below w.heap.size w w')
          have PR := fun w => (rpair k hk N hN (0, 1) a lt_one la w).mono fun e w' ⟨g, c, h1, _, h3, _, h5⟩ => (⟨g, c, h1, h3, h5⟩ : ∃ g c : Nat, e = Ending.returned (.slice (some ⟨g, 0, none⟩) N c) ∧ ERow w' (some ⟨g, 0, none⟩) (pairv N (0, 1) a) ∧ Below w.heap.size w w')
          have TL := fun w (g f c g2 f2 d : Nat) (x : ERow w (some ⟨g, f, none⟩) s) (y : ERow w (some ⟨g2, f2, none⟩) (pairv N a (0, 1))) => rtimes k hk N hN g f c g2 f2 d s (pairv N a (0, 1)) z1 (pairv_len _ _ _) ls (lt_pairv _ _ lt_one) w x y
          have TR := fun w (g f c g2 f2 d : Nat) (x : ERow w (some ⟨g, f, none⟩) s) (y : ERow w (some ⟨g2, f2, none⟩) (pairv N (0, 1) a)) => rtimes k hk N hN g f c g2 f2 d s (pairv N (0, 1) a) z1 (pairv_len _ _ _) ls (lt_pairv _ _ la) w x y
          rw [ePL] at TL
          rw [ePR] at TR
          rw [z1] at HF HR1 HM HM1 HI1 HI2 HD HD1 ⊢
          have L := fun w (hw : Below W.heap.size W w) => byl_ok (k : Int) (some ⟨b1, o1, none⟩) N c1 a la _ w (HI1 w hw) (fun u hu => BL u (hw.trans (hu.mono hw.size)))
          have G := fun w (hw : Below W.heap.size W w) => byr_ok (k : Int) (some ⟨b1, o1, none⟩) N c1 a la _ w (HI1 w hw) (fun u hu => BR u (hw.trans (hu.mono hw.size)))
          by_cases hF : hdv k N [s, t] [] = 0
          · obtain ⟨_, z2, _, _⟩ := hdv_zero hF
            rw [z2] at HF HR2 HM HI2 HD HD1 ⊢
            rw [hF] at HM HI2
            exact sd_oo (k : Int) _ a2 N c1 N c2 s t (trns N (rgt (trns N s) a)) (rgt s a) n0 z1 (trns_len _ _) ((rgt_len _ _).trans z1) n128 a _ W HF L G (fun w hw => fold_ok (k : Int) _ a2 _ c1 _ c2 _ w (HI2 w hw) (fun u hu => HD1 u (hw.trans (hu.mono hw.size)))) HR1 HR2 HM HM1 OF HD PL TL PR TR
          · exact sd_on (k : Int) _ hF _ a2 N c1 _ c2 s t (trns N (rgt (trns N s) a)) (rgt s a) n0 z1 (trns_len _ _) ((rgt_len _ _).trans z1) n128 a (0, 0) W HF L G (fun w hw => fold_no (k : Int) _ _ a2 _ c1 _ c2 hF w (HI2 w hw)) HR1 HR2 HM HM1 OF PL TL PR TR
      · rw [if_neg hE1] at hB
        rw [hB] at HI1
        have hF : ¬ hdv k N [s, t] [] = 0 := fun h => hE1 (by
          obtain ⟨z1, _, z3, _⟩ := hdv_zero h
          exact hdv_two z1 z1 z3 z3)
        exact sd_mn (k : Int) _ _ hE1 hF a1 a2 _ c1 _ c2 s t a (0, 0) W HF
          (fun w hw => byl_no (k : Int) _ a1 s.length c1 a la hE1 w (HI1 w hw))
          (fun w hw => byr_no (k : Int) _ a1 s.length c1 a la hE1 w (HI1 w hw))
          (fun w hw => fold_no (k : Int) _ a1 a2 _ c1 _ c2 hF w (HI2 w hw)) HR1 HR2 HM HM1
    · have HH := fun (R : World) (x y : Option Addr) (n c n2 c2 : Nat) (o : Obj) => (phind_lev l hl x y n c n2 c2 (R.alloc o)).mono fun e w' h => show e = .returned (.int .i64 1) ∧ Below R.heap.size R w' from ⟨h.1, up_below h.2⟩
      exact sd_mn l 1 1 (by decide) (by decide) a1 a2 _ c1 _ c2 s t a (0, 0) W HF
        (fun w hw => byl_no l 1 a1 s.length c1 a la (by decide) w (fun R b _ _ => HH R _ _ _ _ _ _ _))
        (fun w hw => byr_no l 1 a1 s.length c1 a la (by decide) w (fun R b _ _ => HH R _ _ _ _ _ _ _))
        (fun w hw => fold_no l 1 a1 a2 _ c1 _ c2 (by decide) w (fun R _ => HH R _ _ _ _ _ _ _))
        HR1 HR2 (fun w a b c d _ _ => may_bad l hl a b _ c _ d w) (fun w a c _ => may_bad l hl a a _ c _ c w)
end Pv
end Go.Proofs.Ytcejppibcemdeaa
