/- PackvRing over the seat's translation. -/
import Derived.Test.YtcejppibcemdeaaPvV
import Derived.Test.YtcejppibcemdeaaPvT
import Derived.Test.YtcejppibcemdeaaSmA
import Derived.BigRegion
namespace Go.Proofs.Ytcejppibcemdeaa
open Go.RowKit
open Cb Rg
open Tw (pm)
namespace Pv

/-- Rows that lie in memory. -/
def Hold (w : World) (L : List (Nat × Nat × List (Nat × Nat))) : Prop := ∀ r ∈ L, ERow w (some ⟨r.1, r.2.1, none⟩) r.2.2
theorem Hold.below {w w' : World} {L : List (Nat × Nat × List (Nat × Nat))} (h : Hold w L) (hb : Below w.heap.size w w') : Hold w' L := fun r hr => (h r hr).below hb
theorem Hold.cons {w : World} {L : List (Nat × Nat × List (Nat × Nat))} {g f : Nat} {X : List (Nat × Nat)} (x : ERow w (some ⟨g, f, none⟩) X) (h : Hold w L) : Hold w ((g, f, X) :: L) := fun r hr => by
  rcases List.mem_cons.1 hr with rfl | hr
  · exact x
  · exact h r hr
/-- A tensor of a level. -/
def Gd (k N : Nat) (X : List (Nat × Nat)) : Prop := X.length = N ∧ ltE X ∧ ofT k X
theorem of_ad2 {k : Nat} (hk : k < 8) {s t : List (Nat × Nat)} (h1 : ofT k s) (h2 : ofT k t) : ofT k (ad2 s t) := ofT_of fun i hi => by
  rw [ad2_len] at hi
  have e : xa (el s i) (el t i) = xs 2 (fun j => if j = 0 then el s i else el t i) := by rw [xs_two']; rfl
  rw [ad2_el s t hi, e]
  exact of_xs hk 2 fun j _ => by
    by_cases e : j = 0
    · rw [if_pos e]; exact h1.el hk i
    · rw [if_neg e]; exact h2.el hk i
theorem of_pairv {k : Nat} (hk : k < 8) (N : Nat) (a : Nat × Nat) {b : Nat × Nat} (hb : ofE k b) : ofT k (pairv N a b) := ofT_of fun i hi => by
  rw [pairv_len] at hi
  rw [pairv_at N a b i hi]
  exact of_sl hk hb
set_option maxHeartbeats 4000000 in
theorem alike19 (N : Nat) (n1 : N ≤ 128) (b1 o1 c1 b2 o2 c2 : Nat) (X : List (Nat × Nat)) (hX : X.length = N) (W : World) (r1 : ERow W (some ⟨b1, o1, none⟩) X) (r2 : ERow W (some ⟨b2, o2, none⟩) X) :
    Calls Try.prog 28 #[.slice (some ⟨b1, o1, none⟩) N c1, .slice (some ⟨b2, o2, none⟩) N c2] W fun e w' => e = .returned (.bool true) ∧ Below W.heap.size W w' := by
  have HR := hidT (ref_row (some ⟨b2, o2, none⟩) c2 X (by omega) W r2)
  rw [hX] at HR
  have SM := hidT (fun (a b : Option Addr) (c d : Nat) (w : World) (h1 : ERow w a X) (h2 : ERow w b X) => same_rows a b c d X (by omega) w h1 h2)
  rw [hX] at SM
  have R1 := hidT r1
  clear hX r1 r2
  go_enter Try.func28, Try.ntmps28
  go_wp2_with (first
    | (go_at_call 19; refine HR.out.mono ?_; rintro e w1 ⟨a, c, rfl, hr, hb⟩; have K1 := hidT (And.intro (R1.out.below hb) (And.intro hr hb)); clear hr hb)
    | (go_at_call 12; refine (SM.out _ _ _ _ _ K1.out.1 K1.out.2.1).mono ?_; rintro e w2 ⟨rfl, hb⟩; have K2 := hidT (K1.out.2.2.trans (hb.mono K1.out.2.2.size)); clear hb))
  go_ret
  exact ⟨rfl, K2.out⟩
set_option linter.unusedSimpArgs false in
set_option linter.unusedVariables false in
set_option maxHeartbeats 20000000 in
set_option maxRecDepth 100000 in
theorem pg_far (l : Int) (hl3 : 3 < l) (a1 a2 a3 : Option Addr) (n1 c1 n2 c2 n3 c3 : Nat) (W : World) :
    Calls Try.prog 6 #[.int .i64 l, .agg #[.slice a1 n1 c1, .slice a2 n2 c2, .slice a3 n3 c3]] W fun e w' => e = .returned (.bool true) ∧ Below W.heap.size W w' := by
  obtain ⟨W1, hW1⟩ : ∃ x, x = W.alloc (Obj.cells #[.slice a1 n1 c1, .slice a2 n2 c2, .slice a3 n3 c3] 54) := ⟨_, rfl⟩
  have D0 := hidT (show Below W.heap.size W W1 from hW1 ▸ (Below.refl _ _).alloc (Nat.le_refl _) _)
  have C0 : W1.cell? ⟨W.heap.size, 0, none⟩ = some (.slice a1 n1 c1) ∧ W1.cell? ⟨W.heap.size, 1, none⟩ = some (.slice a2 n2 c2) ∧ W1.cell? ⟨W.heap.size, 2, none⟩ = some (.slice a3 n3 c3) := by subst hW1; exact ⟨by simp [go_sem], by simp [go_sem], by simp [go_sem]⟩
  have EE := hidT (fun w (hb : Below W1.heap.size W1 w) => show w.cell? ⟨W.heap.size, 0, none⟩ = some (.slice a1 n1 c1) ∧ w.cell? ⟨W.heap.size, 1, none⟩ = some (.slice a2 n2 c2) ∧ w.cell? ⟨W.heap.size, 2, none⟩ = some (.slice a3 n3 c3) from ⟨keepc hb C0.1, keepc hb C0.2.1, keepc hb C0.2.2⟩)
  have AW := hidT awake19
  obtain ⟨f0, f1, f2⟩ := C0
  go_enter Try.func6, Try.ntmps6
  go_upto_region 1 with fail
  rw [← hW1]
  clear hW1
  go_wp2_with (go_at_call 10; refine (AW.out.go _).mono ?_; rintro e vv ⟨rfl, hb⟩; have K4 := hidT hb; clear hb)
  go_ret
  exact ⟨rfl, D0.out.trans (K4.out.mono D0.out.size)⟩
set_option linter.unusedSimpArgs false in
set_option linter.unusedVariables false in
set_option maxHeartbeats 20000000 in
set_option maxRecDepth 100000 in
theorem pg_few (l : Int) (hl3 : ¬ 3 < l) (a1 a2 a3 : Option Addr) (n1 c1 n2 c2 n3 c3 : Nat) (W : World) (HF : Hid (∀ w, Calls Try.prog 15 #[.int .i64 l, .slice (some ⟨w.heap.size, 0, none⟩) 3 3] (w.alloc (Obj.cells #[.slice a1 n1 c1, .slice a2 n2 c2, .slice a3 n3 c3] 25)) fun e w' => e = .returned (.bool false) ∧ Below w.heap.size w w')) :
    Calls Try.prog 6 #[.int .i64 l, .agg #[.slice a1 n1 c1, .slice a2 n2 c2, .slice a3 n3 c3]] W fun e w' => e = .returned (.bool true) ∧ Below W.heap.size W w' := by
  obtain ⟨W1, hW1⟩ : ∃ x, x = W.alloc (Obj.cells #[.slice a1 n1 c1, .slice a2 n2 c2, .slice a3 n3 c3] 54) := ⟨_, rfl⟩
  have D0 := hidT (show Below W.heap.size W W1 from hW1 ▸ (Below.refl _ _).alloc (Nat.le_refl _) _)
  have C0 : W1.cell? ⟨W.heap.size, 0, none⟩ = some (.slice a1 n1 c1) ∧ W1.cell? ⟨W.heap.size, 1, none⟩ = some (.slice a2 n2 c2) ∧ W1.cell? ⟨W.heap.size, 2, none⟩ = some (.slice a3 n3 c3) := by subst hW1; exact ⟨by simp [go_sem], by simp [go_sem], by simp [go_sem]⟩
  have EE := hidT (fun w (hb : Below W1.heap.size W1 w) => show w.cell? ⟨W.heap.size, 0, none⟩ = some (.slice a1 n1 c1) ∧ w.cell? ⟨W.heap.size, 1, none⟩ = some (.slice a2 n2 c2) ∧ w.cell? ⟨W.heap.size, 2, none⟩ = some (.slice a3 n3 c3) from ⟨keepc hb C0.1, keepc hb C0.2.1, keepc hb C0.2.2⟩)
  have AW := hidT awake19
  obtain ⟨f0, f1, f2⟩ := C0
  go_enter Try.func6, Try.ntmps6
  go_upto_region 1 with fail
  rw [← hW1]
  clear hW1
  go_wp2_with (first
    | (go_at_call 15; refine (HF.out W1).mono ?_; rintro e w1 ⟨rfl, hb1⟩; have K0 := hidT hb1; clear hb1 f0 f1 f2; obtain ⟨f0, f1, f2⟩ := EE.out _ K0.out)
    | (go_at_call 10; refine (AW.out.go _).mono ?_; rintro e vv ⟨rfl, hb⟩; have K4 := hidT (K0.out.trans (hb.mono K0.out.size)); clear hb))
  go_ret
  exact ⟨rfl, D0.out.trans (K4.out.mono D0.out.size)⟩
set_option linter.unusedSimpArgs false in
set_option linter.unusedVariables false in
set_option maxHeartbeats 20000000 in
set_option maxRecDepth 100000 in
theorem pg_err1 (l E1 E2 E3 : Int) (hE : ¬ E1 = 0) (hl3 : ¬ 3 < l) (a1 a2 a3 : Option Addr) (n1 c1 n2 c2 n3 c3 : Nat) (W : World) (HF : Hid (∀ w, Calls Try.prog 15 #[.int .i64 l, .slice (some ⟨w.heap.size, 0, none⟩) 3 3] (w.alloc (Obj.cells #[.slice a1 n1 c1, .slice a2 n2 c2, .slice a3 n3 c3] 25)) fun e w' => e = .returned (.bool true) ∧ Below w.heap.size w w'))
    (T1 : Hid (∀ w, Below W.heap.size W w → Calls Try.prog 17 #[.int .i64 l, .slice a1 n1 c1, .slice a2 n2 c2] w fun e w' => ∃ v, e = .returned (.tuple #[v, .int .i64 E1]) ∧ Below w.heap.size w w'))
    (T2 : Hid (∀ w, Below W.heap.size W w → Calls Try.prog 17 #[.int .i64 l, .slice a2 n2 c2, .slice a3 n3 c3] w fun e w' => ∃ v, e = .returned (.tuple #[v, .int .i64 E2]) ∧ Below w.heap.size w w'))
    (T3 : Hid (∀ w, Below W.heap.size W w → Calls Try.prog 17 #[.int .i64 l, .slice a1 n1 c1, .slice a3 n3 c3] w fun e w' => ∃ v, e = .returned (.tuple #[v, .int .i64 E3]) ∧ Below w.heap.size w w')) :
    Calls Try.prog 6 #[.int .i64 l, .agg #[.slice a1 n1 c1, .slice a2 n2 c2, .slice a3 n3 c3]] W fun e w' => e = .returned (.bool true) ∧ Below W.heap.size W w' := by
  have hz : (E1 == 0) = false := by rw [beq_eq_false_iff_ne]; exact hE
  obtain ⟨W1, hW1⟩ : ∃ x, x = W.alloc (Obj.cells #[.slice a1 n1 c1, .slice a2 n2 c2, .slice a3 n3 c3] 54) := ⟨_, rfl⟩
  have D0 := hidT (show Below W.heap.size W W1 from hW1 ▸ (Below.refl _ _).alloc (Nat.le_refl _) _)
  have C0 : W1.cell? ⟨W.heap.size, 0, none⟩ = some (.slice a1 n1 c1) ∧ W1.cell? ⟨W.heap.size, 1, none⟩ = some (.slice a2 n2 c2) ∧ W1.cell? ⟨W.heap.size, 2, none⟩ = some (.slice a3 n3 c3) := by subst hW1; exact ⟨by simp [go_sem], by simp [go_sem], by simp [go_sem]⟩
  have EE := hidT (fun w (hb : Below W1.heap.size W1 w) => show w.cell? ⟨W.heap.size, 0, none⟩ = some (.slice a1 n1 c1) ∧ w.cell? ⟨W.heap.size, 1, none⟩ = some (.slice a2 n2 c2) ∧ w.cell? ⟨W.heap.size, 2, none⟩ = some (.slice a3 n3 c3) from ⟨keepc hb C0.1, keepc hb C0.2.1, keepc hb C0.2.2⟩)
  have AW := hidT awake19
  obtain ⟨f0, f1, f2⟩ := C0
  go_enter Try.func6, Try.ntmps6
  go_upto_region 1 with fail
  rw [← hW1]
  clear hW1
  go_upto_region 3 with (go_at_call 15; refine (HF.out W1).mono ?_; rintro e w1 ⟨rfl, hb1⟩; have K0 := hidT hb1; clear hb1 f0 f1 f2; obtain ⟨f0, f1, f2⟩ := EE.out _ K0.out)
  go_region
  have K00 := hidT K0.out.drew
  clear K0 f0 f1 f2
  have K0 := K00
  clear K00
  go_wp2_with (first
    | (go_at_call 10; refine (AW.out.go _).mono ?_; rintro e vv ⟨rfl, hb⟩; have K4 := hidT (K3.out.trans (hb.mono K3.out.size)); clear hb)
    | (go_at_call 17; refine (T3.out _ (D0.out.trans (K2.out.mono D0.out.size))).mono ?_; rintro e wK3 ⟨vK3, rfl, hb⟩; have K3 := hidT (K2.out.trans (hb.mono K2.out.size)); clear hb)
    | (go_at_call 17; refine (T2.out _ (D0.out.trans (K1.out.mono D0.out.size))).mono ?_; rintro e wK2 ⟨vK2, rfl, hb⟩; have K2 := hidT (K1.out.trans (hb.mono K1.out.size)); clear hb)
    | (go_at_call 17; refine (T1.out _ (D0.out.trans (K0.out.mono D0.out.size))).mono ?_; rintro e wK1 ⟨vK1, rfl, hb⟩; have K1 := hidT (K0.out.trans (hb.mono K0.out.size)); clear hb))
  go_ret
  exact ⟨by first | rfl | simp, D0.out.trans (K4.out.mono D0.out.size)⟩
set_option linter.unusedSimpArgs false in
set_option linter.unusedVariables false in
set_option maxHeartbeats 20000000 in
set_option maxRecDepth 100000 in
theorem pg_err2 (l E2 E3 : Int) (hE : ¬ E2 = 0) (hl3 : ¬ 3 < l) (a1 a2 a3 : Option Addr) (n1 c1 n2 c2 n3 c3 : Nat) (W : World) (HF : Hid (∀ w, Calls Try.prog 15 #[.int .i64 l, .slice (some ⟨w.heap.size, 0, none⟩) 3 3] (w.alloc (Obj.cells #[.slice a1 n1 c1, .slice a2 n2 c2, .slice a3 n3 c3] 25)) fun e w' => e = .returned (.bool true) ∧ Below w.heap.size w w'))
    (T1 : Hid (∀ w, Below W.heap.size W w → Calls Try.prog 17 #[.int .i64 l, .slice a1 n1 c1, .slice a2 n2 c2] w fun e w' => ∃ v, e = .returned (.tuple #[v, .int .i64 0]) ∧ Below w.heap.size w w'))
    (T2 : Hid (∀ w, Below W.heap.size W w → Calls Try.prog 17 #[.int .i64 l, .slice a2 n2 c2, .slice a3 n3 c3] w fun e w' => ∃ v, e = .returned (.tuple #[v, .int .i64 E2]) ∧ Below w.heap.size w w'))
    (T3 : Hid (∀ w, Below W.heap.size W w → Calls Try.prog 17 #[.int .i64 l, .slice a1 n1 c1, .slice a3 n3 c3] w fun e w' => ∃ v, e = .returned (.tuple #[v, .int .i64 E3]) ∧ Below w.heap.size w w')) :
    Calls Try.prog 6 #[.int .i64 l, .agg #[.slice a1 n1 c1, .slice a2 n2 c2, .slice a3 n3 c3]] W fun e w' => e = .returned (.bool true) ∧ Below W.heap.size W w' := by
  have hz : (E2 == 0) = false := by rw [beq_eq_false_iff_ne]; exact hE
  obtain ⟨W1, hW1⟩ : ∃ x, x = W.alloc (Obj.cells #[.slice a1 n1 c1, .slice a2 n2 c2, .slice a3 n3 c3] 54) := ⟨_, rfl⟩
  have D0 := hidT (show Below W.heap.size W W1 from hW1 ▸ (Below.refl _ _).alloc (Nat.le_refl _) _)
  have C0 : W1.cell? ⟨W.heap.size, 0, none⟩ = some (.slice a1 n1 c1) ∧ W1.cell? ⟨W.heap.size, 1, none⟩ = some (.slice a2 n2 c2) ∧ W1.cell? ⟨W.heap.size, 2, none⟩ = some (.slice a3 n3 c3) := by subst hW1; exact ⟨by simp [go_sem], by simp [go_sem], by simp [go_sem]⟩
  have EE := hidT (fun w (hb : Below W1.heap.size W1 w) => show w.cell? ⟨W.heap.size, 0, none⟩ = some (.slice a1 n1 c1) ∧ w.cell? ⟨W.heap.size, 1, none⟩ = some (.slice a2 n2 c2) ∧ w.cell? ⟨W.heap.size, 2, none⟩ = some (.slice a3 n3 c3) from ⟨keepc hb C0.1, keepc hb C0.2.1, keepc hb C0.2.2⟩)
  have AW := hidT awake19
  obtain ⟨f0, f1, f2⟩ := C0
  go_enter Try.func6, Try.ntmps6
  go_upto_region 1 with fail
  rw [← hW1]
  clear hW1
  go_upto_region 3 with (go_at_call 15; refine (HF.out W1).mono ?_; rintro e w1 ⟨rfl, hb1⟩; have K0 := hidT hb1; clear hb1 f0 f1 f2; obtain ⟨f0, f1, f2⟩ := EE.out _ K0.out)
  go_region
  have K00 := hidT K0.out.drew
  clear K0 f0 f1 f2
  have K0 := K00
  clear K00
  go_wp2_with (first
    | (go_at_call 10; refine (AW.out.go _).mono ?_; rintro e vv ⟨rfl, hb⟩; have K4 := hidT (K3.out.trans (hb.mono K3.out.size)); clear hb)
    | (go_at_call 17; refine (T3.out _ (D0.out.trans (K2.out.mono D0.out.size))).mono ?_; rintro e wK3 ⟨vK3, rfl, hb⟩; have K3 := hidT (K2.out.trans (hb.mono K2.out.size)); clear hb)
    | (go_at_call 17; refine (T2.out _ (D0.out.trans (K1.out.mono D0.out.size))).mono ?_; rintro e wK2 ⟨vK2, rfl, hb⟩; have K2 := hidT (K1.out.trans (hb.mono K1.out.size)); clear hb)
    | (go_at_call 17; refine (T1.out _ (D0.out.trans (K0.out.mono D0.out.size))).mono ?_; rintro e wK1 ⟨vK1, rfl, hb⟩; have K1 := hidT (K0.out.trans (hb.mono K0.out.size)); clear hb))
  go_ret
  exact ⟨by first | rfl | simp, D0.out.trans (K4.out.mono D0.out.size)⟩
set_option linter.unusedSimpArgs false in
set_option linter.unusedVariables false in
set_option maxHeartbeats 20000000 in
set_option maxRecDepth 100000 in
theorem pg_err3 (l E3 : Int) (hE : ¬ E3 = 0) (hl3 : ¬ 3 < l) (a1 a2 a3 : Option Addr) (n1 c1 n2 c2 n3 c3 : Nat) (W : World) (HF : Hid (∀ w, Calls Try.prog 15 #[.int .i64 l, .slice (some ⟨w.heap.size, 0, none⟩) 3 3] (w.alloc (Obj.cells #[.slice a1 n1 c1, .slice a2 n2 c2, .slice a3 n3 c3] 25)) fun e w' => e = .returned (.bool true) ∧ Below w.heap.size w w'))
    (T1 : Hid (∀ w, Below W.heap.size W w → Calls Try.prog 17 #[.int .i64 l, .slice a1 n1 c1, .slice a2 n2 c2] w fun e w' => ∃ v, e = .returned (.tuple #[v, .int .i64 0]) ∧ Below w.heap.size w w'))
    (T2 : Hid (∀ w, Below W.heap.size W w → Calls Try.prog 17 #[.int .i64 l, .slice a2 n2 c2, .slice a3 n3 c3] w fun e w' => ∃ v, e = .returned (.tuple #[v, .int .i64 0]) ∧ Below w.heap.size w w'))
    (T3 : Hid (∀ w, Below W.heap.size W w → Calls Try.prog 17 #[.int .i64 l, .slice a1 n1 c1, .slice a3 n3 c3] w fun e w' => ∃ v, e = .returned (.tuple #[v, .int .i64 E3]) ∧ Below w.heap.size w w')) :
    Calls Try.prog 6 #[.int .i64 l, .agg #[.slice a1 n1 c1, .slice a2 n2 c2, .slice a3 n3 c3]] W fun e w' => e = .returned (.bool true) ∧ Below W.heap.size W w' := by
  have hz : (E3 == 0) = false := by rw [beq_eq_false_iff_ne]; exact hE
  obtain ⟨W1, hW1⟩ : ∃ x, x = W.alloc (Obj.cells #[.slice a1 n1 c1, .slice a2 n2 c2, .slice a3 n3 c3] 54) := ⟨_, rfl⟩
  have D0 := hidT (show Below W.heap.size W W1 from hW1 ▸ (Below.refl _ _).alloc (Nat.le_refl _) _)
  have C0 : W1.cell? ⟨W.heap.size, 0, none⟩ = some (.slice a1 n1 c1) ∧ W1.cell? ⟨W.heap.size, 1, none⟩ = some (.slice a2 n2 c2) ∧ W1.cell? ⟨W.heap.size, 2, none⟩ = some (.slice a3 n3 c3) := by subst hW1; exact ⟨by simp [go_sem], by simp [go_sem], by simp [go_sem]⟩
  have EE := hidT (fun w (hb : Below W1.heap.size W1 w) => show w.cell? ⟨W.heap.size, 0, none⟩ = some (.slice a1 n1 c1) ∧ w.cell? ⟨W.heap.size, 1, none⟩ = some (.slice a2 n2 c2) ∧ w.cell? ⟨W.heap.size, 2, none⟩ = some (.slice a3 n3 c3) from ⟨keepc hb C0.1, keepc hb C0.2.1, keepc hb C0.2.2⟩)
  have AW := hidT awake19
  obtain ⟨f0, f1, f2⟩ := C0
  go_enter Try.func6, Try.ntmps6
  go_upto_region 1 with fail
  rw [← hW1]
  clear hW1
  go_upto_region 3 with (go_at_call 15; refine (HF.out W1).mono ?_; rintro e w1 ⟨rfl, hb1⟩; have K0 := hidT hb1; clear hb1 f0 f1 f2; obtain ⟨f0, f1, f2⟩ := EE.out _ K0.out)
  go_region
  have K00 := hidT K0.out.drew
  clear K0 f0 f1 f2
  have K0 := K00
  clear K00
  go_wp2_with (first
    | (go_at_call 10; refine (AW.out.go _).mono ?_; rintro e vv ⟨rfl, hb⟩; have K4 := hidT (K3.out.trans (hb.mono K3.out.size)); clear hb)
    | (go_at_call 17; refine (T3.out _ (D0.out.trans (K2.out.mono D0.out.size))).mono ?_; rintro e wK3 ⟨vK3, rfl, hb⟩; have K3 := hidT (K2.out.trans (hb.mono K2.out.size)); clear hb)
    | (go_at_call 17; refine (T2.out _ (D0.out.trans (K1.out.mono D0.out.size))).mono ?_; rintro e wK2 ⟨vK2, rfl, hb⟩; have K2 := hidT (K1.out.trans (hb.mono K1.out.size)); clear hb)
    | (go_at_call 17; refine (T1.out _ (D0.out.trans (K0.out.mono D0.out.size))).mono ?_; rintro e wK1 ⟨vK1, rfl, hb⟩; have K1 := hidT (K0.out.trans (hb.mono K0.out.size)); clear hb))
  go_ret
  exact ⟨by first | rfl | simp, D0.out.trans (K4.out.mono D0.out.size)⟩
set_option linter.unusedSimpArgs false in
set_option linter.unusedVariables false in
set_option maxHeartbeats 20000000 in
set_option maxRecDepth 100000 in
theorem pg_ok (k : Nat) (hk : k < 4) (N : Nat) (hN : N = 2 ^ k) (ga fa ca gb fb cb gc fc cc : Nat) (A B C : List (Nat × Nat)) (GA : Gd k N A) (GB : Gd k N B) (GC : Gd k N C) (k1 : N ≤ ca) (k2 : N ≤ cb) (k3 : N ≤ cc) (W : World) (ra : ERow W (some ⟨ga, fa, none⟩) A) (rb : ERow W (some ⟨gb, fb, none⟩) B) (rc : ERow W (some ⟨gc, fc, none⟩) C)
    (HF : Hid (∀ w, Calls Try.prog 15 #[.int .i64 (k : Int), .slice (some ⟨w.heap.size, 0, none⟩) 3 3] (w.alloc (Obj.cells #[.slice (some ⟨ga, fa, none⟩) N ca, .slice (some ⟨gb, fb, none⟩) N cb, .slice (some ⟨gc, fc, none⟩) N cc] 25)) fun e w' => e = .returned (.bool true) ∧ Below w.heap.size w w')) :
    Calls Try.prog 6 #[.int .i64 (k : Int), .agg #[.slice (some ⟨ga, fa, none⟩) N ca, .slice (some ⟨gb, fb, none⟩) N cb, .slice (some ⟨gc, fc, none⟩) N cc]] W fun e w' => e = .returned (.bool true) ∧ Below W.heap.size W w' := by
  have hl3 : ¬ (3 : Int) < (k : Int) := by omega
  have hk8 : k < 8 := by omega
  have n128 : N ≤ 128 := by rw [hN]; exact pow128 hk8
  have TT := hidT (fun (w : World) (b1 o1 c1 b2 o2 c2 : Nat) (X Y : List (Nat × Nat)) (x : Gd k N X) (y : Gd k N Y) (h1 : N ≤ c1) (h2 : N ≤ c2) (r1 : ERow w (some ⟨b1, o1, none⟩) X) (r2 : ERow w (some ⟨b2, o2, none⟩) Y) => times_ok k hk8 N hN b1 o1 c1 b2 o2 c2 X Y x.1 y.1 x.2.1 y.2.1 x.2.2 y.2.2 h1 h2 w r1 r2)
  have TA := hidT (fun (w : World) (b1 o1 c1 b2 o2 c2 : Nat) (X Y : List (Nat × Nat)) (x : Gd k N X) (y : Gd k N Y) (r1 : ERow w (some ⟨b1, o1, none⟩) X) (r2 : ERow w (some ⟨b2, o2, none⟩) Y) => add_ok k hk8 N hN (some ⟨b1, o1, none⟩) (some ⟨b2, o2, none⟩) c1 c2 X Y x.1 y.1 x.2.1 y.2.1 x.2.2 y.2.2 w r1 r2)
  have TU := hidT (fun (w : World) (b1 o1 c1 : Nat) (X : List (Nat × Nat)) (x : Gd k N X) (r1 : ERow w (some ⟨b1, o1, none⟩) X) => turned_ok k hk8 N hN (some ⟨b1, o1, none⟩) c1 X x.1 x.2.1 x.2.2 w r1)
  have TO := hidT (fun w => one_ok k hk8 N hN w)
  have GP := hidT (fun (X Y : List (Nat × Nat)) (x : Gd k N X) (y : Gd k N Y) => show Gd k N (prL k X Y) from ⟨(prL_len _ _ _).trans hN.symm, lt_prL _ _ _, of_prL hk8 k _ _ x.2.1 y.2.1 x.2.2 y.2.2⟩)
  have GD := hidT (fun (X Y : List (Nat × Nat)) (x : Gd k N X) (y : Gd k N Y) => show Gd k N (ad2 X Y) from ⟨(ad2_len _ _).trans x.1, lt_ad2 x.2.1 y.2.1, of_ad2 hk8 x.2.2 y.2.2⟩)
  have GT := hidT (fun (X : List (Nat × Nat)) (x : Gd k N X) => show Gd k N (trns N X) from ⟨trns_len _ _, lt_trns _ _, hN ▸ of_trns hk8 _⟩)
  have GO := hidT (show Gd k N (pairv N (0, 1) (0, 1)) from ⟨pairv_len _ _ _, lt_pairv _ _ lt_one, of_pairv hk8 _ _ (ofe_one hk8)⟩)
  have SL := hidT (fun (w : World) (b1 o1 c1 b2 o2 c2 : Nat) (X : List (Nat × Nat)) (x : Gd k N X) (r1 : ERow w (some ⟨b1, o1, none⟩) X) (r2 : ERow w (some ⟨b2, o2, none⟩) X) => alike19 N n128 b1 o1 c1 b2 o2 c2 X x.1 w r1 r2)
  have Q1 := hidT (show prL k A B = prL k B A from prL_comm (by omega) (GA.1.trans hN) (GB.1.trans hN))
  have Q2 := hidT (show prL k (prL k A B) C = prL k A (prL k B C) from prL_assoc (by omega) (GA.1.trans hN) (GB.1.trans hN) (GC.1.trans hN))
  have Q3 := hidT (show prL k A (ad2 B C) = ad2 (prL k A B) (prL k A C) from prL_over (by omega) (GA.1.trans hN) (GB.1.trans hN) (GC.1.trans hN))
  have Q4 := hidT (show prL k A (pairv N (0, 1) (0, 1)) = A from by rw [hN]; exact prL_one (by omega) (GA.1.trans hN) GA.2.1)
  have Q5 := hidT (show trns N (trns N A) = A from by rw [hN]; exact trns_twice hk8 (GA.1.trans hN) GA.2.1 GA.2.2)
  have Q6 := hidT (show trns N (prL k A B) = prL k (trns N A) (trns N B) from by rw [hN]; exact trns_prL (by omega) (GA.1.trans hN) (GB.1.trans hN) GA.2.1 GB.2.1 GA.2.2 GB.2.2)
  have CA := hidT k1
  have CB := hidT k2
  have CC := hidT k3
  have NN := hidT (Nat.le_refl N)
  have RW := hidT (fun (w : World) (hw : Below W.heap.size W w) => show Hold w [(ga, fa, A), (gb, fb, B), (gc, fc, C)] from fun r hr => by
    simp at hr
    rcases hr with rfl | rfl | rfl
    · exact ra.below hw
    · exact rb.below hw
    · exact rc.below hw)
  clear hN ra rb rc k1 k2 k3 n128
  obtain ⟨W1, hW1⟩ : ∃ x, x = W.alloc (Obj.cells #[.slice (some ⟨ga, fa, none⟩) N ca, .slice (some ⟨gb, fb, none⟩) N cb, .slice (some ⟨gc, fc, none⟩) N cc] 54) := ⟨_, rfl⟩
  have D0 := hidT (show Below W.heap.size W W1 from hW1 ▸ (Below.refl _ _).alloc (Nat.le_refl _) _)
  have C0 : W1.cell? ⟨W.heap.size, 0, none⟩ = some (.slice (some ⟨ga, fa, none⟩) N ca) ∧ W1.cell? ⟨W.heap.size, 1, none⟩ = some (.slice (some ⟨gb, fb, none⟩) N cb) ∧ W1.cell? ⟨W.heap.size, 2, none⟩ = some (.slice (some ⟨gc, fc, none⟩) N cc) := by subst hW1; exact ⟨by simp [go_sem], by simp [go_sem], by simp [go_sem]⟩
  have EE := hidT (fun w (hb : Below W1.heap.size W1 w) => show w.cell? ⟨W.heap.size, 0, none⟩ = some (.slice (some ⟨ga, fa, none⟩) N ca) ∧ w.cell? ⟨W.heap.size, 1, none⟩ = some (.slice (some ⟨gb, fb, none⟩) N cb) ∧ w.cell? ⟨W.heap.size, 2, none⟩ = some (.slice (some ⟨gc, fc, none⟩) N cc) from ⟨keepc hb C0.1, keepc hb C0.2.1, keepc hb C0.2.2⟩)
  have AW := hidT awake19
  obtain ⟨f0, f1, f2⟩ := C0
  go_enter Try.func6, Try.ntmps6
  go_upto_region 1 with fail
  rw [← hW1]
  clear hW1
  go_upto_region 3 with (go_at_call 15; refine (HF.out W1).mono ?_; rintro e w1 ⟨rfl, hb1⟩; have K0 := hidT (And.intro hb1 (RW.out _ (D0.out.trans (hb1.mono D0.out.size)))); clear hb1 f0 f1 f2; obtain ⟨f0, f1, f2⟩ := EE.out _ K0.out.1)
  go_region
  have K00 := hidT (And.intro K0.out.1.drew (K0.out.2.below (Below.refl _ _).drew))
  clear K0 f0 f1 f2
  have K0 := K00
  clear K00
  go_wp2_with (first
    | (go_at_call 28; refine (SL.out _ g15 0 N g16 f16 c16x (trns N (prL k A B)) (GT.out _ (GP.out _ _ GA GB)) (K22.out.2 (g15, 0, (trns N (prL k A B))) (by simp)) (by rw [Q6.out]; exact (K22.out.2 (g16, f16, (prL k (trns N A) (trns N B))) (by simp)))).mono ?_; rintro e u23 ⟨rfl, hb⟩; have K23 := hidT (And.intro (K22.out.1.trans (hb.mono K22.out.1.size)) (K22.out.2.below hb)); clear hb)
    | (go_at_call 28; refine (SL.out _ g14 0 N ga fa ca (trns N (trns N A)) (GT.out _ (GT.out _ GA)) (K21.out.2 (g14, 0, (trns N (trns N A))) (by simp)) (by rw [Q5.out]; exact (K21.out.2 (ga, fa, A) (by simp)))).mono ?_; rintro e u22 ⟨rfl, hb⟩; have K22 := hidT (And.intro (K21.out.1.trans (hb.mono K21.out.1.size)) (K21.out.2.below hb)); clear hb)
    | (go_at_call 28; refine (SL.out _ g11 f11 c11x ga fa ca (prL k A (pairv N (0, 1) (0, 1))) (GP.out _ _ GA GO.out) (K20.out.2 (g11, f11, (prL k A (pairv N (0, 1) (0, 1)))) (by simp)) (by rw [Q4.out]; exact (K20.out.2 (ga, fa, A) (by simp)))).mono ?_; rintro e u21 ⟨rfl, hb⟩; have K21 := hidT (And.intro (K20.out.1.trans (hb.mono K20.out.1.size)) (K20.out.2.below hb)); clear hb)
    | (go_at_call 28; refine (SL.out _ g8 f8 c8x g9 0 N (prL k A (ad2 B C)) (GP.out _ _ GA (GD.out _ _ GB GC)) (K19.out.2 (g8, f8, (prL k A (ad2 B C))) (by simp)) (by rw [Q3.out]; exact (K19.out.2 (g9, 0, (ad2 (prL k A B) (prL k A C))) (by simp)))).mono ?_; rintro e u20 ⟨rfl, hb⟩; have K20 := hidT (And.intro (K19.out.1.trans (hb.mono K19.out.1.size)) (K19.out.2.below hb)); clear hb)
    | (go_at_call 28; refine (SL.out _ g5 f5 c5x g6 f6 c6x (prL k (prL k A B) C) (GP.out _ _ (GP.out _ _ GA GB) GC) (K18.out.2 (g5, f5, (prL k (prL k A B) C)) (by simp)) (by rw [Q2.out]; exact (K18.out.2 (g6, f6, (prL k A (prL k B C))) (by simp)))).mono ?_; rintro e u19 ⟨rfl, hb⟩; have K19 := hidT (And.intro (K18.out.1.trans (hb.mono K18.out.1.size)) (K18.out.2.below hb)); clear hb)
    | (go_at_call 28; refine (SL.out _ g1 f1 c1x g4 f4 c4x (prL k A B) (GP.out _ _ GA GB) (K17.out.2 (g1, f1, (prL k A B)) (by simp)) (by rw [Q1.out]; exact (K17.out.2 (g4, f4, (prL k B A)) (by simp)))).mono ?_; rintro e u18 ⟨rfl, hb⟩; have K18 := hidT (And.intro (K17.out.1.trans (hb.mono K17.out.1.size)) (K17.out.2.below hb)); clear hb)
    | (go_at_call 10; refine (AW.out.go _).mono ?_; rintro e u17 ⟨rfl, hb⟩; have K17 := hidT (And.intro (K16.out.1.trans (hb.mono K16.out.1.size)) (K16.out.2.below hb)); clear hb)
    | (go_at_call 17; refine (TT.out _ g12 0 N g13 0 N (trns N A) (trns N B) (GT.out _ GA) (GT.out _ GB) NN.out NN.out (K15.out.2 (g12, 0, (trns N A)) (by simp)) (K15.out.2 (g13, 0, (trns N B)) (by simp))).mono ?_; rintro e u16 ⟨g16, f16, c16x, rfl, hc, hr, hb⟩; have K16 := hidT (And.intro (K15.out.1.trans (hb.mono K15.out.1.size)) (Hold.cons hr (K15.out.2.below hb))); have C16 := hidT hc; clear hb hr hc)
    | (go_at_call 18; refine (TU.out _ g1 f1 c1x (prL k A B) (GP.out _ _ GA GB) (K14.out.2 (g1, f1, (prL k A B)) (by simp))).mono ?_; rintro e u15 ⟨g15, rfl, hr, hb⟩; have K15 := hidT (And.intro (K14.out.1.trans (hb.mono K14.out.1.size)) (Hold.cons hr (K14.out.2.below hb))); clear hb hr)
    | (go_at_call 18; refine (TU.out _ g12 0 N (trns N A) (GT.out _ GA) (K13.out.2 (g12, 0, (trns N A)) (by simp))).mono ?_; rintro e u14 ⟨g14, rfl, hr, hb⟩; have K14 := hidT (And.intro (K13.out.1.trans (hb.mono K13.out.1.size)) (Hold.cons hr (K13.out.2.below hb))); clear hb hr)
    | (go_at_call 18; refine (TU.out _ gb fb cb B GB (K12.out.2 (gb, fb, B) (by simp))).mono ?_; rintro e u13 ⟨g13, rfl, hr, hb⟩; have K13 := hidT (And.intro (K12.out.1.trans (hb.mono K12.out.1.size)) (Hold.cons hr (K12.out.2.below hb))); clear hb hr)
    | (go_at_call 18; refine (TU.out _ ga fa ca A GA (K11.out.2 (ga, fa, A) (by simp))).mono ?_; rintro e u12 ⟨g12, rfl, hr, hb⟩; have K12 := hidT (And.intro (K11.out.1.trans (hb.mono K11.out.1.size)) (Hold.cons hr (K11.out.2.below hb))); clear hb hr)
    | (go_at_call 17; refine (TT.out _ ga fa ca g10 0 N A (pairv N (0, 1) (0, 1)) GA GO.out CA.out NN.out (K10.out.2 (ga, fa, A) (by simp)) (K10.out.2 (g10, 0, (pairv N (0, 1) (0, 1))) (by simp))).mono ?_; rintro e u11 ⟨g11, f11, c11x, rfl, hc, hr, hb⟩; have K11 := hidT (And.intro (K10.out.1.trans (hb.mono K10.out.1.size)) (Hold.cons hr (K10.out.2.below hb))); have C11 := hidT hc; clear hb hr hc)
    | (go_at_call 11; refine (TO.out _).mono ?_; rintro e u10 ⟨g10, rfl, ⟨hr, _⟩, _, hb⟩; have K10 := hidT (And.intro (K9.out.1.trans (hb.mono K9.out.1.size)) (Hold.cons hr (K9.out.2.below hb))); clear hb hr)
    | (go_at_call 16; refine (TA.out _ g1 f1 c1x g3 f3 c3x (prL k A B) (prL k A C) (GP.out _ _ GA GB) (GP.out _ _ GA GC) (K8.out.2 (g1, f1, (prL k A B)) (by simp)) (K8.out.2 (g3, f3, (prL k A C)) (by simp))).mono ?_; rintro e u9 ⟨g9, rfl, hr, hb⟩; have K9 := hidT (And.intro (K8.out.1.trans (hb.mono K8.out.1.size)) (Hold.cons hr (K8.out.2.below hb))); clear hb hr)
    | (go_at_call 17; refine (TT.out _ ga fa ca g7 0 N A (ad2 B C) GA (GD.out _ _ GB GC) CA.out NN.out (K7.out.2 (ga, fa, A) (by simp)) (K7.out.2 (g7, 0, (ad2 B C)) (by simp))).mono ?_; rintro e u8 ⟨g8, f8, c8x, rfl, hc, hr, hb⟩; have K8 := hidT (And.intro (K7.out.1.trans (hb.mono K7.out.1.size)) (Hold.cons hr (K7.out.2.below hb))); have C8 := hidT hc; clear hb hr hc)
    | (go_at_call 16; refine (TA.out _ gb fb cb gc fc cc B C GB GC (K6.out.2 (gb, fb, B) (by simp)) (K6.out.2 (gc, fc, C) (by simp))).mono ?_; rintro e u7 ⟨g7, rfl, hr, hb⟩; have K7 := hidT (And.intro (K6.out.1.trans (hb.mono K6.out.1.size)) (Hold.cons hr (K6.out.2.below hb))); clear hb hr)
    | (go_at_call 17; refine (TT.out _ ga fa ca g2 f2 c2x A (prL k B C) GA (GP.out _ _ GB GC) CA.out C2.out (K5.out.2 (ga, fa, A) (by simp)) (K5.out.2 (g2, f2, (prL k B C)) (by simp))).mono ?_; rintro e u6 ⟨g6, f6, c6x, rfl, hc, hr, hb⟩; have K6 := hidT (And.intro (K5.out.1.trans (hb.mono K5.out.1.size)) (Hold.cons hr (K5.out.2.below hb))); have C6 := hidT hc; clear hb hr hc)
    | (go_at_call 17; refine (TT.out _ g1 f1 c1x gc fc cc (prL k A B) C (GP.out _ _ GA GB) GC C1.out CC.out (K4.out.2 (g1, f1, (prL k A B)) (by simp)) (K4.out.2 (gc, fc, C) (by simp))).mono ?_; rintro e u5 ⟨g5, f5, c5x, rfl, hc, hr, hb⟩; have K5 := hidT (And.intro (K4.out.1.trans (hb.mono K4.out.1.size)) (Hold.cons hr (K4.out.2.below hb))); have C5 := hidT hc; clear hb hr hc)
    | (go_at_call 17; refine (TT.out _ gb fb cb ga fa ca B A GB GA CB.out CA.out (K3.out.2 (gb, fb, B) (by simp)) (K3.out.2 (ga, fa, A) (by simp))).mono ?_; rintro e u4 ⟨g4, f4, c4x, rfl, hc, hr, hb⟩; have K4 := hidT (And.intro (K3.out.1.trans (hb.mono K3.out.1.size)) (Hold.cons hr (K3.out.2.below hb))); have C4 := hidT hc; clear hb hr hc)
    | (go_at_call 17; refine (TT.out _ ga fa ca gc fc cc A C GA GC CA.out CC.out (K2.out.2 (ga, fa, A) (by simp)) (K2.out.2 (gc, fc, C) (by simp))).mono ?_; rintro e u3 ⟨g3, f3, c3x, rfl, hc, hr, hb⟩; have K3 := hidT (And.intro (K2.out.1.trans (hb.mono K2.out.1.size)) (Hold.cons hr (K2.out.2.below hb))); have C3 := hidT hc; clear hb hr hc)
    | (go_at_call 17; refine (TT.out _ gb fb cb gc fc cc B C GB GC CB.out CC.out (K1.out.2 (gb, fb, B) (by simp)) (K1.out.2 (gc, fc, C) (by simp))).mono ?_; rintro e u2 ⟨g2, f2, c2x, rfl, hc, hr, hb⟩; have K2 := hidT (And.intro (K1.out.1.trans (hb.mono K1.out.1.size)) (Hold.cons hr (K1.out.2.below hb))); have C2 := hidT hc; clear hb hr hc)
    | (go_at_call 17; refine (TT.out _ ga fa ca gb fb cb A B GA GB CA.out CB.out (K0.out.2 (ga, fa, A) (by simp)) (K0.out.2 (gb, fb, B) (by simp))).mono ?_; rintro e u1 ⟨g1, f1, c1x, rfl, hc, hr, hb⟩; have K1 := hidT (And.intro (K0.out.1.trans (hb.mono K0.out.1.size)) (Hold.cons hr (K0.out.2.below hb))); have C1 := hidT hc; clear hb hr hc))
  go_ret
  exact ⟨by first | rfl | simp, D0.out.trans (K23.out.1.mono D0.out.size)⟩
end Pv
end Go.Proofs.Ytcejppibcemdeaa
