/- PackvAlike over the seat's translation. -/
import Derived.Test.YtcejppibcemdeaaPQvF
import Derived.Test.YtcejppibcemdeaaPvW
namespace Go.Proofs.Ytcejppibcemdeaa
open Go.RowKit
open Cb Rg
open Tw (pm)
namespace Pv

set_option linter.unusedSimpArgs false in
set_option linter.unusedVariables false in
set_option maxHeartbeats 8000000 in
set_option maxRecDepth 100000 in
theorem al_lev (l : Int) (a1 a2 : Option Addr) (n c1 m c2 : Nat) (hl : ¬ (0 ≤ l ∧ l ≤ 7)) (W : World) :
    Calls Try.prog 29 #[.int .i64 l, .slice a1 n c1, .slice a2 m c2] W fun e w' => e = .returned (.tuple #[.slice none 0 0, .int .i64 1]) ∧ Below W.heap.size W w' := by
  have HL := hidT (plev_no l hl)
  go_enter Try.func29, Try.ntmps29
  go_wp2_with (first
      | (go_at_call 49; refine (HL.out.go _).mono ?_; rintro e w1 ⟨rfl, hb⟩; have KE := hidT hb; clear hb))
  refine bodyPost_ret (v := .tuple #[.slice none 0 0, .int .i64 1]) (by simp [results, Try.results29, go_sem]) rfl ⟨rfl, ?_⟩
  exact KE.out
set_option linter.unusedSimpArgs false in
set_option linter.unusedVariables false in
set_option maxHeartbeats 8000000 in
set_option maxRecDepth 100000 in
theorem al_far (l : Int) (a1 a2 : Option Addr) (n c1 m c2 : Nat) (hl : 0 ≤ l ∧ l ≤ 7) (hn : ¬ n = m) (W : World) :
    Calls Try.prog 29 #[.int .i64 l, .slice a1 n c1, .slice a2 m c2] W fun e w' => e = .returned (.tuple #[.slice none 0 0, .int .i64 6]) ∧ Below W.heap.size W w' := by
  have HL := hidT (plev_yes l hl)
  have q1 : ¬ (n : Int) = (m : Int) := by omega
  go_enter Try.func29, Try.ntmps29
  go_wp2_with (first
      | (go_at_call 49; refine (HL.out.go _).mono ?_; rintro e w1 ⟨rfl, hb⟩; have KE := hidT hb; clear hb))
  refine bodyPost_ret (v := .tuple #[.slice none 0 0, .int .i64 6]) (by simp [results, Try.results29, go_sem]) rfl ⟨rfl, ?_⟩
  exact KE.out
set_option linter.unusedSimpArgs false in
set_option linter.unusedVariables false in
set_option maxHeartbeats 8000000 in
set_option maxRecDepth 100000 in
theorem al_big (l : Int) (a1 a2 : Option Addr) (n c1 m c2 : Nat) (hl : 0 ≤ l ∧ l ≤ 7) (hm : n = m) (hn : 16 < n) (W : World) :
    Calls Try.prog 29 #[.int .i64 l, .slice a1 n c1, .slice a2 m c2] W fun e w' => e = .returned (.tuple #[.slice none 0 0, .int .i64 6]) ∧ Below W.heap.size W w' := by
  subst hm
  have HL := hidT (plev_yes l hl)
  have q1 : (16 : Int) < (n : Int) := by omega
  go_enter Try.func29, Try.ntmps29
  go_wp2_with (first
      | (go_at_call 49; refine (HL.out.go _).mono ?_; rintro e w1 ⟨rfl, hb⟩; have KE := hidT hb; clear hb))
  refine bodyPost_ret (v := .tuple #[.slice none 0 0, .int .i64 6]) (by simp [results, Try.results29, go_sem]) rfl ⟨rfl, ?_⟩
  exact KE.out
set_option linter.unusedSimpArgs false in
set_option linter.unusedVariables false in
set_option maxHeartbeats 8000000 in
set_option maxRecDepth 100000 in
theorem al_fl1 (l : Int) (a1 a2 : Option Addr) (n c1 m c2 : Nat) (hl : 0 ≤ l ∧ l ≤ 7) (hm : n = m) (hn : n ≤ 16) (W : World) (H1 : Hid (∀ w, Below W.heap.size W w → Calls Try.prog 50 #[.int .i64 l, .slice a1 n c1] w fun e w' => e = .returned (.bool false) ∧ Below w.heap.size w w')) :
    Calls Try.prog 29 #[.int .i64 l, .slice a1 n c1, .slice a2 m c2] W fun e w' => e = .returned (.tuple #[.slice none 0 0, .int .i64 5]) ∧ Below W.heap.size W w' := by
  subst hm
  have HL := hidT (plev_yes l hl)
  have q1 : ¬ (16 : Int) < (n : Int) := by omega
  go_enter Try.func29, Try.ntmps29
  go_wp2_with (first
      | (have _g := K1; clear _g; go_at_call 50; refine (H1.out _ K1.out).mono ?_; rintro e w2 ⟨rfl, hb⟩; have KE := hidT (K1.out.trans (hb.mono K1.out.size)); clear hb)
      | (go_at_call 49; refine (HL.out.go _).mono ?_; rintro e w1 ⟨rfl, hb⟩; have K1 := hidT hb; clear hb))
  refine bodyPost_ret (v := .tuple #[.slice none 0 0, .int .i64 5]) (by simp [results, Try.results29, go_sem]) rfl ⟨rfl, ?_⟩
  exact KE.out
set_option linter.unusedSimpArgs false in
set_option linter.unusedVariables false in
set_option maxHeartbeats 8000000 in
set_option maxRecDepth 100000 in
theorem al_fl2 (l : Int) (a1 a2 : Option Addr) (n c1 m c2 : Nat) (hl : 0 ≤ l ∧ l ≤ 7) (hm : n = m) (hn : n ≤ 16) (W : World) (H1 : Hid (∀ w, Below W.heap.size W w → Calls Try.prog 50 #[.int .i64 l, .slice a1 n c1] w fun e w' => e = .returned (.bool true) ∧ Below w.heap.size w w')) (H2 : Hid (∀ w, Below W.heap.size W w → Calls Try.prog 50 #[.int .i64 l, .slice a2 n c2] w fun e w' => e = .returned (.bool false) ∧ Below w.heap.size w w')) :
    Calls Try.prog 29 #[.int .i64 l, .slice a1 n c1, .slice a2 m c2] W fun e w' => e = .returned (.tuple #[.slice none 0 0, .int .i64 5]) ∧ Below W.heap.size W w' := by
  subst hm
  have HL := hidT (plev_yes l hl)
  have q1 : ¬ (16 : Int) < (n : Int) := by omega
  go_enter Try.func29, Try.ntmps29
  go_wp2_with (first
      | (have _g := K2; clear _g; go_at_call 50; refine (H2.out _ K2.out).mono ?_; rintro e w3 ⟨rfl, hb⟩; have KE := hidT (K2.out.trans (hb.mono K2.out.size)); clear hb)
      | (have _g := K1; clear _g; go_at_call 50; refine (H1.out _ K1.out).mono ?_; rintro e w2 ⟨rfl, hb⟩; have K2 := hidT (K1.out.trans (hb.mono K1.out.size)); clear hb)
      | (go_at_call 49; refine (HL.out.go _).mono ?_; rintro e w1 ⟨rfl, hb⟩; have K1 := hidT hb; clear hb))
  refine bodyPost_ret (v := .tuple #[.slice none 0 0, .int .i64 5]) (by simp [results, Try.results29, go_sem]) rfl ⟨rfl, ?_⟩
  exact KE.out
set_option linter.unusedSimpArgs false in
set_option linter.unusedVariables false in
set_option maxHeartbeats 8000000 in
set_option maxRecDepth 100000 in
theorem pa_skip (l : Int) (a1 a2 : Option Addr) (n c1 m c2 : Nat) (p q : List (Nat × Nat)) (g : 4 < l ∧ l ≤ 7 ∨ 5 < n ∧ n ≤ 16 ∨ 5 < m ∧ m ≤ 16 ∨ 30 < n ∨ 30 < m) (W : World) :
    Calls Try.prog 7 #[.int .i64 l, .slice a1 n c1, .slice a2 m c2] W fun e w' => e = .returned (.bool true) ∧ Below W.heap.size W w' := by
  have AW := hidT awake19
  by_cases h1 : 4 < l
  · by_cases h2 : l ≤ 7
    · go_enter Try.func7, Try.ntmps7
      go_wp2_with (go_at_call 10; refine (AW.out.go _).mono ?_; rintro e w1 ⟨rfl, hb⟩; have K1 := hidT hb; clear hb)
      go_ret
      exact ⟨rfl, K1.out⟩
    · by_cases g1 : (5 : Int) < (n : Int)
      · by_cases g2 : (n : Int) ≤ 16
        · go_enter Try.func7, Try.ntmps7
          go_wp2_with (go_at_call 10; refine (AW.out.go _).mono ?_; rintro e w1 ⟨rfl, hb⟩; have K1 := hidT hb; clear hb)
          go_ret
          exact ⟨rfl, K1.out⟩
        · by_cases g3 : (5 : Int) < (m : Int)
          · by_cases g4 : (m : Int) ≤ 16
            · go_enter Try.func7, Try.ntmps7
              go_wp2_with (go_at_call 10; refine (AW.out.go _).mono ?_; rintro e w1 ⟨rfl, hb⟩; have K1 := hidT hb; clear hb)
              go_ret
              exact ⟨rfl, K1.out⟩
            · by_cases g5 : (30 : Int) < (n : Int)
              · go_enter Try.func7, Try.ntmps7
                go_wp2_with (go_at_call 10; refine (AW.out.go _).mono ?_; rintro e w1 ⟨rfl, hb⟩; have K1 := hidT hb; clear hb)
                go_ret
                exact ⟨rfl, K1.out⟩
              · by_cases g6 : (30 : Int) < (m : Int)
                · go_enter Try.func7, Try.ntmps7
                  go_wp2_with (go_at_call 10; refine (AW.out.go _).mono ?_; rintro e w1 ⟨rfl, hb⟩; have K1 := hidT hb; clear hb)
                  go_ret
                  exact ⟨rfl, K1.out⟩
                · exact absurd g (by omega)
          · by_cases g5 : (30 : Int) < (n : Int)
            · go_enter Try.func7, Try.ntmps7
              go_wp2_with (go_at_call 10; refine (AW.out.go _).mono ?_; rintro e w1 ⟨rfl, hb⟩; have K1 := hidT hb; clear hb)
              go_ret
              exact ⟨rfl, K1.out⟩
            · have g6 : ¬ (30 : Int) < (m : Int) := by omega
              exact absurd g (by omega)
      · by_cases g3 : (5 : Int) < (m : Int)
        · by_cases g4 : (m : Int) ≤ 16
          · go_enter Try.func7, Try.ntmps7
            go_wp2_with (go_at_call 10; refine (AW.out.go _).mono ?_; rintro e w1 ⟨rfl, hb⟩; have K1 := hidT hb; clear hb)
            go_ret
            exact ⟨rfl, K1.out⟩
          · have g5 : ¬ (30 : Int) < (n : Int) := by omega
            by_cases g6 : (30 : Int) < (m : Int)
            · go_enter Try.func7, Try.ntmps7
              go_wp2_with (go_at_call 10; refine (AW.out.go _).mono ?_; rintro e w1 ⟨rfl, hb⟩; have K1 := hidT hb; clear hb)
              go_ret
              exact ⟨rfl, K1.out⟩
            · exact absurd g (by omega)
        · have g5 : ¬ (30 : Int) < (n : Int) := by omega
          have g6 : ¬ (30 : Int) < (m : Int) := by omega
          exact absurd g (by omega)
  · by_cases g1 : (5 : Int) < (n : Int)
    · by_cases g2 : (n : Int) ≤ 16
      · go_enter Try.func7, Try.ntmps7
        go_wp2_with (go_at_call 10; refine (AW.out.go _).mono ?_; rintro e w1 ⟨rfl, hb⟩; have K1 := hidT hb; clear hb)
        go_ret
        exact ⟨rfl, K1.out⟩
      · by_cases g3 : (5 : Int) < (m : Int)
        · by_cases g4 : (m : Int) ≤ 16
          · go_enter Try.func7, Try.ntmps7
            go_wp2_with (go_at_call 10; refine (AW.out.go _).mono ?_; rintro e w1 ⟨rfl, hb⟩; have K1 := hidT hb; clear hb)
            go_ret
            exact ⟨rfl, K1.out⟩
          · by_cases g5 : (30 : Int) < (n : Int)
            · go_enter Try.func7, Try.ntmps7
              go_wp2_with (go_at_call 10; refine (AW.out.go _).mono ?_; rintro e w1 ⟨rfl, hb⟩; have K1 := hidT hb; clear hb)
              go_ret
              exact ⟨rfl, K1.out⟩
            · by_cases g6 : (30 : Int) < (m : Int)
              · go_enter Try.func7, Try.ntmps7
                go_wp2_with (go_at_call 10; refine (AW.out.go _).mono ?_; rintro e w1 ⟨rfl, hb⟩; have K1 := hidT hb; clear hb)
                go_ret
                exact ⟨rfl, K1.out⟩
              · exact absurd g (by omega)
        · by_cases g5 : (30 : Int) < (n : Int)
          · go_enter Try.func7, Try.ntmps7
            go_wp2_with (go_at_call 10; refine (AW.out.go _).mono ?_; rintro e w1 ⟨rfl, hb⟩; have K1 := hidT hb; clear hb)
            go_ret
            exact ⟨rfl, K1.out⟩
          · have g6 : ¬ (30 : Int) < (m : Int) := by omega
            exact absurd g (by omega)
    · by_cases g3 : (5 : Int) < (m : Int)
      · by_cases g4 : (m : Int) ≤ 16
        · go_enter Try.func7, Try.ntmps7
          go_wp2_with (go_at_call 10; refine (AW.out.go _).mono ?_; rintro e w1 ⟨rfl, hb⟩; have K1 := hidT hb; clear hb)
          go_ret
          exact ⟨rfl, K1.out⟩
        · have g5 : ¬ (30 : Int) < (n : Int) := by omega
          by_cases g6 : (30 : Int) < (m : Int)
          · go_enter Try.func7, Try.ntmps7
            go_wp2_with (go_at_call 10; refine (AW.out.go _).mono ?_; rintro e w1 ⟨rfl, hb⟩; have K1 := hidT hb; clear hb)
            go_ret
            exact ⟨rfl, K1.out⟩
          · exact absurd g (by omega)
      · have g5 : ¬ (30 : Int) < (n : Int) := by omega
        have g6 : ¬ (30 : Int) < (m : Int) := by omega
        exact absurd g (by omega)
set_option linter.unusedSimpArgs false in
set_option linter.unusedVariables false in
set_option maxHeartbeats 8000000 in
set_option maxRecDepth 100000 in
theorem pa_lev (l : Int) (a1 a2 : Option Addr) (n c1 m c2 : Nat) (p q : List (Nat × Nat)) (g : ¬ (4 < l ∧ l ≤ 7 ∨ 5 < n ∧ n ≤ 16 ∨ 5 < m ∧ m ≤ 16 ∨ 30 < n ∨ 30 < m)) (hl : ¬ (0 ≤ l ∧ l ≤ 7)) (W : World)
    (HA : Hid (∀ w, Below W.heap.size W w → Calls Try.prog 29 #[.int .i64 l, .slice a1 n c1, .slice a2 m c2] w fun e w' => e = .returned (.tuple #[.slice none 0 0, .int .i64 1]) ∧ Below w.heap.size w w'))
    (HR1 : Hid (∀ w, Below W.heap.size W w → Calls Try.prog 19 #[.slice a1 n c1] w fun e w' => ∃ a' cap', e = .returned (.slice a' n cap') ∧ ERow w' a' p ∧ Below w.heap.size w w'))
    (HR2 : Hid (∀ w, Below W.heap.size W w → Calls Try.prog 19 #[.slice a2 m c2] w fun e w' => ∃ a' cap', e = .returned (.slice a' m cap') ∧ ERow w' a' q ∧ Below w.heap.size w w')) :
    Calls Try.prog 7 #[.int .i64 l, .slice a1 n c1, .slice a2 m c2] W fun e w' => e = .returned (.bool true) ∧ Below W.heap.size W w' := by
  have AW := hidT awake19
  by_cases h1 : 4 < l
  · by_cases h2 : l ≤ 7
    · exact absurd g (by omega)
    · by_cases g1 : (5 : Int) < (n : Int)
      · by_cases g2 : (n : Int) ≤ 16
        · exact absurd g (by omega)
        · by_cases g3 : (5 : Int) < (m : Int)
          · by_cases g4 : (m : Int) ≤ 16
            · exact absurd g (by omega)
            · by_cases g5 : (30 : Int) < (n : Int)
              · exact absurd g (by omega)
              · by_cases g6 : (30 : Int) < (m : Int)
                · exact absurd g (by omega)
                · clear g
                  by_cases l0 : l < 0
                  · go_enter Try.func7, Try.ntmps7
                    go_wp2_with (first
                      | (have _g := K3; clear _g; go_at_call 10; refine (AW.out.go _).mono ?_; rintro e w9 ⟨rfl, hb⟩; have KE := hidT (K3.out.2.trans (hb.mono K3.out.2.size)); clear hb)
                      | (have _g := K2; clear _g; go_at_call 19; refine (HR2.out _ K2.out.2).mono ?_; rintro e w3 ⟨ay, cy, rfl, hr, hb⟩; have K3 := hidT (And.intro (And.intro (K2.out.1.below hb) hr) (K2.out.2.trans (hb.mono K2.out.2.size))); clear hb hr)
                      | (have _g := K1; clear _g; go_at_call 19; refine (HR1.out _ K1.out).mono ?_; rintro e w2 ⟨ax, cx, rfl, hr, hb⟩; have K2 := hidT (And.intro hr (K1.out.trans (hb.mono K1.out.size))); clear hb hr)
                      | (go_at_call 29; refine (HA.out _ (Below.refl _ _)).mono ?_; rintro e w1 ⟨rfl, hb⟩; have K1 := hidT hb; clear hb))
                    go_ret
                    exact ⟨by first | rfl | simp, KE.out⟩
                  · have l7 : 7 < l := by omega
                    go_enter Try.func7, Try.ntmps7
                    go_wp2_with (first
                      | (have _g := K3; clear _g; go_at_call 10; refine (AW.out.go _).mono ?_; rintro e w9 ⟨rfl, hb⟩; have KE := hidT (K3.out.2.trans (hb.mono K3.out.2.size)); clear hb)
                      | (have _g := K2; clear _g; go_at_call 19; refine (HR2.out _ K2.out.2).mono ?_; rintro e w3 ⟨ay, cy, rfl, hr, hb⟩; have K3 := hidT (And.intro (And.intro (K2.out.1.below hb) hr) (K2.out.2.trans (hb.mono K2.out.2.size))); clear hb hr)
                      | (have _g := K1; clear _g; go_at_call 19; refine (HR1.out _ K1.out).mono ?_; rintro e w2 ⟨ax, cx, rfl, hr, hb⟩; have K2 := hidT (And.intro hr (K1.out.trans (hb.mono K1.out.size))); clear hb hr)
                      | (go_at_call 29; refine (HA.out _ (Below.refl _ _)).mono ?_; rintro e w1 ⟨rfl, hb⟩; have K1 := hidT hb; clear hb))
                    go_ret
                    exact ⟨by first | rfl | simp, KE.out⟩
          · by_cases g5 : (30 : Int) < (n : Int)
            · exact absurd g (by omega)
            · have g6 : ¬ (30 : Int) < (m : Int) := by omega
              clear g
              by_cases l0 : l < 0
              · go_enter Try.func7, Try.ntmps7
                go_wp2_with (first
                  | (have _g := K3; clear _g; go_at_call 10; refine (AW.out.go _).mono ?_; rintro e w9 ⟨rfl, hb⟩; have KE := hidT (K3.out.2.trans (hb.mono K3.out.2.size)); clear hb)
                  | (have _g := K2; clear _g; go_at_call 19; refine (HR2.out _ K2.out.2).mono ?_; rintro e w3 ⟨ay, cy, rfl, hr, hb⟩; have K3 := hidT (And.intro (And.intro (K2.out.1.below hb) hr) (K2.out.2.trans (hb.mono K2.out.2.size))); clear hb hr)
                  | (have _g := K1; clear _g; go_at_call 19; refine (HR1.out _ K1.out).mono ?_; rintro e w2 ⟨ax, cx, rfl, hr, hb⟩; have K2 := hidT (And.intro hr (K1.out.trans (hb.mono K1.out.size))); clear hb hr)
                  | (go_at_call 29; refine (HA.out _ (Below.refl _ _)).mono ?_; rintro e w1 ⟨rfl, hb⟩; have K1 := hidT hb; clear hb))
                go_ret
                exact ⟨by first | rfl | simp, KE.out⟩
              · have l7 : 7 < l := by omega
                go_enter Try.func7, Try.ntmps7
                go_wp2_with (first
                  | (have _g := K3; clear _g; go_at_call 10; refine (AW.out.go _).mono ?_; rintro e w9 ⟨rfl, hb⟩; have KE := hidT (K3.out.2.trans (hb.mono K3.out.2.size)); clear hb)
                  | (have _g := K2; clear _g; go_at_call 19; refine (HR2.out _ K2.out.2).mono ?_; rintro e w3 ⟨ay, cy, rfl, hr, hb⟩; have K3 := hidT (And.intro (And.intro (K2.out.1.below hb) hr) (K2.out.2.trans (hb.mono K2.out.2.size))); clear hb hr)
                  | (have _g := K1; clear _g; go_at_call 19; refine (HR1.out _ K1.out).mono ?_; rintro e w2 ⟨ax, cx, rfl, hr, hb⟩; have K2 := hidT (And.intro hr (K1.out.trans (hb.mono K1.out.size))); clear hb hr)
                  | (go_at_call 29; refine (HA.out _ (Below.refl _ _)).mono ?_; rintro e w1 ⟨rfl, hb⟩; have K1 := hidT hb; clear hb))
                go_ret
                exact ⟨by first | rfl | simp, KE.out⟩
      · by_cases g3 : (5 : Int) < (m : Int)
        · by_cases g4 : (m : Int) ≤ 16
          · exact absurd g (by omega)
          · have g5 : ¬ (30 : Int) < (n : Int) := by omega
            by_cases g6 : (30 : Int) < (m : Int)
            · exact absurd g (by omega)
            · clear g
              by_cases l0 : l < 0
              · go_enter Try.func7, Try.ntmps7
                go_wp2_with (first
                  | (have _g := K3; clear _g; go_at_call 10; refine (AW.out.go _).mono ?_; rintro e w9 ⟨rfl, hb⟩; have KE := hidT (K3.out.2.trans (hb.mono K3.out.2.size)); clear hb)
                  | (have _g := K2; clear _g; go_at_call 19; refine (HR2.out _ K2.out.2).mono ?_; rintro e w3 ⟨ay, cy, rfl, hr, hb⟩; have K3 := hidT (And.intro (And.intro (K2.out.1.below hb) hr) (K2.out.2.trans (hb.mono K2.out.2.size))); clear hb hr)
                  | (have _g := K1; clear _g; go_at_call 19; refine (HR1.out _ K1.out).mono ?_; rintro e w2 ⟨ax, cx, rfl, hr, hb⟩; have K2 := hidT (And.intro hr (K1.out.trans (hb.mono K1.out.size))); clear hb hr)
                  | (go_at_call 29; refine (HA.out _ (Below.refl _ _)).mono ?_; rintro e w1 ⟨rfl, hb⟩; have K1 := hidT hb; clear hb))
                go_ret
                exact ⟨by first | rfl | simp, KE.out⟩
              · have l7 : 7 < l := by omega
                go_enter Try.func7, Try.ntmps7
                go_wp2_with (first
                  | (have _g := K3; clear _g; go_at_call 10; refine (AW.out.go _).mono ?_; rintro e w9 ⟨rfl, hb⟩; have KE := hidT (K3.out.2.trans (hb.mono K3.out.2.size)); clear hb)
                  | (have _g := K2; clear _g; go_at_call 19; refine (HR2.out _ K2.out.2).mono ?_; rintro e w3 ⟨ay, cy, rfl, hr, hb⟩; have K3 := hidT (And.intro (And.intro (K2.out.1.below hb) hr) (K2.out.2.trans (hb.mono K2.out.2.size))); clear hb hr)
                  | (have _g := K1; clear _g; go_at_call 19; refine (HR1.out _ K1.out).mono ?_; rintro e w2 ⟨ax, cx, rfl, hr, hb⟩; have K2 := hidT (And.intro hr (K1.out.trans (hb.mono K1.out.size))); clear hb hr)
                  | (go_at_call 29; refine (HA.out _ (Below.refl _ _)).mono ?_; rintro e w1 ⟨rfl, hb⟩; have K1 := hidT hb; clear hb))
                go_ret
                exact ⟨by first | rfl | simp, KE.out⟩
        · have g5 : ¬ (30 : Int) < (n : Int) := by omega
          have g6 : ¬ (30 : Int) < (m : Int) := by omega
          clear g
          by_cases l0 : l < 0
          · go_enter Try.func7, Try.ntmps7
            go_wp2_with (first
              | (have _g := K3; clear _g; go_at_call 10; refine (AW.out.go _).mono ?_; rintro e w9 ⟨rfl, hb⟩; have KE := hidT (K3.out.2.trans (hb.mono K3.out.2.size)); clear hb)
              | (have _g := K2; clear _g; go_at_call 19; refine (HR2.out _ K2.out.2).mono ?_; rintro e w3 ⟨ay, cy, rfl, hr, hb⟩; have K3 := hidT (And.intro (And.intro (K2.out.1.below hb) hr) (K2.out.2.trans (hb.mono K2.out.2.size))); clear hb hr)
              | (have _g := K1; clear _g; go_at_call 19; refine (HR1.out _ K1.out).mono ?_; rintro e w2 ⟨ax, cx, rfl, hr, hb⟩; have K2 := hidT (And.intro hr (K1.out.trans (hb.mono K1.out.size))); clear hb hr)
              | (go_at_call 29; refine (HA.out _ (Below.refl _ _)).mono ?_; rintro e w1 ⟨rfl, hb⟩; have K1 := hidT hb; clear hb))
            go_ret
            exact ⟨by first | rfl | simp, KE.out⟩
          · have l7 : 7 < l := by omega
            go_enter Try.func7, Try.ntmps7
            go_wp2_with (first
              | (have _g := K3; clear _g; go_at_call 10; refine (AW.out.go _).mono ?_; rintro e w9 ⟨rfl, hb⟩; have KE := hidT (K3.out.2.trans (hb.mono K3.out.2.size)); clear hb)
              | (have _g := K2; clear _g; go_at_call 19; refine (HR2.out _ K2.out.2).mono ?_; rintro e w3 ⟨ay, cy, rfl, hr, hb⟩; have K3 := hidT (And.intro (And.intro (K2.out.1.below hb) hr) (K2.out.2.trans (hb.mono K2.out.2.size))); clear hb hr)
              | (have _g := K1; clear _g; go_at_call 19; refine (HR1.out _ K1.out).mono ?_; rintro e w2 ⟨ax, cx, rfl, hr, hb⟩; have K2 := hidT (And.intro hr (K1.out.trans (hb.mono K1.out.size))); clear hb hr)
              | (go_at_call 29; refine (HA.out _ (Below.refl _ _)).mono ?_; rintro e w1 ⟨rfl, hb⟩; have K1 := hidT hb; clear hb))
            go_ret
            exact ⟨by first | rfl | simp, KE.out⟩
  · by_cases g1 : (5 : Int) < (n : Int)
    · by_cases g2 : (n : Int) ≤ 16
      · exact absurd g (by omega)
      · by_cases g3 : (5 : Int) < (m : Int)
        · by_cases g4 : (m : Int) ≤ 16
          · exact absurd g (by omega)
          · by_cases g5 : (30 : Int) < (n : Int)
            · exact absurd g (by omega)
            · by_cases g6 : (30 : Int) < (m : Int)
              · exact absurd g (by omega)
              · clear g
                by_cases l0 : l < 0
                · go_enter Try.func7, Try.ntmps7
                  go_wp2_with (first
                    | (have _g := K3; clear _g; go_at_call 10; refine (AW.out.go _).mono ?_; rintro e w9 ⟨rfl, hb⟩; have KE := hidT (K3.out.2.trans (hb.mono K3.out.2.size)); clear hb)
                    | (have _g := K2; clear _g; go_at_call 19; refine (HR2.out _ K2.out.2).mono ?_; rintro e w3 ⟨ay, cy, rfl, hr, hb⟩; have K3 := hidT (And.intro (And.intro (K2.out.1.below hb) hr) (K2.out.2.trans (hb.mono K2.out.2.size))); clear hb hr)
                    | (have _g := K1; clear _g; go_at_call 19; refine (HR1.out _ K1.out).mono ?_; rintro e w2 ⟨ax, cx, rfl, hr, hb⟩; have K2 := hidT (And.intro hr (K1.out.trans (hb.mono K1.out.size))); clear hb hr)
                    | (go_at_call 29; refine (HA.out _ (Below.refl _ _)).mono ?_; rintro e w1 ⟨rfl, hb⟩; have K1 := hidT hb; clear hb))
                  go_ret
                  exact ⟨by first | rfl | simp, KE.out⟩
                · have l7 : 7 < l := by omega
                  go_enter Try.func7, Try.ntmps7
                  go_wp2_with (first
                    | (have _g := K3; clear _g; go_at_call 10; refine (AW.out.go _).mono ?_; rintro e w9 ⟨rfl, hb⟩; have KE := hidT (K3.out.2.trans (hb.mono K3.out.2.size)); clear hb)
                    | (have _g := K2; clear _g; go_at_call 19; refine (HR2.out _ K2.out.2).mono ?_; rintro e w3 ⟨ay, cy, rfl, hr, hb⟩; have K3 := hidT (And.intro (And.intro (K2.out.1.below hb) hr) (K2.out.2.trans (hb.mono K2.out.2.size))); clear hb hr)
                    | (have _g := K1; clear _g; go_at_call 19; refine (HR1.out _ K1.out).mono ?_; rintro e w2 ⟨ax, cx, rfl, hr, hb⟩; have K2 := hidT (And.intro hr (K1.out.trans (hb.mono K1.out.size))); clear hb hr)
                    | (go_at_call 29; refine (HA.out _ (Below.refl _ _)).mono ?_; rintro e w1 ⟨rfl, hb⟩; have K1 := hidT hb; clear hb))
                  go_ret
                  exact ⟨by first | rfl | simp, KE.out⟩
        · by_cases g5 : (30 : Int) < (n : Int)
          · exact absurd g (by omega)
          · have g6 : ¬ (30 : Int) < (m : Int) := by omega
            clear g
            by_cases l0 : l < 0
            · go_enter Try.func7, Try.ntmps7
              go_wp2_with (first
                | (have _g := K3; clear _g; go_at_call 10; refine (AW.out.go _).mono ?_; rintro e w9 ⟨rfl, hb⟩; have KE := hidT (K3.out.2.trans (hb.mono K3.out.2.size)); clear hb)
                | (have _g := K2; clear _g; go_at_call 19; refine (HR2.out _ K2.out.2).mono ?_; rintro e w3 ⟨ay, cy, rfl, hr, hb⟩; have K3 := hidT (And.intro (And.intro (K2.out.1.below hb) hr) (K2.out.2.trans (hb.mono K2.out.2.size))); clear hb hr)
                | (have _g := K1; clear _g; go_at_call 19; refine (HR1.out _ K1.out).mono ?_; rintro e w2 ⟨ax, cx, rfl, hr, hb⟩; have K2 := hidT (And.intro hr (K1.out.trans (hb.mono K1.out.size))); clear hb hr)
                | (go_at_call 29; refine (HA.out _ (Below.refl _ _)).mono ?_; rintro e w1 ⟨rfl, hb⟩; have K1 := hidT hb; clear hb))
              go_ret
              exact ⟨by first | rfl | simp, KE.out⟩
            · have l7 : 7 < l := by omega
              go_enter Try.func7, Try.ntmps7
              go_wp2_with (first
                | (have _g := K3; clear _g; go_at_call 10; refine (AW.out.go _).mono ?_; rintro e w9 ⟨rfl, hb⟩; have KE := hidT (K3.out.2.trans (hb.mono K3.out.2.size)); clear hb)
                | (have _g := K2; clear _g; go_at_call 19; refine (HR2.out _ K2.out.2).mono ?_; rintro e w3 ⟨ay, cy, rfl, hr, hb⟩; have K3 := hidT (And.intro (And.intro (K2.out.1.below hb) hr) (K2.out.2.trans (hb.mono K2.out.2.size))); clear hb hr)
                | (have _g := K1; clear _g; go_at_call 19; refine (HR1.out _ K1.out).mono ?_; rintro e w2 ⟨ax, cx, rfl, hr, hb⟩; have K2 := hidT (And.intro hr (K1.out.trans (hb.mono K1.out.size))); clear hb hr)
                | (go_at_call 29; refine (HA.out _ (Below.refl _ _)).mono ?_; rintro e w1 ⟨rfl, hb⟩; have K1 := hidT hb; clear hb))
              go_ret
              exact ⟨by first | rfl | simp, KE.out⟩
    · by_cases g3 : (5 : Int) < (m : Int)
      · by_cases g4 : (m : Int) ≤ 16
        · exact absurd g (by omega)
        · have g5 : ¬ (30 : Int) < (n : Int) := by omega
          by_cases g6 : (30 : Int) < (m : Int)
          · exact absurd g (by omega)
          · clear g
            by_cases l0 : l < 0
            · go_enter Try.func7, Try.ntmps7
              go_wp2_with (first
                | (have _g := K3; clear _g; go_at_call 10; refine (AW.out.go _).mono ?_; rintro e w9 ⟨rfl, hb⟩; have KE := hidT (K3.out.2.trans (hb.mono K3.out.2.size)); clear hb)
                | (have _g := K2; clear _g; go_at_call 19; refine (HR2.out _ K2.out.2).mono ?_; rintro e w3 ⟨ay, cy, rfl, hr, hb⟩; have K3 := hidT (And.intro (And.intro (K2.out.1.below hb) hr) (K2.out.2.trans (hb.mono K2.out.2.size))); clear hb hr)
                | (have _g := K1; clear _g; go_at_call 19; refine (HR1.out _ K1.out).mono ?_; rintro e w2 ⟨ax, cx, rfl, hr, hb⟩; have K2 := hidT (And.intro hr (K1.out.trans (hb.mono K1.out.size))); clear hb hr)
                | (go_at_call 29; refine (HA.out _ (Below.refl _ _)).mono ?_; rintro e w1 ⟨rfl, hb⟩; have K1 := hidT hb; clear hb))
              go_ret
              exact ⟨by first | rfl | simp, KE.out⟩
            · have l7 : 7 < l := by omega
              go_enter Try.func7, Try.ntmps7
              go_wp2_with (first
                | (have _g := K3; clear _g; go_at_call 10; refine (AW.out.go _).mono ?_; rintro e w9 ⟨rfl, hb⟩; have KE := hidT (K3.out.2.trans (hb.mono K3.out.2.size)); clear hb)
                | (have _g := K2; clear _g; go_at_call 19; refine (HR2.out _ K2.out.2).mono ?_; rintro e w3 ⟨ay, cy, rfl, hr, hb⟩; have K3 := hidT (And.intro (And.intro (K2.out.1.below hb) hr) (K2.out.2.trans (hb.mono K2.out.2.size))); clear hb hr)
                | (have _g := K1; clear _g; go_at_call 19; refine (HR1.out _ K1.out).mono ?_; rintro e w2 ⟨ax, cx, rfl, hr, hb⟩; have K2 := hidT (And.intro hr (K1.out.trans (hb.mono K1.out.size))); clear hb hr)
                | (go_at_call 29; refine (HA.out _ (Below.refl _ _)).mono ?_; rintro e w1 ⟨rfl, hb⟩; have K1 := hidT hb; clear hb))
              go_ret
              exact ⟨by first | rfl | simp, KE.out⟩
      · have g5 : ¬ (30 : Int) < (n : Int) := by omega
        have g6 : ¬ (30 : Int) < (m : Int) := by omega
        clear g
        by_cases l0 : l < 0
        · go_enter Try.func7, Try.ntmps7
          go_wp2_with (first
            | (have _g := K3; clear _g; go_at_call 10; refine (AW.out.go _).mono ?_; rintro e w9 ⟨rfl, hb⟩; have KE := hidT (K3.out.2.trans (hb.mono K3.out.2.size)); clear hb)
            | (have _g := K2; clear _g; go_at_call 19; refine (HR2.out _ K2.out.2).mono ?_; rintro e w3 ⟨ay, cy, rfl, hr, hb⟩; have K3 := hidT (And.intro (And.intro (K2.out.1.below hb) hr) (K2.out.2.trans (hb.mono K2.out.2.size))); clear hb hr)
            | (have _g := K1; clear _g; go_at_call 19; refine (HR1.out _ K1.out).mono ?_; rintro e w2 ⟨ax, cx, rfl, hr, hb⟩; have K2 := hidT (And.intro hr (K1.out.trans (hb.mono K1.out.size))); clear hb hr)
            | (go_at_call 29; refine (HA.out _ (Below.refl _ _)).mono ?_; rintro e w1 ⟨rfl, hb⟩; have K1 := hidT hb; clear hb))
          go_ret
          exact ⟨by first | rfl | simp, KE.out⟩
        · have l7 : 7 < l := by omega
          go_enter Try.func7, Try.ntmps7
          go_wp2_with (first
            | (have _g := K3; clear _g; go_at_call 10; refine (AW.out.go _).mono ?_; rintro e w9 ⟨rfl, hb⟩; have KE := hidT (K3.out.2.trans (hb.mono K3.out.2.size)); clear hb)
            | (have _g := K2; clear _g; go_at_call 19; refine (HR2.out _ K2.out.2).mono ?_; rintro e w3 ⟨ay, cy, rfl, hr, hb⟩; have K3 := hidT (And.intro (And.intro (K2.out.1.below hb) hr) (K2.out.2.trans (hb.mono K2.out.2.size))); clear hb hr)
            | (have _g := K1; clear _g; go_at_call 19; refine (HR1.out _ K1.out).mono ?_; rintro e w2 ⟨ax, cx, rfl, hr, hb⟩; have K2 := hidT (And.intro hr (K1.out.trans (hb.mono K1.out.size))); clear hb hr)
            | (go_at_call 29; refine (HA.out _ (Below.refl _ _)).mono ?_; rintro e w1 ⟨rfl, hb⟩; have K1 := hidT hb; clear hb))
          go_ret
          exact ⟨by first | rfl | simp, KE.out⟩
set_option linter.unusedSimpArgs false in
set_option linter.unusedVariables false in
set_option maxHeartbeats 8000000 in
set_option maxRecDepth 100000 in
theorem pa_far (l : Int) (a1 a2 : Option Addr) (n c1 m c2 : Nat) (p q : List (Nat × Nat)) (g : ¬ (4 < l ∧ l ≤ 7 ∨ 5 < n ∧ n ≤ 16 ∨ 5 < m ∧ m ≤ 16 ∨ 30 < n ∨ 30 < m)) (hl : 0 ≤ l ∧ l ≤ 7) (hn : ¬ n = m) (W : World)
    (HA : Hid (∀ w, Below W.heap.size W w → Calls Try.prog 29 #[.int .i64 l, .slice a1 n c1, .slice a2 m c2] w fun e w' => e = .returned (.tuple #[.slice none 0 0, .int .i64 6]) ∧ Below w.heap.size w w'))
    (HR1 : Hid (∀ w, Below W.heap.size W w → Calls Try.prog 19 #[.slice a1 n c1] w fun e w' => ∃ a' cap', e = .returned (.slice a' n cap') ∧ ERow w' a' p ∧ Below w.heap.size w w'))
    (HR2 : Hid (∀ w, Below W.heap.size W w → Calls Try.prog 19 #[.slice a2 m c2] w fun e w' => ∃ a' cap', e = .returned (.slice a' m cap') ∧ ERow w' a' q ∧ Below w.heap.size w w')) :
    Calls Try.prog 7 #[.int .i64 l, .slice a1 n c1, .slice a2 m c2] W fun e w' => e = .returned (.bool true) ∧ Below W.heap.size W w' := by
  have AW := hidT awake19
  have q1 : ¬ (n : Int) = (m : Int) := by omega
  have h1 : ¬ 4 < l := by omega
  by_cases g1 : (5 : Int) < (n : Int)
  · by_cases g2 : (n : Int) ≤ 16
    · exact absurd g (by omega)
    · by_cases g3 : (5 : Int) < (m : Int)
      · by_cases g4 : (m : Int) ≤ 16
        · exact absurd g (by omega)
        · by_cases g5 : (30 : Int) < (n : Int)
          · exact absurd g (by omega)
          · by_cases g6 : (30 : Int) < (m : Int)
            · exact absurd g (by omega)
            · clear g
              have l0 : ¬ l < 0 := by omega
              have l7 : ¬ 7 < l := by omega
              go_enter Try.func7, Try.ntmps7
              go_wp2_with (first
                | (have _g := K3; clear _g; go_at_call 10; refine (AW.out.go _).mono ?_; rintro e w9 ⟨rfl, hb⟩; have KE := hidT (K3.out.2.trans (hb.mono K3.out.2.size)); clear hb)
                | (have _g := K2; clear _g; go_at_call 19; refine (HR2.out _ K2.out.2).mono ?_; rintro e w3 ⟨ay, cy, rfl, hr, hb⟩; have K3 := hidT (And.intro (And.intro (K2.out.1.below hb) hr) (K2.out.2.trans (hb.mono K2.out.2.size))); clear hb hr)
                | (have _g := K1; clear _g; go_at_call 19; refine (HR1.out _ K1.out).mono ?_; rintro e w2 ⟨ax, cx, rfl, hr, hb⟩; have K2 := hidT (And.intro hr (K1.out.trans (hb.mono K1.out.size))); clear hb hr)
                | (go_at_call 29; refine (HA.out _ (Below.refl _ _)).mono ?_; rintro e w1 ⟨rfl, hb⟩; have K1 := hidT hb; clear hb))
              go_ret
              exact ⟨by first | rfl | simp, KE.out⟩
      · by_cases g5 : (30 : Int) < (n : Int)
        · exact absurd g (by omega)
        · have g6 : ¬ (30 : Int) < (m : Int) := by omega
          clear g
          have l0 : ¬ l < 0 := by omega
          have l7 : ¬ 7 < l := by omega
          go_enter Try.func7, Try.ntmps7
          go_wp2_with (first
            | (have _g := K3; clear _g; go_at_call 10; refine (AW.out.go _).mono ?_; rintro e w9 ⟨rfl, hb⟩; have KE := hidT (K3.out.2.trans (hb.mono K3.out.2.size)); clear hb)
            | (have _g := K2; clear _g; go_at_call 19; refine (HR2.out _ K2.out.2).mono ?_; rintro e w3 ⟨ay, cy, rfl, hr, hb⟩; have K3 := hidT (And.intro (And.intro (K2.out.1.below hb) hr) (K2.out.2.trans (hb.mono K2.out.2.size))); clear hb hr)
            | (have _g := K1; clear _g; go_at_call 19; refine (HR1.out _ K1.out).mono ?_; rintro e w2 ⟨ax, cx, rfl, hr, hb⟩; have K2 := hidT (And.intro hr (K1.out.trans (hb.mono K1.out.size))); clear hb hr)
            | (go_at_call 29; refine (HA.out _ (Below.refl _ _)).mono ?_; rintro e w1 ⟨rfl, hb⟩; have K1 := hidT hb; clear hb))
          go_ret
          exact ⟨by first | rfl | simp, KE.out⟩
  · by_cases g3 : (5 : Int) < (m : Int)
    · by_cases g4 : (m : Int) ≤ 16
      · exact absurd g (by omega)
      · have g5 : ¬ (30 : Int) < (n : Int) := by omega
        by_cases g6 : (30 : Int) < (m : Int)
        · exact absurd g (by omega)
        · clear g
          have l0 : ¬ l < 0 := by omega
          have l7 : ¬ 7 < l := by omega
          go_enter Try.func7, Try.ntmps7
          go_wp2_with (first
            | (have _g := K3; clear _g; go_at_call 10; refine (AW.out.go _).mono ?_; rintro e w9 ⟨rfl, hb⟩; have KE := hidT (K3.out.2.trans (hb.mono K3.out.2.size)); clear hb)
            | (have _g := K2; clear _g; go_at_call 19; refine (HR2.out _ K2.out.2).mono ?_; rintro e w3 ⟨ay, cy, rfl, hr, hb⟩; have K3 := hidT (And.intro (And.intro (K2.out.1.below hb) hr) (K2.out.2.trans (hb.mono K2.out.2.size))); clear hb hr)
            | (have _g := K1; clear _g; go_at_call 19; refine (HR1.out _ K1.out).mono ?_; rintro e w2 ⟨ax, cx, rfl, hr, hb⟩; have K2 := hidT (And.intro hr (K1.out.trans (hb.mono K1.out.size))); clear hb hr)
            | (go_at_call 29; refine (HA.out _ (Below.refl _ _)).mono ?_; rintro e w1 ⟨rfl, hb⟩; have K1 := hidT hb; clear hb))
          go_ret
          exact ⟨by first | rfl | simp, KE.out⟩
    · have g5 : ¬ (30 : Int) < (n : Int) := by omega
      have g6 : ¬ (30 : Int) < (m : Int) := by omega
      clear g
      have l0 : ¬ l < 0 := by omega
      have l7 : ¬ 7 < l := by omega
      go_enter Try.func7, Try.ntmps7
      go_wp2_with (first
        | (have _g := K3; clear _g; go_at_call 10; refine (AW.out.go _).mono ?_; rintro e w9 ⟨rfl, hb⟩; have KE := hidT (K3.out.2.trans (hb.mono K3.out.2.size)); clear hb)
        | (have _g := K2; clear _g; go_at_call 19; refine (HR2.out _ K2.out.2).mono ?_; rintro e w3 ⟨ay, cy, rfl, hr, hb⟩; have K3 := hidT (And.intro (And.intro (K2.out.1.below hb) hr) (K2.out.2.trans (hb.mono K2.out.2.size))); clear hb hr)
        | (have _g := K1; clear _g; go_at_call 19; refine (HR1.out _ K1.out).mono ?_; rintro e w2 ⟨ax, cx, rfl, hr, hb⟩; have K2 := hidT (And.intro hr (K1.out.trans (hb.mono K1.out.size))); clear hb hr)
        | (go_at_call 29; refine (HA.out _ (Below.refl _ _)).mono ?_; rintro e w1 ⟨rfl, hb⟩; have K1 := hidT hb; clear hb))
      go_ret
      exact ⟨by first | rfl | simp, KE.out⟩
set_option linter.unusedSimpArgs false in
set_option linter.unusedVariables false in
set_option maxHeartbeats 8000000 in
set_option maxRecDepth 100000 in
theorem pa_big (l : Int) (a1 a2 : Option Addr) (n c1 m c2 : Nat) (p q : List (Nat × Nat)) (hl : 0 ≤ l ∧ l ≤ 4) (hm : n = m) (hn : 16 < n ∧ n ≤ 30) (W : World)
    (HA : Hid (∀ w, Below W.heap.size W w → Calls Try.prog 29 #[.int .i64 l, .slice a1 n c1, .slice a2 m c2] w fun e w' => e = .returned (.tuple #[.slice none 0 0, .int .i64 6]) ∧ Below w.heap.size w w'))
    (HR1 : Hid (∀ w, Below W.heap.size W w → Calls Try.prog 19 #[.slice a1 n c1] w fun e w' => ∃ a' cap', e = .returned (.slice a' n cap') ∧ ERow w' a' p ∧ Below w.heap.size w w'))
    (HR2 : Hid (∀ w, Below W.heap.size W w → Calls Try.prog 19 #[.slice a2 m c2] w fun e w' => ∃ a' cap', e = .returned (.slice a' m cap') ∧ ERow w' a' q ∧ Below w.heap.size w w')) :
    Calls Try.prog 7 #[.int .i64 l, .slice a1 n c1, .slice a2 m c2] W fun e w' => e = .returned (.bool true) ∧ Below W.heap.size W w' := by
  have AW := hidT awake19
  subst hm
  have l0 : ¬ l < 0 := by omega
  have l7 : ¬ 7 < l := by omega
  have h1 : ¬ 4 < l := by omega
  have g1 : (5 : Int) < (n : Int) := by omega
  have g2 : ¬ (n : Int) ≤ 16 := by omega
  have g5 : ¬ (30 : Int) < (n : Int) := by omega
  have q1 : (16 : Int) < (n : Int) := by omega
  go_enter Try.func7, Try.ntmps7
  go_wp2_with (first
    | (have _g := K3; clear _g; go_at_call 10; refine (AW.out.go _).mono ?_; rintro e w9 ⟨rfl, hb⟩; have KE := hidT (K3.out.2.trans (hb.mono K3.out.2.size)); clear hb)
    | (have _g := K2; clear _g; go_at_call 19; refine (HR2.out _ K2.out.2).mono ?_; rintro e w3 ⟨ay, cy, rfl, hr, hb⟩; have K3 := hidT (And.intro (And.intro (K2.out.1.below hb) hr) (K2.out.2.trans (hb.mono K2.out.2.size))); clear hb hr)
    | (have _g := K1; clear _g; go_at_call 19; refine (HR1.out _ K1.out).mono ?_; rintro e w2 ⟨ax, cx, rfl, hr, hb⟩; have K2 := hidT (And.intro hr (K1.out.trans (hb.mono K1.out.size))); clear hb hr)
    | (go_at_call 29; refine (HA.out _ (Below.refl _ _)).mono ?_; rintro e w1 ⟨rfl, hb⟩; have K1 := hidT hb; clear hb))
  go_ret
  exact ⟨by first | rfl | simp, KE.out⟩
set_option linter.unusedSimpArgs false in
set_option linter.unusedVariables false in
set_option maxHeartbeats 8000000 in
set_option maxRecDepth 100000 in
theorem pa_fl1 (l : Int) (a1 a2 : Option Addr) (n c1 m c2 : Nat) (p q : List (Nat × Nat)) (hl : 0 ≤ l ∧ l ≤ 4) (hm : n = m) (hn : n ≤ 5) (W : World)
    (HA : Hid (∀ w, Below W.heap.size W w → Calls Try.prog 29 #[.int .i64 l, .slice a1 n c1, .slice a2 m c2] w fun e w' => e = .returned (.tuple #[.slice none 0 0, .int .i64 5]) ∧ Below w.heap.size w w'))
    (HR1 : Hid (∀ w, Below W.heap.size W w → Calls Try.prog 19 #[.slice a1 n c1] w fun e w' => ∃ a' cap', e = .returned (.slice a' n cap') ∧ ERow w' a' p ∧ Below w.heap.size w w'))
    (HR2 : Hid (∀ w, Below W.heap.size W w → Calls Try.prog 19 #[.slice a2 m c2] w fun e w' => ∃ a' cap', e = .returned (.slice a' m cap') ∧ ERow w' a' q ∧ Below w.heap.size w w'))
    (B1 : Hid (∀ w (a : Option Addr) (c : Nat), ERow w a p → Calls Try.prog 30 #[.int .i64 l, .slice a n c] w fun e w' => e = .returned (.bool false) ∧ Below w.heap.size w w')) :
    Calls Try.prog 7 #[.int .i64 l, .slice a1 n c1, .slice a2 m c2] W fun e w' => e = .returned (.bool true) ∧ Below W.heap.size W w' := by
  have AW := hidT awake19
  subst hm
  have l0 : ¬ l < 0 := by omega
  have l7 : ¬ 7 < l := by omega
  have h1 : ¬ 4 < l := by omega
  have g1 : ¬ (5 : Int) < (n : Int) := by omega
  have g5 : ¬ (30 : Int) < (n : Int) := by omega
  have q1 : ¬ (16 : Int) < (n : Int) := by omega
  go_enter Try.func7, Try.ntmps7
  go_wp2_with (first
    | (have _g := K4; clear _g; go_at_call 10; refine (AW.out.go _).mono ?_; rintro e w9 ⟨rfl, hb⟩; have KE := hidT (K4.out.2.trans (hb.mono K4.out.2.size)); clear hb)
    | (have _g := K3; clear _g; go_at_call 30; refine (B1.out _ _ _ K3.out.1.1).mono ?_; rintro e w4 ⟨rfl, hb⟩; have K4 := hidT (And.intro (And.intro (K3.out.1.1.below hb) (K3.out.1.2.below hb)) (K3.out.2.trans (hb.mono K3.out.2.size))); clear hb)
    | (have _g := K2; clear _g; go_at_call 19; refine (HR2.out _ K2.out.2).mono ?_; rintro e w3 ⟨ay, cy, rfl, hr, hb⟩; have K3 := hidT (And.intro (And.intro (K2.out.1.below hb) hr) (K2.out.2.trans (hb.mono K2.out.2.size))); clear hb hr)
    | (have _g := K1; clear _g; go_at_call 19; refine (HR1.out _ K1.out).mono ?_; rintro e w2 ⟨ax, cx, rfl, hr, hb⟩; have K2 := hidT (And.intro hr (K1.out.trans (hb.mono K1.out.size))); clear hb hr)
    | (go_at_call 29; refine (HA.out _ (Below.refl _ _)).mono ?_; rintro e w1 ⟨rfl, hb⟩; have K1 := hidT hb; clear hb))
  go_ret
  exact ⟨by first | rfl | simp, KE.out⟩
set_option linter.unusedSimpArgs false in
set_option linter.unusedVariables false in
set_option maxHeartbeats 8000000 in
set_option maxRecDepth 100000 in
theorem pa_fl2 (l : Int) (a1 a2 : Option Addr) (n c1 m c2 : Nat) (p q : List (Nat × Nat)) (hl : 0 ≤ l ∧ l ≤ 4) (hm : n = m) (hn : n ≤ 5) (W : World)
    (HA : Hid (∀ w, Below W.heap.size W w → Calls Try.prog 29 #[.int .i64 l, .slice a1 n c1, .slice a2 m c2] w fun e w' => e = .returned (.tuple #[.slice none 0 0, .int .i64 5]) ∧ Below w.heap.size w w'))
    (HR1 : Hid (∀ w, Below W.heap.size W w → Calls Try.prog 19 #[.slice a1 n c1] w fun e w' => ∃ a' cap', e = .returned (.slice a' n cap') ∧ ERow w' a' p ∧ Below w.heap.size w w'))
    (HR2 : Hid (∀ w, Below W.heap.size W w → Calls Try.prog 19 #[.slice a2 m c2] w fun e w' => ∃ a' cap', e = .returned (.slice a' m cap') ∧ ERow w' a' q ∧ Below w.heap.size w w'))
    (B1 : Hid (∀ w (a : Option Addr) (c : Nat), ERow w a p → Calls Try.prog 30 #[.int .i64 l, .slice a n c] w fun e w' => e = .returned (.bool true) ∧ Below w.heap.size w w'))
    (B2 : Hid (∀ w (a : Option Addr) (c : Nat), ERow w a q → Calls Try.prog 30 #[.int .i64 l, .slice a n c] w fun e w' => e = .returned (.bool false) ∧ Below w.heap.size w w')) :
    Calls Try.prog 7 #[.int .i64 l, .slice a1 n c1, .slice a2 m c2] W fun e w' => e = .returned (.bool true) ∧ Below W.heap.size W w' := by
  have AW := hidT awake19
  subst hm
  have l0 : ¬ l < 0 := by omega
  have l7 : ¬ 7 < l := by omega
  have h1 : ¬ 4 < l := by omega
  have g1 : ¬ (5 : Int) < (n : Int) := by omega
  have g5 : ¬ (30 : Int) < (n : Int) := by omega
  have q1 : ¬ (16 : Int) < (n : Int) := by omega
  go_enter Try.func7, Try.ntmps7
  go_wp2_with (first
    | (have _g := K5; clear _g; go_at_call 10; refine (AW.out.go _).mono ?_; rintro e w9 ⟨rfl, hb⟩; have KE := hidT (K5.out.2.trans (hb.mono K5.out.2.size)); clear hb)
    | (have _g := K4; clear _g; go_at_call 30; refine (B2.out _ _ _ K4.out.1.2).mono ?_; rintro e w5 ⟨rfl, hb⟩; have K5 := hidT (And.intro (And.intro (K4.out.1.1.below hb) (K4.out.1.2.below hb)) (K4.out.2.trans (hb.mono K4.out.2.size))); clear hb)
    | (have _g := K3; clear _g; go_at_call 30; refine (B1.out _ _ _ K3.out.1.1).mono ?_; rintro e w4 ⟨rfl, hb⟩; have K4 := hidT (And.intro (And.intro (K3.out.1.1.below hb) (K3.out.1.2.below hb)) (K3.out.2.trans (hb.mono K3.out.2.size))); clear hb)
    | (have _g := K2; clear _g; go_at_call 19; refine (HR2.out _ K2.out.2).mono ?_; rintro e w3 ⟨ay, cy, rfl, hr, hb⟩; have K3 := hidT (And.intro (And.intro (K2.out.1.below hb) hr) (K2.out.2.trans (hb.mono K2.out.2.size))); clear hb hr)
    | (have _g := K1; clear _g; go_at_call 19; refine (HR1.out _ K1.out).mono ?_; rintro e w2 ⟨ax, cx, rfl, hr, hb⟩; have K2 := hidT (And.intro hr (K1.out.trans (hb.mono K1.out.size))); clear hb hr)
    | (go_at_call 29; refine (HA.out _ (Below.refl _ _)).mono ?_; rintro e w1 ⟨rfl, hb⟩; have K1 := hidT hb; clear hb))
  go_ret
  exact ⟨by first | rfl | simp, KE.out⟩
set_option linter.unusedSimpArgs false in
set_option linter.unusedVariables false in
set_option maxHeartbeats 8000000 in
set_option maxRecDepth 100000 in
theorem pa_ok (l : Int) (a1 a2 : Option Addr) (n c1 m c2 : Nat) (p q : List (Nat × Nat)) (hl : 0 ≤ l ∧ l ≤ 4) (hm : n = m) (hn : n ≤ 5) (N : Nat) (N1 : N ≤ 128) (X : List (Nat × Nat)) (hX : X.length = N) (W : World)
    (HA : Hid (∀ w, Below W.heap.size W w → Calls Try.prog 29 #[.int .i64 l, .slice a1 n c1, .slice a2 m c2] w fun e w' => ∃ g : Nat, e = .returned (.tuple #[.slice (some ⟨g, 0, none⟩) N N, .int .i64 0]) ∧ ERow w' (some ⟨g, 0, none⟩) X ∧ Below w.heap.size w w'))
    (HS : Hid (∀ w, Below W.heap.size W w → Calls Try.prog 32 #[.int .i64 l, .slice a1 n c1, .slice a2 m c2] w fun e w' => ∃ g : Nat, e = .returned (.slice (some ⟨g, 0, none⟩) N N) ∧ ERow w' (some ⟨g, 0, none⟩) X ∧ Below w.heap.size w w'))
    (HD : Hid (∀ w (a b : Option Addr) (c d : Nat), ERow w a p → ERow w b q → Calls Try.prog 31 #[.int .i64 l, .slice a n c, .slice b n d] w fun e w' => ∃ g c : Nat, e = .returned (.slice (some ⟨g, 0, none⟩) N c) ∧ ERow w' (some ⟨g, 0, none⟩) X ∧ Below w.heap.size w w'))
    (HR1 : Hid (∀ w, Below W.heap.size W w → Calls Try.prog 19 #[.slice a1 n c1] w fun e w' => ∃ a' cap', e = .returned (.slice a' n cap') ∧ ERow w' a' p ∧ Below w.heap.size w w'))
    (HR2 : Hid (∀ w, Below W.heap.size W w → Calls Try.prog 19 #[.slice a2 m c2] w fun e w' => ∃ a' cap', e = .returned (.slice a' m cap') ∧ ERow w' a' q ∧ Below w.heap.size w w'))
    (B1 : Hid (∀ w (a : Option Addr) (c : Nat), ERow w a p → Calls Try.prog 30 #[.int .i64 l, .slice a n c] w fun e w' => e = .returned (.bool true) ∧ Below w.heap.size w w'))
    (B2 : Hid (∀ w (a : Option Addr) (c : Nat), ERow w a q → Calls Try.prog 30 #[.int .i64 l, .slice a n c] w fun e w' => e = .returned (.bool true) ∧ Below w.heap.size w w')) :
    Calls Try.prog 7 #[.int .i64 l, .slice a1 n c1, .slice a2 m c2] W fun e w' => e = .returned (.bool true) ∧ Below W.heap.size W w' := by
  have AW := hidT awake19
  subst hm
  have l0 : ¬ l < 0 := by omega
  have l7 : ¬ 7 < l := by omega
  have h1 : ¬ 4 < l := by omega
  have g1 : ¬ (5 : Int) < (n : Int) := by omega
  have g5 : ¬ (30 : Int) < (n : Int) := by omega
  have q1 : ¬ (16 : Int) < (n : Int) := by omega
  have SM := hidT (fun (a b : Option Addr) (c d : Nat) (w : World) (h1 : ERow w a X) (h2 : ERow w b X) => same_rows a b c d X (by omega) w h1 h2)
  rw [hX] at SM
  have AK := hidT (fun (b1 b2 c1 c2 : Nat) (w : World) (r1 : ERow w (some ⟨b1, 0, none⟩) X) (r2 : ERow w (some ⟨b2, 0, none⟩) X) => alike19 N N1 b1 0 c1 b2 0 c2 X hX w r1 r2)
  clear hX
  go_enter Try.func7, Try.ntmps7
  go_wp2_with (first
    | (have _g := K8; clear _g; go_at_call 28; refine (AK.out gs gt N N _ K8.out.1.2 K8.out.1.1).mono ?_; rintro e v4 ⟨rfl, hb⟩; have KE := hidT (K8.out.2.trans (hb.mono K8.out.2.size)); clear hb)
    | (have _g := K7; clear _g; go_at_call 32; refine (HS.out _ K7.out.2).mono ?_; rintro e v3 ⟨gs, rfl, hr, hb⟩; have K8 := hidT (And.intro (And.intro (K7.out.1.below hb) hr) (K7.out.2.trans (hb.mono K7.out.2.size))); clear hb hr)
    | (have _g := K6b; clear _g; go_at_call 12; refine (SM.out _ _ _ _ _ K6b.out.1.1 K6b.out.1.2).mono ?_; rintro e v2 ⟨rfl, hb⟩; have K7 := hidT (And.intro (K6b.out.1.1.below hb) (K6b.out.2.trans (hb.mono K6b.out.2.size))); clear hb)
    | (have _g := K6; clear _g; go_at_call 31; refine (HD.out _ _ _ _ _ K6.out.1.2.1 K6.out.1.2.2).mono ?_; rintro e v1 ⟨gd, cd, rfl, hr, hb⟩; have K6b := hidT (And.intro (And.intro (K6.out.1.1.below hb) hr) (K6.out.2.trans (hb.mono K6.out.2.size))); clear hb hr)
    | (have _g := K5; clear _g; go_at_call 10; refine (AW.out.go _).mono ?_; rintro e w6 ⟨rfl, hb⟩; have K6 := hidT (And.intro (And.intro (K5.out.1.1.below hb) (And.intro (K5.out.1.2.1.below hb) (K5.out.1.2.2.below hb))) (K5.out.2.trans (hb.mono K5.out.2.size))); clear hb)
    | (have _g := K4; clear _g; go_at_call 30; refine (B2.out _ _ _ K4.out.1.2.2).mono ?_; rintro e w5 ⟨rfl, hb⟩; have K5 := hidT (And.intro (And.intro (K4.out.1.1.below hb) (And.intro (K4.out.1.2.1.below hb) (K4.out.1.2.2.below hb))) (K4.out.2.trans (hb.mono K4.out.2.size))); clear hb)
    | (have _g := K3; clear _g; go_at_call 30; refine (B1.out _ _ _ K3.out.1.2.1).mono ?_; rintro e w4 ⟨rfl, hb⟩; have K4 := hidT (And.intro (And.intro (K3.out.1.1.below hb) (And.intro (K3.out.1.2.1.below hb) (K3.out.1.2.2.below hb))) (K3.out.2.trans (hb.mono K3.out.2.size))); clear hb)
    | (have _g := K2; clear _g; go_at_call 19; refine (HR2.out _ K2.out.2).mono ?_; rintro e w3 ⟨ay, cy, rfl, hr, hb⟩; have K3 := hidT (And.intro (And.intro (K2.out.1.1.below hb) (And.intro (K2.out.1.2.below hb) hr)) (K2.out.2.trans (hb.mono K2.out.2.size))); clear hb hr)
    | (have _g := K1; clear _g; go_at_call 19; refine (HR1.out _ K1.out.2).mono ?_; rintro e w2 ⟨ax, cx, rfl, hr, hb⟩; have K2 := hidT (And.intro (And.intro (K1.out.1.below hb) hr) (K1.out.2.trans (hb.mono K1.out.2.size))); clear hb hr)
    | (go_at_call 29; refine (HA.out _ (Below.refl _ _)).mono ?_; rintro e w1 ⟨gt, rfl, hr, hb⟩; have K1 := hidT (And.intro hr hb); clear hb hr))
  go_ret
  exact ⟨by first | rfl | simp, KE.out⟩
theorem pa_any (l : Int) (a1 a2 : Option Addr) (c1 c2 : Nat) (p q : List (Nat × Nat)) (lp : ltE p) (lq : ltE q) (W : World) (rp : ERow W a1 p) (rq : ERow W a2 q) :
    Calls Try.prog 7 #[.int .i64 l, .slice a1 p.length c1, .slice a2 q.length c2] W fun e w' => e = .returned (.bool true) ∧ Below W.heap.size W w' := by
  by_cases g : 4 < l ∧ l ≤ 7 ∨ 5 < p.length ∧ p.length ≤ 16 ∨ 5 < q.length ∧ q.length ≤ 16 ∨ 30 < p.length ∨ 30 < q.length
  · exact pa_skip l a1 a2 _ c1 _ c2 p q g W
  · have HR1 := fun w (hw : Below W.heap.size W w) => ref_row a1 c1 p (by omega) w (rp.below hw)
    have HR2 := fun w (hw : Below W.heap.size W w) => ref_row a2 c2 q (by omega) w (rq.below hw)
    by_cases hl : 0 ≤ l ∧ l ≤ 7
    · by_cases hn : p.length = q.length
      · obtain ⟨n, hp⟩ : ∃ n, n = p.length := ⟨_, rfl⟩
        have hq : q.length = n := by omega
        by_cases h16 : 16 < n
        · rw [← hp, hq] at g ⊢
          rw [← hp] at HR1
          rw [hq] at HR2
          exact pa_big l a1 a2 n c1 n c2 p q (by omega) rfl (by omega) W (fun w _ => al_big l a1 a2 n c1 n c2 hl rfl h16 w) HR1 HR2
        · obtain ⟨k, rfl⟩ : ∃ k : Nat, l = (k : Int) := ⟨l.toNat, by omega⟩
          have hk : k < 8 := by omega
          have AL1 := fun w (hw : Below W.heap.size W w) => pall_any (k : Int) a1 c1 p lp w (rp.below hw) (by omega)
          have AL2 := fun w (hw : Below W.heap.size W w) => pall_any (k : Int) a2 c2 q lq w (rq.below hw) (by omega)
          have B1 := fun w (a : Option Addr) (c : Nat) (h : ERow w a p) => rall15 (k : Int) a c p lp w h (by omega)
          have B2 := fun w (a : Option Addr) (c : Nat) (h : ERow w a q) => rall15 (k : Int) a c q lq w h (by omega)
          rw [← hp] at HR1 AL1 B1
          rw [hq] at HR2 AL2 B2
          rw [← hp, hq] at g ⊢
          cases b1 : p.all fun e => ofB (k : Int) (e.1 : Int) (e.2 : Int) with
          | false =>
            rw [b1] at AL1 B1
            exact pa_fl1 (k : Int) a1 a2 n c1 n c2 p q (by omega) rfl (by omega) W (fun w hw => al_fl1 (k : Int) a1 a2 n c1 n c2 hl rfl (by omega) w (fun u hu => AL1 u (hw.trans (hu.mono hw.size)))) HR1 HR2 B1
          | true =>
            rw [b1] at AL1 B1
            cases b2 : q.all fun e => ofB (k : Int) (e.1 : Int) (e.2 : Int) with
            | false =>
              rw [b2] at AL2 B2
              exact pa_fl2 (k : Int) a1 a2 n c1 n c2 p q (by omega) rfl (by omega) W (fun w hw => al_fl2 (k : Int) a1 a2 n c1 n c2 hl rfl (by omega) w (fun u hu => AL1 u (hw.trans (hu.mono hw.size))) (fun u hu => AL2 u (hw.trans (hu.mono hw.size)))) HR1 HR2 B1 B2
            | true =>
              rw [b2] at B2
              have op : ofT k p := fun e he => List.all_eq_true.1 b1 e he
              have oq : ofT k q := fun e he => List.all_eq_true.1 b2 e he
              obtain ⟨N, hN⟩ : ∃ N, N = 2 ^ k := ⟨_, rfl⟩
              obtain ⟨M, hM⟩ : ∃ M, 2 ^ n = M := ⟨_, rfl⟩
              have eX : alk N p q n = al N M (wt p) (wt q) := by
                unfold alk
                rw [hM, List.take_of_length_le (by omega), List.take_of_length_le (by omega)]
              have HA := fun w (hw : Below W.heap.size W w) => alike_ok k hk N hN n (by omega) a1 a2 c1 c2 p q hp.symm hq lp lq op oq w (rp.below hw) (rq.below hw)
              rw [eX] at HA
              exact pa_ok (k : Int) a1 a2 n c1 n c2 p q (by omega) rfl (by omega) N (by rw [hN]; exact pow128 hk) (al N M (wt p) (wt q)) (al_len _ _ _ _) W HA
                (fun w hw => sum_ok k hk N hN n M hM (by omega) a1 a2 c1 c2 p q hp.symm hq lp lq op oq w (rp.below hw) (rq.below hw))
                (fun w a b c d h1 h2 => ralike k hk N hN n M hM (by omega) a b c d p q hp.symm hq lp lq w h1 h2) HR1 HR2 B1 B2
      · exact pa_far l a1 a2 _ c1 _ c2 p q g hl hn W (fun w _ => al_far l a1 a2 _ c1 _ c2 hl hn w) HR1 HR2
    · exact pa_lev l a1 a2 _ c1 _ c2 p q g hl W (fun w _ => al_lev l a1 a2 _ c1 _ c2 hl w) HR1 HR2
end Pv
end Go.Proofs.Ytcejppibcemdeaa
