/- PackvReckons over the seat's translation. -/
import Derived.Test.YtcejppibcemdeaaPvT
import Derived.Test.YtcejppibcemdeaaSmA
namespace Go.Proofs.Ytcejppibcemdeaa
open Go.RowKit
open Cb Rg
open Tw (pm)
namespace Pv

set_option linter.unusedSimpArgs false in
set_option linter.unusedVariables false in
set_option maxHeartbeats 8000000 in
set_option maxRecDepth 100000 in
theorem rk_few (l : Int) (a1 a2 : Option Addr) (n1 c1 n2 c2 : Nat) (W : World) (HF : Hid (Calls Try.prog 15 #[.int .i64 l, .slice (some ⟨W.heap.size, 0, none⟩) 2 2] (W.alloc (Obj.cells #[.slice a1 n1 c1, .slice a2 n2 c2] 25)) fun e w' => e = .returned (.bool false) ∧ Below W.heap.size W w')) :
    Calls Try.prog 4 #[.int .i64 l, .slice a1 n1 c1, .slice a2 n2 c2] W fun e w' => e = .returned (.bool true) ∧ Below W.heap.size W w' := by
  have AW := hidT awake19
  go_enter Try.func4, Try.ntmps4
  go_wp2_with (first | (go_at_call 15; refine (HF.out).mono ?_; rintro e w1 ⟨rfl, hb1⟩; have K1 := hidT hb1; clear hb1) | (go_at_call 10; refine (AW.out.go _).mono ?_; rintro e w2 ⟨rfl, hb⟩; have K2 := hidT (K1.out.trans (hb.mono K1.out.size)); clear hb))
  go_ret
  exact ⟨rfl, K2.out⟩
set_option linter.unusedSimpArgs false in
set_option linter.unusedVariables false in
set_option maxHeartbeats 8000000 in
set_option maxRecDepth 100000 in
theorem rk_err (l E E1 : Int) (hE : ¬ E = 0) (hE1 : ¬ E1 = 0) (a1 a2 : Option Addr) (n1 c1 n2 c2 : Nat) (s t : List (Nat × Nat)) (W : World) (HF : Hid (Calls Try.prog 15 #[.int .i64 l, .slice (some ⟨W.heap.size, 0, none⟩) 2 2] (W.alloc (Obj.cells #[.slice a1 n1 c1, .slice a2 n2 c2] 25)) fun e w' => e = .returned (.bool true) ∧ Below W.heap.size W w'))
    (HA : Hid (∀ w, Below W.heap.size W w → Calls Try.prog 16 #[.int .i64 l, .slice a1 n1 c1, .slice a2 n2 c2] w fun e w' => e = .returned (.tuple #[.slice none 0 0, .int .i64 E]) ∧ Below w.heap.size w w'))
    (HT : Hid (∀ w, Below W.heap.size W w → Calls Try.prog 17 #[.int .i64 l, .slice a1 n1 c1, .slice a2 n2 c2] w fun e w' => e = .returned (.tuple #[.slice none 0 0, .int .i64 E]) ∧ Below w.heap.size w w'))
    (HU : Hid (∀ w, Below W.heap.size W w → Calls Try.prog 18 #[.int .i64 l, .slice a1 n1 c1] w fun e w' => e = .returned (.tuple #[.slice none 0 0, .int .i64 E1]) ∧ Below w.heap.size w w'))
    (HR1 : Hid (∀ w, Below W.heap.size W w → Calls Try.prog 19 #[.slice a1 n1 c1] w fun e w' => ∃ a' cap', e = .returned (.slice a' n1 cap') ∧ ERow w' a' s ∧ Below w.heap.size w w'))
    (HR2 : Hid (∀ w, Below W.heap.size W w → Calls Try.prog 19 #[.slice a2 n2 c2] w fun e w' => ∃ a' cap', e = .returned (.slice a' n2 cap') ∧ ERow w' a' t ∧ Below w.heap.size w w'))
    (HM : Hid (∀ w (a b : Option Addr) (c d : Nat), ERow w a s → ERow w b t → Calls Try.prog 20 #[.int .i64 l, .slice a n1 c, .slice b n2 d] w fun e w' => e = .returned (.int .i64 E) ∧ Below w.heap.size w w'))
    (HM1 : Hid (∀ w (a : Option Addr) (c : Nat), ERow w a s → Calls Try.prog 20 #[.int .i64 l, .slice a n1 c, .slice a n1 c] w fun e w' => e = .returned (.int .i64 E1) ∧ Below w.heap.size w w')) :
    Calls Try.prog 4 #[.int .i64 l, .slice a1 n1 c1, .slice a2 n2 c2] W fun e w' => e = .returned (.bool true) ∧ Below W.heap.size W w' := by
  have AW := hidT awake19
  have hE' : (E == 0) = false := by rw [beq_eq_false_iff_ne]; exact hE
  have hE1' : (E1 == 0) = false := by rw [beq_eq_false_iff_ne]; exact hE1
  go_enter Try.func4, Try.ntmps4
  go_wp2_with (first
    | (go_at_call 15; refine (HF.out).mono ?_; rintro e w1 ⟨rfl, hb1⟩; have K1 := hidT hb1; clear hb1)
    | (go_at_call 16; refine (HA.out _ K1.out).mono ?_; rintro e w2 ⟨rfl, hb⟩; have K2 := hidT (K1.out.trans (hb.mono K1.out.size)); clear hb)
    | (go_at_call 17; refine (HT.out _ K2.out).mono ?_; rintro e w3 ⟨rfl, hb⟩; have K3 := hidT (K2.out.trans (hb.mono K2.out.size)); clear hb)
    | (go_at_call 18; refine (HU.out _ K3.out).mono ?_; rintro e w4 ⟨rfl, hb⟩; have K4 := hidT (K3.out.trans (hb.mono K3.out.size)); clear hb)
    | (go_at_call 10; refine (AW.out.go _).mono ?_; rintro e w9 ⟨rfl, hb⟩; have K9 := hidT (K8.out.trans (hb.mono K8.out.size)); clear hb)
    | (go_at_call 20; refine (HM1.out _ _ _ K7.out.1).mono ?_; rintro e w8 ⟨rfl, hb⟩; have K8 := hidT (K7.out.2.trans (hb.mono K7.out.2.size)); clear hb)
    | (go_at_call 20; refine (HM.out _ _ _ _ _ K6.out.1 K6.out.2.1).mono ?_; rintro e w7 ⟨rfl, hb⟩; have K7 := hidT (And.intro (K6.out.1.below hb) (K6.out.2.2.trans (hb.mono K6.out.2.2.size))); clear hb)
    | (go_at_call 19; refine (HR2.out _ K5.out.2).mono ?_; rintro e w6 ⟨ay, cy, rfl, hr, hb⟩; have K6 := hidT (And.intro (K5.out.1.below hb) (And.intro hr (K5.out.2.trans (hb.mono K5.out.2.size)))); clear hb hr)
    | (go_at_call 19; refine (HR1.out _ K4.out).mono ?_; rintro e w5 ⟨ax, cx, rfl, hr, hb⟩; have K5 := hidT (And.intro hr (K4.out.trans (hb.mono K4.out.size))); clear hb hr))
  go_ret
  exact ⟨by first | rfl | simp, K9.out⟩
set_option linter.unusedSimpArgs false in
set_option linter.unusedVariables false in
set_option maxHeartbeats 8000000 in
set_option maxRecDepth 100000 in
theorem rk_mid (l E : Int) (hE : ¬ E = 0) (a1 a2 : Option Addr) (n1 c1 n2 c2 : Nat) (s t u : List (Nat × Nat)) (n0 : 0 < n1) (hs' : s.length = n1) (hu' : u.length = n1) (hn : n1 ≤ 128) (W : World) (HF : Hid (Calls Try.prog 15 #[.int .i64 l, .slice (some ⟨W.heap.size, 0, none⟩) 2 2] (W.alloc (Obj.cells #[.slice a1 n1 c1, .slice a2 n2 c2] 25)) fun e w' => e = .returned (.bool true) ∧ Below W.heap.size W w'))
    (HA : Hid (∀ w, Below W.heap.size W w → Calls Try.prog 16 #[.int .i64 l, .slice a1 n1 c1, .slice a2 n2 c2] w fun e w' => e = .returned (.tuple #[.slice none 0 0, .int .i64 E]) ∧ Below w.heap.size w w'))
    (HT : Hid (∀ w, Below W.heap.size W w → Calls Try.prog 17 #[.int .i64 l, .slice a1 n1 c1, .slice a2 n2 c2] w fun e w' => e = .returned (.tuple #[.slice none 0 0, .int .i64 E]) ∧ Below w.heap.size w w'))
    (HU : Hid (∀ w, Below W.heap.size W w → Calls Try.prog 18 #[.int .i64 l, .slice a1 n1 c1] w fun e w' => ∃ g, e = .returned (.tuple #[.slice (some ⟨g, 0, none⟩) n1 n1, .int .i64 0]) ∧ ERow w' (some ⟨g, 0, none⟩) u ∧ Below w.heap.size w w'))
    (HD : Hid (∀ w (g f c : Nat), ERow w (some ⟨g, f, none⟩) s → Calls Try.prog 21 #[.int .i64 l, .slice (some ⟨g, f, none⟩) n1 c] w fun e w' => ∃ g c : Nat, e = .returned (.slice (some ⟨g, 0, none⟩) n1 c) ∧ ERow w' (some ⟨g, 0, none⟩) u ∧ Below w.heap.size w w'))
    (HR1 : Hid (∀ w, Below W.heap.size W w → Calls Try.prog 19 #[.slice a1 n1 c1] w fun e w' => ∃ a' cap', e = .returned (.slice a' n1 cap') ∧ ERow w' a' s ∧ Below w.heap.size w w'))
    (HR2 : Hid (∀ w, Below W.heap.size W w → Calls Try.prog 19 #[.slice a2 n2 c2] w fun e w' => ∃ a' cap', e = .returned (.slice a' n2 cap') ∧ ERow w' a' t ∧ Below w.heap.size w w'))
    (HM : Hid (∀ w (a b : Option Addr) (c d : Nat), ERow w a s → ERow w b t → Calls Try.prog 20 #[.int .i64 l, .slice a n1 c, .slice b n2 d] w fun e w' => e = .returned (.int .i64 E) ∧ Below w.heap.size w w'))
    (HM1 : Hid (∀ w (a : Option Addr) (c : Nat), ERow w a s → Calls Try.prog 20 #[.int .i64 l, .slice a n1 c, .slice a n1 c] w fun e w' => e = .returned (.int .i64 0) ∧ Below w.heap.size w w')) :
    Calls Try.prog 4 #[.int .i64 l, .slice a1 n1 c1, .slice a2 n2 c2] W fun e w' => e = .returned (.bool true) ∧ Below W.heap.size W w' := by
  have AW := hidT awake19
  have hE' : (E == 0) = false := by rw [beq_eq_false_iff_ne]; exact hE
  have SM := hidT (fun (a b : Option Addr) (c d : Nat) (w : World) (h1 : ERow w a u) (h2 : ERow w b u) => same_rows a b c d u (by omega) w h1 h2)
  rw [hu'] at SM
  have NE := hidT (fun (w : World) (a : Option Addr) (h : ERow w a s) => show ∃ g f : Nat, a = some ⟨g, f, none⟩ from by
    obtain ⟨g, f, e, _⟩ := h.cells 0 (by omega)
    exact ⟨g, f, e⟩)
  clear hs' hu'
  go_enter Try.func4, Try.ntmps4
  go_wp2_with (first
    | (go_at_call 15; refine (HF.out).mono ?_; rintro e w1 ⟨rfl, hb1⟩; have K1 := hidT hb1; clear hb1)
    | (go_at_call 16; refine (HA.out _ K1.out).mono ?_; rintro e w2 ⟨rfl, hb⟩; have K2 := hidT (K1.out.trans (hb.mono K1.out.size)); clear hb)
    | (go_at_call 17; refine (HT.out _ K2.out).mono ?_; rintro e w3 ⟨rfl, hb⟩; have K3 := hidT (K2.out.trans (hb.mono K2.out.size)); clear hb)
    | (go_at_call 18; refine (HU.out _ K3.out).mono ?_; rintro e w4 ⟨gc, rfl, hr, hb⟩; have K4 := hidT (And.intro hr (K3.out.trans (hb.mono K3.out.size))); clear hb hr)
    | (go_at_call 10; refine (AW.out.go _).mono ?_; rintro e v3 ⟨rfl, hb⟩; have K11 := hidT (K10.out.trans (hb.mono K10.out.size)); clear hb)
    | (go_at_call 12; refine (SM.out _ _ _ _ _ K9.out.1 K9.out.2.1).mono ?_; rintro e v2 ⟨rfl, hb⟩; have K10 := hidT (K9.out.2.2.trans (hb.mono K9.out.2.2.size)); clear hb)
    | (go_at_call 21; refine (HD.out _ gx fx cx K8.out.2.1).mono ?_; rintro e v1 ⟨gd, cd, rfl, hr, hb⟩; have K9 := hidT (And.intro (K8.out.1.below hb) (And.intro hr (K8.out.2.2.trans (hb.mono K8.out.2.2.size)))); clear hb hr)
    | (go_at_call 20; refine (HM1.out _ _ _ K7.out.2.1).mono ?_; rintro e w8 ⟨rfl, hb⟩; have K8 := hidT (And.intro (K7.out.1.below hb) (And.intro (K7.out.2.1.below hb) (K7.out.2.2.trans (hb.mono K7.out.2.2.size)))); clear hb)
    | (go_at_call 20; refine (HM.out _ _ _ _ _ K6.out.2.1 K6.out.2.2.1).mono ?_; rintro e w7 ⟨rfl, hb⟩; have K7 := hidT (And.intro (K6.out.1.below hb) (And.intro (K6.out.2.1.below hb) (K6.out.2.2.2.trans (hb.mono K6.out.2.2.2.size)))); clear hb)
    | (go_at_call 19; refine (HR2.out _ K5.out.2.2).mono ?_; rintro e w6 ⟨ay, cy, rfl, hr, hb⟩; have K6 := hidT (And.intro (K5.out.1.below hb) (And.intro (K5.out.2.1.below hb) (And.intro hr (K5.out.2.2.trans (hb.mono K5.out.2.2.size))))); clear hb hr)
    | (go_at_call 19; refine (HR1.out _ K4.out.2).mono ?_; rintro e w5 ⟨ax, cx, rfl, hr, hb⟩; obtain ⟨gx, fx, rfl⟩ := NE.out _ _ hr; have K5 := hidT (And.intro (K4.out.1.below hb) (And.intro hr (K4.out.2.trans (hb.mono K4.out.2.size)))); clear hb hr))
  go_ret
  exact ⟨by first | rfl | simp, K11.out⟩
set_option linter.unusedSimpArgs false in
set_option linter.unusedVariables false in
set_option maxHeartbeats 8000000 in
set_option maxRecDepth 100000 in
theorem rk_ok (l : Int) (a1 a2 : Option Addr) (n1 c1 c2 : Nat) (s t u p q : List (Nat × Nat)) (n0 : 0 < n1) (hs' : s.length = n1) (ht' : t.length = n1) (hu' : u.length = n1) (hp' : p.length = n1) (hq' : q.length = n1) (hn : n1 ≤ 128) (W : World) (HF : Hid (Calls Try.prog 15 #[.int .i64 l, .slice (some ⟨W.heap.size, 0, none⟩) 2 2] (W.alloc (Obj.cells #[.slice a1 n1 c1, .slice a2 n1 c2] 25)) fun e w' => e = .returned (.bool true) ∧ Below W.heap.size W w'))
    (HA : Hid (∀ w, Below W.heap.size W w → Calls Try.prog 16 #[.int .i64 l, .slice a1 n1 c1, .slice a2 n1 c2] w fun e w' => ∃ g, e = .returned (.tuple #[.slice (some ⟨g, 0, none⟩) n1 n1, .int .i64 0]) ∧ ERow w' (some ⟨g, 0, none⟩) p ∧ Below w.heap.size w w'))
    (HT : Hid (∀ w, Below W.heap.size W w → Calls Try.prog 17 #[.int .i64 l, .slice a1 n1 c1, .slice a2 n1 c2] w fun e w' => ∃ g f c : Nat, e = .returned (.tuple #[.slice (some ⟨g, f, none⟩) n1 c, .int .i64 0]) ∧ ERow w' (some ⟨g, f, none⟩) q ∧ Below w.heap.size w w'))
    (HU : Hid (∀ w, Below W.heap.size W w → Calls Try.prog 18 #[.int .i64 l, .slice a1 n1 c1] w fun e w' => ∃ g, e = .returned (.tuple #[.slice (some ⟨g, 0, none⟩) n1 n1, .int .i64 0]) ∧ ERow w' (some ⟨g, 0, none⟩) u ∧ Below w.heap.size w w'))
    (HD : Hid (∀ w (g f c : Nat), ERow w (some ⟨g, f, none⟩) s → Calls Try.prog 21 #[.int .i64 l, .slice (some ⟨g, f, none⟩) n1 c] w fun e w' => ∃ g c : Nat, e = .returned (.slice (some ⟨g, 0, none⟩) n1 c) ∧ ERow w' (some ⟨g, 0, none⟩) u ∧ Below w.heap.size w w'))
    (DA : Hid (∀ w (g f c g2 f2 d : Nat), ERow w (some ⟨g, f, none⟩) s → ERow w (some ⟨g2, f2, none⟩) t → Calls Try.prog 22 #[.slice (some ⟨g, f, none⟩) n1 c, .slice (some ⟨g2, f2, none⟩) n1 d] w fun e w' => ∃ g c : Nat, e = .returned (.slice (some ⟨g, 0, none⟩) n1 c) ∧ ERow w' (some ⟨g, 0, none⟩) p ∧ Below w.heap.size w w'))
    (DT : Hid (∀ w (g f c g2 f2 d : Nat), ERow w (some ⟨g, f, none⟩) s → ERow w (some ⟨g2, f2, none⟩) t → Calls Try.prog 23 #[.int .i64 l, .slice (some ⟨g, f, none⟩) n1 c, .slice (some ⟨g2, f2, none⟩) n1 d] w fun e w' => ∃ g c : Nat, e = .returned (.slice (some ⟨g, 0, none⟩) n1 c) ∧ ERow w' (some ⟨g, 0, none⟩) q ∧ Below w.heap.size w w'))
    (HR1 : Hid (∀ w, Below W.heap.size W w → Calls Try.prog 19 #[.slice a1 n1 c1] w fun e w' => ∃ a' cap', e = .returned (.slice a' n1 cap') ∧ ERow w' a' s ∧ Below w.heap.size w w'))
    (HR2 : Hid (∀ w, Below W.heap.size W w → Calls Try.prog 19 #[.slice a2 n1 c2] w fun e w' => ∃ a' cap', e = .returned (.slice a' n1 cap') ∧ ERow w' a' t ∧ Below w.heap.size w w'))
    (HM : Hid (∀ w (a b : Option Addr) (c d : Nat), ERow w a s → ERow w b t → Calls Try.prog 20 #[.int .i64 l, .slice a n1 c, .slice b n1 d] w fun e w' => e = .returned (.int .i64 0) ∧ Below w.heap.size w w'))
    (HM1 : Hid (∀ w (a : Option Addr) (c : Nat), ERow w a s → Calls Try.prog 20 #[.int .i64 l, .slice a n1 c, .slice a n1 c] w fun e w' => e = .returned (.int .i64 0) ∧ Below w.heap.size w w')) :
    Calls Try.prog 4 #[.int .i64 l, .slice a1 n1 c1, .slice a2 n1 c2] W fun e w' => e = .returned (.bool true) ∧ Below W.heap.size W w' := by
  have AW := hidT awake19
  have SM := hidT (fun (x : List (Nat × Nat)) (hx : x.length = n1) (a b : Option Addr) (c d : Nat) (w : World) (h1 : ERow w a x) (h2 : ERow w b x) => show Calls Try.prog 12 #[.slice a n1 c, .slice b n1 d] w fun e w' => e = .returned (.bool true) ∧ Below w.heap.size w w' from by
    have := same_rows a b c d x (by omega) w h1 h2
    rw [hx] at this
    exact this)
  have LN := hidT (And.intro hu' (And.intro hp' hq'))
  have NE := hidT (fun (w : World) (a : Option Addr) (h : ERow w a s) => show ∃ g f : Nat, a = some ⟨g, f, none⟩ from by
    obtain ⟨g, f, e, _⟩ := h.cells 0 (by omega)
    exact ⟨g, f, e⟩)
  have NF := hidT (fun (w : World) (a : Option Addr) (h : ERow w a t) => show ∃ g f : Nat, a = some ⟨g, f, none⟩ from by
    obtain ⟨g, f, e, _⟩ := h.cells 0 (by omega)
    exact ⟨g, f, e⟩)
  clear hs' ht' hu' hp' hq'
  go_enter Try.func4, Try.ntmps4
  go_wp2_with (first
    | (go_at_call 15; refine (HF.out).mono ?_; rintro e w1 ⟨rfl, hb1⟩; have K1 := hidT hb1; clear hb1)
    | (go_at_call 16; refine (HA.out _ K1.out).mono ?_; rintro e w2 ⟨ga, rfl, hr, hb⟩; have K2 := hidT (And.intro hr (K1.out.trans (hb.mono K1.out.size))); clear hb hr)
    | (go_at_call 17; refine (HT.out _ K2.out.2).mono ?_; rintro e w3 ⟨gb, fb, cb, rfl, hr, hb⟩; have K3 := hidT (And.intro (And.intro (K2.out.1.below hb) hr) (K2.out.2.trans (hb.mono K2.out.2.size))); clear hb hr)
    | (go_at_call 18; refine (HU.out _ K3.out.2).mono ?_; rintro e w4 ⟨gc, rfl, hr, hb⟩; have K4 := hidT (And.intro (And.intro (K3.out.1.1.below hb) (And.intro (K3.out.1.2.below hb) hr)) (K3.out.2.trans (hb.mono K3.out.2.size))); clear hb hr)
    | (go_at_call 12; refine (SM.out q LN.out.2.2 _ _ _ _ _ K15.out.1.1 K15.out.1.2).mono ?_; rintro e v7 ⟨rfl, hb⟩; have K16 := hidT (K15.out.2.trans (hb.mono K15.out.2.size)); clear hb)
    | (go_at_call 23; refine (DT.out _ gx fx cx gy fy cy K14.out.1.2.1 K14.out.1.2.2).mono ?_; rintro e v6 ⟨ge, ce, rfl, hr, hb⟩; have K15 := hidT (And.intro (And.intro (K14.out.1.1.below hb) hr) (K14.out.2.trans (hb.mono K14.out.2.size))); clear hb hr)
    | (go_at_call 12; refine (SM.out p LN.out.2.1 _ _ _ _ _ K13.out.1.2.1 K13.out.1.2.2).mono ?_; rintro e v5 ⟨rfl, hb⟩; have K14 := hidT (And.intro (And.intro (K13.out.1.1.1.below hb) (And.intro (K13.out.1.1.2.1.below hb) (K13.out.1.1.2.2.below hb))) (K13.out.2.trans (hb.mono K13.out.2.size))); clear hb)
    | (go_at_call 22; refine (DA.out _ gx fx cx gy fy cy K12.out.1.2.1.1 K12.out.1.2.1.2).mono ?_; rintro e v4 ⟨gf, cf, rfl, hr, hb⟩; have K13 := hidT (And.intro (And.intro (And.intro (K12.out.1.2.2.below hb) (And.intro (K12.out.1.2.1.1.below hb) (K12.out.1.2.1.2.below hb))) (And.intro (K12.out.1.1.below hb) hr)) (K12.out.2.trans (hb.mono K12.out.2.size))); clear hb hr)
    | (go_at_call 10; refine (AW.out.go _).mono ?_; rintro e v3 ⟨rfl, hb⟩; have K12 := hidT (And.intro (And.intro (K10.out.1.1.below hb) (And.intro (And.intro (K10.out.1.2.1.1.below hb) (K10.out.1.2.1.2.below hb)) (K10.out.1.2.2.below hb))) (K10.out.2.trans (hb.mono K10.out.2.size))); clear hb)
    | (go_at_call 12; refine (SM.out u LN.out.1 _ _ _ _ _ K9.out.1.1 K9.out.1.2).mono ?_; rintro e v2 ⟨rfl, hb⟩; have K10 := hidT (And.intro (And.intro (K9.out.2.1.1.below hb) (And.intro (And.intro (K9.out.2.1.2.1.1.below hb) (K9.out.2.1.2.1.2.below hb)) (K9.out.2.1.2.2.below hb))) (K9.out.2.2.trans (hb.mono K9.out.2.2.size))); clear hb)
    | (go_at_call 21; refine (HD.out _ gx fx cx K8.out.1.2.1.1).mono ?_; rintro e v1 ⟨gd, cd, rfl, hr, hb⟩; have K9 := hidT (And.intro (And.intro (K8.out.1.2.2.2.below hb) hr) (And.intro (And.intro (K8.out.1.1.below hb) (And.intro (And.intro (K8.out.1.2.1.1.below hb) (K8.out.1.2.1.2.below hb)) (K8.out.1.2.2.1.below hb))) (K8.out.2.trans (hb.mono K8.out.2.size)))); clear hb hr)
    | (go_at_call 20; refine (HM1.out _ _ _ K7.out.1.2.1.1).mono ?_; rintro e w8 ⟨rfl, hb⟩; have K8 := hidT (And.intro (And.intro (K7.out.1.1.below hb) (And.intro (And.intro (K7.out.1.2.1.1.below hb) (K7.out.1.2.1.2.below hb)) (And.intro (K7.out.1.2.2.1.below hb) (K7.out.1.2.2.2.below hb)))) (K7.out.2.trans (hb.mono K7.out.2.size))); clear hb)
    | (go_at_call 20; refine (HM.out _ _ _ _ _ K6.out.1.2.1.1 K6.out.1.2.1.2).mono ?_; rintro e w7 ⟨rfl, hb⟩; have K7 := hidT (And.intro (And.intro (K6.out.1.1.below hb) (And.intro (And.intro (K6.out.1.2.1.1.below hb) (K6.out.1.2.1.2.below hb)) (And.intro (K6.out.1.2.2.1.below hb) (K6.out.1.2.2.2.below hb)))) (K6.out.2.trans (hb.mono K6.out.2.size))); clear hb)
    | (go_at_call 19; refine (HR2.out _ K5.out.2.2).mono ?_; rintro e w6 ⟨ay, cy, rfl, hr, hb⟩; obtain ⟨gy, fy, rfl⟩ := NF.out _ _ hr; have K6 := hidT (And.intro (And.intro (K5.out.1.1.below hb) (And.intro (And.intro (K5.out.2.1.below hb) hr) (And.intro (K5.out.1.2.1.below hb) (K5.out.1.2.2.below hb)))) (K5.out.2.2.trans (hb.mono K5.out.2.2.size))); clear hb hr)
    | (go_at_call 19; refine (HR1.out _ K4.out.2).mono ?_; rintro e w5 ⟨ax, cx, rfl, hr, hb⟩; obtain ⟨gx, fx, rfl⟩ := NE.out _ _ hr; have K5 := hidT (And.intro (And.intro (K4.out.1.1.below hb) (And.intro (K4.out.1.2.1.below hb) (K4.out.1.2.2.below hb))) (And.intro hr (K4.out.2.trans (hb.mono K4.out.2.size)))); clear hb hr))
  go_ret
  exact ⟨by first | rfl | simp, K16.out⟩
theorem hdv_zero {k N : Nat} {s t : List (Nat × Nat)} (h : hdv k N [s, t] [] = 0) : s.length = N ∧ t.length = N ∧ ofT k s ∧ ofT k t := by
  unfold hdv at h
  split at h
  · rename_i hz
    split at h
    · rename_i ha
      have hz' : s.length = N ∧ t.length = N := by simpa [szB] using hz
      unfold alB at ha
      rw [List.all_eq_true] at ha
      have f := fun r hr => List.all_eq_true.1 (ha r hr)
      exact ⟨hz'.1, hz'.2, fun e he => f s (by simp) e he, fun e he => f t (by simp) e he⟩
    · cases h
  · cases h
theorem hdv_self (k N : Nat) (s : List (Nat × Nat)) : hdv k N [s] [] = hdv k N [s, s] [] := by
  unfold hdv szB alB
  by_cases e1 : s.length = N <;> cases hB : (s.all fun e => ofB (k : Int) (e.1 : Int) (e.2 : Int)) <;> simp [e1, hB]
theorem rk_any (l : Int) (a1 a2 : Option Addr) (c1 c2 : Nat) (s t : List (Nat × Nat)) (ls : ltE s) (lt : ltE t) (k1 : s.length ≤ c1) (k2 : t.length ≤ c2) (W : World) (rs : ERow W a1 s) (rt : ERow W a2 t) :
    Calls Try.prog 4 #[.int .i64 l, .slice a1 s.length c1, .slice a2 t.length c2] W fun e w' => e = .returned (.bool true) ∧ Below W.heap.size W w' := by
  have HF0 := few19 l (some ⟨W.heap.size, 0, none⟩) 2 2 [(a1, s.length, c1), (a2, t.length, c2)] rfl (by decide) (W.alloc (Obj.cells #[.slice a1 s.length c1, .slice a2 t.length c2] 25)) (grid_new W _ [(a1, s.length, c1), (a2, t.length, c2)] _ rfl)
  have HF := HF0.mono fun e w' h => show e = .returned (.bool (fw19 l [(a1, s.length, c1), (a2, t.length, c2)])) ∧ Below W.heap.size W w' from ⟨h.1, ((Below.refl W.heap.size W).alloc (Nat.le_refl _) _).trans (h.2.mono (by simp))⟩
  clear HF0
  cases hfw : fw19 l [(a1, s.length, c1), (a2, t.length, c2)] with
  | false =>
    rw [hfw] at HF
    exact rk_few l a1 a2 _ c1 _ c2 W HF
  | true =>
    rw [hfw] at HF
    have h20 : s.length ≤ 20 ∧ t.length ≤ 20 := by
      unfold fw19 at hfw
      simp at hfw
      exact hfw.2
    have HR1 := fun w (hw : Below W.heap.size W w) => ref_row a1 c1 s (by omega) w (rs.below hw)
    have HR2 := fun w (hw : Below W.heap.size W w) => ref_row a2 c2 t (by omega) w (rt.below hw)
    by_cases hl : 0 ≤ l ∧ l ≤ 7
    · obtain ⟨k, rfl⟩ : ∃ k : Nat, l = (k : Int) := ⟨l.toNat, by omega⟩
      have hk : k < 8 := by omega
      obtain ⟨N, hN⟩ : ∃ N, N = 2 ^ k := ⟨_, rfl⟩
      have n128 : N ≤ 128 := by rw [hN]; exact pow128 hk
      have n0 : 0 < N := by rw [hN]; exact Nat.two_pow_pos k
      have HM := fun w (a b : Option Addr) (c d : Nat) (x : ERow w a s) (y : ERow w b t) => rmayv k hk N hN a b c d s t ls lt (by omega) (by omega) w x y
      have HM1 := fun w (a : Option Addr) (c : Nat) (x : ERow w a s) => rmayv k hk N hN a a c c s s ls ls (by omega) (by omega) w x x
      have HI2 := fun w (hw : Below W.heap.size W w) => hind_two k hk N hN a1 a2 c1 c2 s t ls lt (by omega) (by omega) w (rs.below hw) (rt.below hw)
      have HI1 := fun w (hw : Below W.heap.size W w) => hind_one k hk N hN a1 c1 s ls (by omega) w (rs.below hw)
      by_cases hE : hdv k N [s, t] [] = 0
      · obtain ⟨z1, z2, z3, z4⟩ := hdv_zero hE
        have hE1 : hdv k N [s, s] [] = 0 := hdv_two z1 z1 z3 z3
        rw [hE] at HM
        rw [hE1] at HM1
        obtain ⟨b1, o1, e1, _⟩ := rs.cells 0 (by omega)
        obtain ⟨b2, o2, e2, _⟩ := rt.cells 0 (by omega)
        subst e1
        subst e2
        rw [z1] at HF HR1 HM HM1 k1 ⊢
        rw [z2] at HF HR2 HM k2 ⊢
        exact rk_ok (k : Int) _ _ N c1 c2 s t (trns N s) (ad2 s t) (prL k s t) n0 z1 z2 (trns_len _ _) ((ad2_len _ _).trans z1) ((prL_len _ _ _).trans hN.symm) n128 W HF
          (fun w hw => add_ok k hk N hN _ _ c1 c2 s t z1 z2 ls lt z3 z4 w (rs.below hw) (rt.below hw))
          (fun w hw => (times_ok k hk N hN b1 o1 c1 b2 o2 c2 s t z1 z2 ls lt z3 z4 k1 k2 w (rs.below hw) (rt.below hw)).mono fun e w' ⟨b, f, c, x1, _, x3, x4⟩ => ⟨b, f, c, x1, x3, x4⟩)
          (fun w hw => turned_ok k hk N hN _ c1 s z1 ls z3 w (rs.below hw))
          (fun w g f c x => rturned k hk N hN g f c s z1 ls w x)
          (fun w g f c g2 f2 d x y => rAdd_any N g f c g2 f2 d s t n0 (by omega) z1 z2 ls lt w x y)
          (fun w g f c g2 f2 d x y => rtimes k hk N hN g f c g2 f2 d s t z1 z2 ls lt w x y)
          HR1 HR2 HM HM1
      · by_cases hE1 : hdv k N [s, s] [] = 0
        · obtain ⟨z1, _, z3, _⟩ := hdv_zero hE1
          rw [hE1] at HM1
          have HI2' := HI2
          have A := fun w hw => add_no (k : Int) _ a1 a2 s.length c1 t.length c2 hE w (HI2' w hw)
          have T := fun w hw => times_no (k : Int) _ a1 a2 s.length c1 t.length c2 hE w (HI2' w hw)
          rw [z1] at HF HR1 HM HM1 A T ⊢
          exact rk_mid (k : Int) _ hE a1 a2 N c1 _ c2 s t (trns N s) n0 z1 (trns_len _ _) n128 W HF A T
            (fun w hw => turned_ok k hk N hN _ c1 s z1 ls z3 w (rs.below hw))
            (fun w g f c x => rturned k hk N hN g f c s z1 ls w x)
            HR1 HR2 HM HM1
        · exact rk_err (k : Int) _ _ hE hE1 a1 a2 _ c1 _ c2 s t W HF
            (fun w hw => add_no (k : Int) _ a1 a2 s.length c1 t.length c2 hE w (HI2 w hw))
            (fun w hw => times_no (k : Int) _ a1 a2 s.length c1 t.length c2 hE w (HI2 w hw))
            (fun w hw => turned_no (k : Int) _ a1 s.length c1 hE1 w (by have := HI1 w hw; rw [hdv_self] at this; exact this))
            HR1 HR2 HM HM1
    · have HH := fun (a b : Option Addr) (n c n2 c2 : Nat) w => phind_lev l hl a b n c n2 c2 w
      exact rk_err l 1 1 (by decide) (by decide) a1 a2 _ c1 _ c2 s t W HF
        (fun w hw => add_no l 1 a1 a2 s.length c1 t.length c2 (by decide) w ((HH none _ 0 0 2 2 _).mono fun e w' h => ⟨h.1, ((Below.refl w.heap.size w).alloc (Nat.le_refl _) _).trans (h.2.mono (by simp))⟩))
        (fun w hw => times_no l 1 a1 a2 s.length c1 t.length c2 (by decide) w ((HH none _ 0 0 2 2 _).mono fun e w' h => ⟨h.1, ((Below.refl w.heap.size w).alloc (Nat.le_refl _) _).trans (h.2.mono (by simp))⟩))
        (fun w hw => turned_no l 1 a1 s.length c1 (by decide) w ((HH none _ 0 0 1 1 _).mono fun e w' h => ⟨h.1, ((Below.refl w.heap.size w).alloc (Nat.le_refl _) _).trans (h.2.mono (by simp))⟩))
        HR1 HR2 (fun w a b c d _ _ => may_bad l hl a b _ c _ d w) (fun w a c _ => may_bad l hl a a _ c _ c w)
end Pv
end Go.Proofs.Ytcejppibcemdeaa
