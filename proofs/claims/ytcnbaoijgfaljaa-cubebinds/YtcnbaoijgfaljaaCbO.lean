/- The walk of CubeBinds over the seat's translation: where nothing is bound. -/
import Derived.Test.YtcnbaoijgfaljaaCbI
import Derived.Test.YtcnbaoijgfaljaaCbM
namespace Go.Proofs.Ytcnbaoijgfaljaa
open Go.RowKit
open Cb
open Tw (pm)

/-- A box of two slices. -/
structure Xb (W w : World) (s0 s1 : Value) : Prop where
  x0 : w.cell? ⟨W.heap.size, 0, none⟩ = some s0
  x1 : w.cell? ⟨W.heap.size, 1, none⟩ = some s1
  d : Below W.heap.size W w
theorem Xb.below {W w w' : World} {s0 s1 : Value} (h : Xb W w s0 s1) (hb : Below w.heap.size w w') : Xb W w' s0 s1 := ⟨keepc hb h.x0, keepc hb h.x1, h.d.trans (hb.mono h.d.size)⟩
theorem Xb.drew {W w : World} {s0 s1 : Value} (h : Xb W w s0 s1) : Xb W w.drew s0 s1 := h.below (Below.refl _ _).drew
theorem Xb.alloc {W w : World} {s0 s1 : Value} (h : Xb W w s0 s1) (o : Obj) : Xb W (w.alloc o) s0 s1 := h.below ((Below.refl _ _).alloc (Nat.le_refl _) o)
theorem Xb.start (W : World) (ar ap : Option Addr) (nr np cr cp : Nat) : Xb W (W.alloc (Obj.cells #[.slice ar nr cr, .slice ap np cp] 57)) (.slice ar nr cr) (.slice ap np cp) :=
  ⟨by simp [go_sem], by simp [go_sem], by go_grown⟩
set_option maxHeartbeats 1000000 in
set_option maxRecDepth 100000 in
theorem cb_far (l : Int) (a ar ap : Option Addr) (n nr np c cr cp : Nat) (h : 70 < n ∨ 8 < nr ∨ 8 < np) (W : World) :
    Calls Try.prog 8 #[.int .i64 l, .slice a n c, .agg #[.slice ar nr cr, .slice ap np cp]] W fun e w' => e = .returned (.bool true) ∧ Below W.heap.size W w' := by
  have AW := awake15
  by_cases h1 : (70 : Int) < (n : Int)
  · clear h
    go_enter Try.func8, Try.ntmps8
    go_wp2_with (go_at_call 26; refine (AW.go _).mono ?_; rintro e w1 ⟨rfl, hb1⟩; have K1 := (Xb.start W ar ap nr np cr cp).below hb1)
    go_ret
    exact ⟨rfl, K1.d⟩
  · by_cases h2 : (8 : Int) < (nr : Int)
    · clear h
      go_enter Try.func8, Try.ntmps8
      go_wp2_with (go_at_call 26; refine (AW.go _).mono ?_; rintro e w1 ⟨rfl, hb1⟩; have K1 := (Xb.start W ar ap nr np cr cp).below hb1)
      go_ret
      exact ⟨rfl, K1.d⟩
    · have h3 : (8 : Int) < (np : Int) := by omega
      clear h
      go_enter Try.func8, Try.ntmps8
      go_wp2_with (go_at_call 26; refine (AW.go _).mono ?_; rintro e w1 ⟨rfl, hb1⟩; have K1 := (Xb.start W ar ap nr np cr cp).below hb1)
      go_ret
      exact ⟨rfl, K1.d⟩
set_option maxHeartbeats 2000000 in
set_option maxRecDepth 100000 in
theorem cb_err (l : Int) (a ar ap : Option Addr) (c cr cp np : Nat) (t rs : List (Nat × Nat)) (ht : ltE t) (hr : ltE rs) (h1 : t.length ≤ 70) (h2 : rs.length ≤ 8) (h3 : np ≤ 8) (E : Int) (hE : fiE l t rs = E) (h0 : ¬ E = 0) (W : World) (hT : ERow W a t) (hR : ERow W ar rs) :
    Calls Try.prog 8 #[.int .i64 l, .slice a t.length c, .agg #[.slice ar rs.length cr, .slice ap np cp]] W fun e w' => e = .returned (.bool true) ∧ Below W.heap.size W w' := by
  have AW := awake15
  have HF : Hid (∀ w, Below W.heap.size W w → Calls Try.prog 27 #[.int .i64 l, .slice a t.length c, .slice ar rs.length cr] w fun e w' => e = .returned (.tuple #[.slice none 0 0, .int .i64 E]) ∧ Below w.heap.size w w') := fun w hb => cfi_err l a ar c cr t rs ht hr (by omega) (by omega) E hE h0 w (hT.below hb) (hR.below hb)
  have HG : Hid (∀ w, Below W.heap.size W w → Calls Try.prog 28 #[.int .i64 l, .slice a t.length c, .slice ar rs.length cr] w fun e w' => e = .returned (.tuple #[.slice none 0 0, .int .i64 E]) ∧ Below w.heap.size w w') := fun w hb => cla_err l a ar c cr t rs ht hr (by omega) (by omega) E hE h0 w (hT.below hb) (hR.below hb)
  have HR1 : Hid (∀ w, Below W.heap.size W w → Calls Try.prog 18 #[.slice ar rs.length cr] w fun e w' => ∃ a' cap', e = .returned (.slice a' rs.length cap') ∧ ERow w' a' rs ∧ Below w.heap.size w w') := fun w hb => ref_row ar cr rs (by omega) w (hR.below hb)
  have HR2 : Hid (∀ w, Below W.heap.size W w → Calls Try.prog 18 #[.slice a t.length c] w fun e w' => ∃ a' cap', e = .returned (.slice a' t.length cap') ∧ ERow w' a' t ∧ Below w.heap.size w w') := fun w hb => ref_row a c t (by omega) w (hT.below hb)
  have HM : Hid (∀ (w : World) (ax ay : Option Addr) (cx cy : Nat), ERow w ax t → ERow w ay rs → Calls Try.prog 29 #[.int .i64 l, .slice ax t.length cx, .slice ay rs.length cy] w fun e w' => e = .returned (.int .i64 E) ∧ Below w.heap.size w w') := fun w ax ay cx cy hx hy => by
    rw [← hE]; exact rmay_any l ax ay cx cy t rs ht hr (by omega) (by omega) w hx hy
  have g1 : ¬ (70 : Int) < (t.length : Int) := by omega
  have g2 : ¬ (8 : Int) < (rs.length : Int) := by omega
  have g3 : ¬ (8 : Int) < (np : Int) := by omega
  have b1 : (E != 0) = true := by simp [h0]
  have b2 : (E != E) = false := by simp
  have K0 : Hid (Xb W _ _ _) := Xb.start W ar ap rs.length np cr cp
  clear hT hR ht hr hE h1 h2 h3
  generalize hn : t.length = n at *
  generalize hm : rs.length = m at *
  clear hn hm
  go_enter Try.func8, Try.ntmps8
  go_wp2_with (first | (go_at_call 27; refine (HF.out _ K0.out.d).mono ?_; rintro e w1 ⟨rfl, hb1⟩; have K1 : Hid (Xb W w1 _ _) := K0.out.below hb1; clear hb1; have x0 := K1.out.x0) | (go_at_call 28; refine (HG.out _ K1.out.d).mono ?_; rintro e w2 ⟨rfl, hb2⟩; have K2 : Hid (Xb W w2 _ _) := K1.out.below hb2; clear hb2 x0; have x0 := K2.out.x0) | (go_at_call_of 18 (#[.slice ar m cr] : Array Value); refine (HR1.out _ K2.out.d).mono ?_; rintro e w3 ⟨ay, cy, rfl, hy, hb3⟩; have K3 : Hid (Xb W w3 _ _ ∧ ERow w3 ay rs) := ⟨K2.out.below hb3, hy⟩; clear hb3 x0 hy HR1) | (go_at_call 18; refine (HR2.out _ K3.out.1.d).mono ?_; rintro e w4 ⟨ax, cx, rfl, hx, hb4⟩; have K4 : Hid (Xb W w4 _ _ ∧ ERow w4 ay rs ∧ ERow w4 ax t) := ⟨K3.out.1.below hb4, K3.out.2.below hb4, hx⟩; clear hb4 hx) | (go_at_call 29; refine (HM.out _ ax ay cx cy K4.out.2.2 K4.out.2.1).mono ?_; rintro e w5 ⟨rfl, hb5⟩; have K5 : Hid (Xb W w5 _ _) := K4.out.1.below hb5; clear hb5) | (go_at_call 26; refine (AW.go _).mono ?_; rintro e w6 ⟨rfl, hb6⟩; have K6 := K5.out.below hb6; clear hb6))
  go_ret
  exact ⟨rfl, K6.d⟩
end Go.Proofs.Ytcnbaoijgfaljaa
