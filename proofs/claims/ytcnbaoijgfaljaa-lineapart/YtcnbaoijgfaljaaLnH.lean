/- The walk of LineApart over the seat's translation: any input. -/
import Derived.Test.YtcnbaoijgfaljaaLnG0
import Derived.Test.YtcnbaoijgfaljaaLnG1
import Derived.Test.YtcnbaoijgfaljaaLnG2
import Derived.Test.YtcnbaoijgfaljaaLnG3
namespace Go.Proofs.Ytcnbaoijgfaljaa
open Go.RowKit
open Cb Ln
open Tw (pm)

set_option maxHeartbeats 8000000 in
set_option maxRecDepth 100000 in
theorem la_any (l : Int) (a c : Option Addr) (cap cap2 : Nat) (t s : List (Nat × Nat)) (ht : ltE t) (hs : ltE s) (W : World) (ha : ERow W a t) (hc : ERow W c s) :
    Calls Try.prog 6 #[.int .i64 l, .slice a t.length cap, .slice c s.length cap2] W fun e w' => e = .returned (.bool true) ∧ Below W.heap.size W w' := by
  have AW : Hid (Ret 9 #[] (.bool true)) := awake17
  by_cases h3 : (3 : Int) < l
  · clear ht hs ha hc
    go_enter Try.func6, Try.ntmps6
    go_wp2_with (go_at_call 9; refine (AW.out.go _).mono ?_; rintro e w2 ⟨rfl, hb2⟩)
    go_ret
    exact ⟨rfl, hb2⟩
  by_cases h9 : (9 : Int) < (t.length : Int)
  · clear ht hs ha hc
    go_enter Try.func6, Try.ntmps6
    go_wp2_with (go_at_call 9; refine (AW.out.go _).mono ?_; rintro e w2 ⟨rfl, hb2⟩)
    go_ret
    exact ⟨rfl, hb2⟩
  by_cases hl : s.length = t.length
  · have HM : Hid (∀ w, Below W.heap.size W w → Calls Try.prog 11 #[.int .i64 l, .slice a t.length cap] w fun e w' => e = .returned (.int .i64 (lmy l t)) ∧ Below w.heap.size w w') := fun w hb => lmay l a cap t ht (by omega) w (ha.below hb)
    have HM2 : Hid (∀ w, Below W.heap.size W w → Calls Try.prog 11 #[.int .i64 l, .slice c t.length cap2] w fun e w' => e = .returned (.int .i64 (lmy l s)) ∧ Below w.heap.size w w') := fun w hb => by
      have := lmay l c cap2 s hs (by omega) w (hc.below hb)
      rw [hl] at this
      exact this
    by_cases hE : lmy l t = 0
    · by_cases hE2 : lmy l s = 0
      · obtain ⟨k, hk, e1, h0, _, _, _, _⟩ := lmy_zero hE
        rw [hl]
        obtain h | h | h | h : l = 0 ∨ l = 1 ∨ l = 2 ∨ l = 3 := by omega
        · exact la_ok0 l k 2 e1 ⟨h, rfl⟩ a c cap cap2 t s ht hs h0 (by omega) hl hE hE2 W ha hc
        · exact la_ok1 l k 4 e1 ⟨h, rfl⟩ a c cap cap2 t s ht hs h0 (by omega) hl hE hE2 W ha hc
        · exact la_ok2 l k 16 e1 ⟨h, rfl⟩ a c cap cap2 t s ht hs h0 (by omega) hl hE hE2 W ha hc
        · exact la_ok3 l k 256 e1 ⟨h, rfl⟩ a c cap cap2 t s ht hs h0 (by omega) hl hE hE2 W ha hc
      · have hE' : (lmy l s != 0) = true := by simp [hE2]
        rw [hE] at HM
        rw [hl]
        clear ht hs ha hc hE hE2 hl
        generalize lmy l s = E at *
        go_enter Try.func6, Try.ntmps6
        go_wp2_with (first | (go_at_call_of 11 (#[.int .i64 l, .slice a t.length cap] : Array Value); refine (HM.out _ (Below.refl _ _)).mono ?_; rintro e w1 ⟨rfl, hb1⟩; have K1 : Hid (Below W.heap.size W w1) := hb1; clear hb1 HM) | (go_at_call 11; refine (HM2.out _ K1.out).mono ?_; rintro e w2 ⟨rfl, hb2⟩; have K2 : Hid (Below W.heap.size W w2) := K1.out.trans (hb2.mono K1.out.size); clear hb2 HM2) | (go_at_call 9; refine (AW.out.go _).mono ?_; rintro e w3 ⟨rfl, hb3⟩))
        go_ret
        exact ⟨rfl, K2.out.trans (hb3.mono K2.out.size)⟩
    · have hE' : (lmy l t != 0) = true := by simp [hE]
      rw [hl]
      clear ht hs ha hc hE hl HM2
      generalize lmy l t = E at *
      go_enter Try.func6, Try.ntmps6
      go_wp2_with (first | (go_at_call 11; refine (HM.out _ (Below.refl _ _)).mono ?_; rintro e w1 ⟨rfl, hb1⟩) | (go_at_call 9; refine (AW.out.go _).mono ?_; rintro e w3 ⟨rfl, hb3⟩))
      go_ret
      exact ⟨rfl, hb1.trans (hb3.mono hb1.size)⟩
  · have hl' : ((t.length : Int) != (s.length : Int)) = true := by rw [bne_iff_ne]; omega
    clear ht hs ha hc
    go_enter Try.func6, Try.ntmps6
    go_wp2_with (go_at_call 9; refine (AW.out.go _).mono ?_; rintro e w2 ⟨rfl, hb2⟩)
    go_ret
    exact ⟨rfl, hb2⟩
end Go.Proofs.Ytcnbaoijgfaljaa
