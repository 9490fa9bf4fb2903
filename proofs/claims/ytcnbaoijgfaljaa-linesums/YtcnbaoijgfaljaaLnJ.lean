/- The walk of LineSums over the seat's translation: any input. -/
import Derived.Test.YtcnbaoijgfaljaaLnI
namespace Go.Proofs.Ytcnbaoijgfaljaa
open Go.RowKit
open Cb Ln
open Tw (pm)

set_option maxHeartbeats 8000000 in
set_option maxRecDepth 100000 in
theorem ls_any (l : Int) (a0 a1 : Option Addr) (c0 c1 : Nat) (ts ss : List (Nat × Nat)) (r p : Nat × Nat) (hr : lt2 r) (hp : lt2 p) (ht : ltE ts) (hs : ltE ss) (W : World) (hT : ERow W a0 ts) (hS : ERow W a1 ss) :
    Calls Try.prog 7 #[.int .i64 l, .agg #[.slice a0 ts.length c0, .slice a1 ss.length c1], .agg #[.int .u64 (r.1 : Int), .int .u64 (r.2 : Int), .int .u64 (p.1 : Int), .int .u64 (p.2 : Int)]] W fun e w' => e = .returned (.bool true) ∧ Below W.heap.size W w' := by
  have AW : Hid (Ret 9 #[] (.bool true)) := awake17
  have K0 : Hid (Sv W _ _ _ _ _) := Sv.start W a0 a1 ts.length ss.length c0 c1 r p
  by_cases h9 : (9 : Int) < (ts.length : Int)
  · obtain ⟨t0, t1, r1, r0, p1, p0, _⟩ := K0.out
    clear ht hs hT hS
    go_enter Try.func7, Try.ntmps7
    go_wp2_with (go_at_call 9; refine (AW.out.go _).mono ?_; rintro e w9 ⟨rfl, hb9⟩)
    go_ret
    exact ⟨rfl, K0.out.d.trans (hb9.mono K0.out.d.size)⟩
  by_cases hl : ss.length = ts.length
  · rw [hl] at K0 ⊢
    have HM : Hid (∀ w, Below W.heap.size W w → Calls Try.prog 11 #[.int .i64 l, .slice a0 ts.length c0] w fun e w' => e = .returned (.int .i64 (lmy l ts)) ∧ Below w.heap.size w w') := fun w hb => lmay l a0 c0 ts ht (by omega) w (hT.below hb)
    have HM2 : Hid (∀ w, Below W.heap.size W w → Calls Try.prog 11 #[.int .i64 l, .slice a1 ts.length c1] w fun e w' => e = .returned (.int .i64 (lmy l ss)) ∧ Below w.heap.size w w') := fun w hb => by
      have := lmay l a1 c1 ss hs (by omega) w (hS.below hb)
      rw [hl] at this
      exact this
    have HO1 : Hid (Ret 12 #[.int .i64 l, .agg #[.int .u64 (r.1 : Int), .int .u64 (r.2 : Int)]] (.bool (ofB l (r.1 : Int) (r.2 : Int)))) := rof_any l r.1 r.2 hr.1 hr.2
    have HO2 : Hid (Ret 12 #[.int .i64 l, .agg #[.int .u64 (p.1 : Int), .int .u64 (p.2 : Int)]] (.bool (ofB l (p.1 : Int) (p.2 : Int)))) := rof_any l p.1 p.2 hp.1 hp.2
    by_cases hE : lmy l ts = 0
    · by_cases hE2 : lmy l ss = 0
      · by_cases h1 : ofB l (r.1 : Int) (r.2 : Int) = true
        · by_cases h2 : ofB l (p.1 : Int) (p.2 : Int) = true
          · obtain ⟨k, hk, rfl, h0, _, _, _, _⟩ := lmy_zero hE
            exact ls_ok k hk a0 a1 c0 c1 ts ss r p hr h1 hp h2 ht hs h0 (by omega) hl hE hE2 W hT hS
          · rw [Bool.not_eq_true] at h2
            rw [h1] at HO1
            rw [h2] at HO2
            rw [hE] at HM
            rw [hE2] at HM2
            clear ht hs hT hS hE hE2 h1 h2 hl hr hp
            obtain ⟨t0, t1, r1, r0, p1, p0, _⟩ := K0.out
            go_enter Try.func7, Try.ntmps7
            go_wp2_with (first | (go_at_call_of 11 (#[.int .i64 l, .slice a0 ts.length c0] : Array Value); refine (HM.out _ K0.out.d).mono ?_; rintro e w1 ⟨rfl, hb1⟩; have K1 : Hid (Sv W w1 (.slice a0 ts.length c0) (.slice a1 ts.length c1) r p) := K0.out.below hb1; clear hb1 HM K0 t0 t1 r1 r0 p1 p0; obtain ⟨t0, t1, r1, r0, p1, p0, _⟩ := K1.out) | (go_at_call 11; refine (HM2.out _ K1.out.d).mono ?_; rintro e w2 ⟨rfl, hb2⟩; have K2 : Hid (Sv W w2 (.slice a0 ts.length c0) (.slice a1 ts.length c1) r p) := K1.out.below hb2; clear hb2 HM2 K1 t0 t1 r1 r0 p1 p0; obtain ⟨t0, t1, r1, r0, p1, p0, _⟩ := K2.out) | (go_at_call_of 12 (#[.int .i64 l, .agg #[.int .u64 (r.1 : Int), .int .u64 (r.2 : Int)]] : Array Value); refine (HO1.out.go _).mono ?_; rintro e w3 ⟨rfl, hb3⟩; have K3 : Hid (Sv W w3 (.slice a0 ts.length c0) (.slice a1 ts.length c1) r p) := K2.out.below hb3; clear hb3 HO1 K2 t0 t1 r1 r0 p1 p0; obtain ⟨t0, t1, r1, r0, p1, p0, _⟩ := K3.out) | (go_at_call 12; refine (HO2.out.go _).mono ?_; rintro e w4 ⟨rfl, hb4⟩; have K4 : Hid (Sv W w4 (.slice a0 ts.length c0) (.slice a1 ts.length c1) r p) := K3.out.below hb4; clear hb4 HO2 K3 t0 t1 r1 r0 p1 p0; obtain ⟨t0, t1, r1, r0, p1, p0, _⟩ := K4.out) | (go_at_call 9; refine (AW.out.go _).mono ?_; rintro e w9 ⟨rfl, hb9⟩))
            go_ret
            exact ⟨rfl, K4.out.d.trans (hb9.mono K4.out.d.size)⟩
        · rw [Bool.not_eq_true] at h1
          rw [h1] at HO1
          rw [hE] at HM
          rw [hE2] at HM2
          clear ht hs hT hS hE hE2 h1 hl HO2 hr hp
          obtain ⟨t0, t1, r1, r0, p1, p0, _⟩ := K0.out
          go_enter Try.func7, Try.ntmps7
          go_wp2_with (first | (go_at_call_of 11 (#[.int .i64 l, .slice a0 ts.length c0] : Array Value); refine (HM.out _ K0.out.d).mono ?_; rintro e w1 ⟨rfl, hb1⟩; have K1 : Hid (Sv W w1 (.slice a0 ts.length c0) (.slice a1 ts.length c1) r p) := K0.out.below hb1; clear hb1 HM K0 t0 t1 r1 r0 p1 p0; obtain ⟨t0, t1, r1, r0, p1, p0, _⟩ := K1.out) | (go_at_call 11; refine (HM2.out _ K1.out.d).mono ?_; rintro e w2 ⟨rfl, hb2⟩; have K2 : Hid (Sv W w2 (.slice a0 ts.length c0) (.slice a1 ts.length c1) r p) := K1.out.below hb2; clear hb2 HM2 K1 t0 t1 r1 r0 p1 p0; obtain ⟨t0, t1, r1, r0, p1, p0, _⟩ := K2.out) | (go_at_call 12; refine (HO1.out.go _).mono ?_; rintro e w3 ⟨rfl, hb3⟩; have K3 : Hid (Sv W w3 (.slice a0 ts.length c0) (.slice a1 ts.length c1) r p) := K2.out.below hb3; clear hb3 HO1 K2 t0 t1 r1 r0 p1 p0; obtain ⟨t0, t1, r1, r0, p1, p0, _⟩ := K3.out) | (go_at_call 9; refine (AW.out.go _).mono ?_; rintro e w9 ⟨rfl, hb9⟩))
          go_ret
          exact ⟨rfl, K3.out.d.trans (hb9.mono K3.out.d.size)⟩
      · have hE' : (lmy l ss != 0) = true := by simp [hE2]
        rw [hE] at HM
        clear ht hs hT hS hE hE2 hl HO1 HO2 hr hp
        generalize lmy l ss = E at *
        obtain ⟨t0, t1, r1, r0, p1, p0, _⟩ := K0.out
        go_enter Try.func7, Try.ntmps7
        go_wp2_with (first | (go_at_call_of 11 (#[.int .i64 l, .slice a0 ts.length c0] : Array Value); refine (HM.out _ K0.out.d).mono ?_; rintro e w1 ⟨rfl, hb1⟩; have K1 : Hid (Sv W w1 (.slice a0 ts.length c0) (.slice a1 ts.length c1) r p) := K0.out.below hb1; clear hb1 HM K0 t0 t1 r1 r0 p1 p0; obtain ⟨t0, t1, r1, r0, p1, p0, _⟩ := K1.out) | (go_at_call 11; refine (HM2.out _ K1.out.d).mono ?_; rintro e w2 ⟨rfl, hb2⟩; have K2 : Hid (Sv W w2 (.slice a0 ts.length c0) (.slice a1 ts.length c1) r p) := K1.out.below hb2; clear hb2 HM2 K1 t0 t1 r1 r0 p1 p0; obtain ⟨t0, t1, r1, r0, p1, p0, _⟩ := K2.out) | (go_at_call 9; refine (AW.out.go _).mono ?_; rintro e w9 ⟨rfl, hb9⟩))
        go_ret
        exact ⟨rfl, K2.out.d.trans (hb9.mono K2.out.d.size)⟩
    · have hE' : (lmy l ts != 0) = true := by simp [hE]
      clear ht hs hT hS hE hl HM2 HO1 HO2 hr hp
      generalize lmy l ts = E at *
      obtain ⟨t0, t1, r1, r0, p1, p0, _⟩ := K0.out
      go_enter Try.func7, Try.ntmps7
      go_wp2_with (first | (go_at_call_of 11 (#[.int .i64 l, .slice a0 ts.length c0] : Array Value); refine (HM.out _ K0.out.d).mono ?_; rintro e w1 ⟨rfl, hb1⟩; have K1 : Hid (Sv W w1 (.slice a0 ts.length c0) (.slice a1 ts.length c1) r p) := K0.out.below hb1; clear hb1 HM K0 t0 t1 r1 r0 p1 p0; obtain ⟨t0, t1, r1, r0, p1, p0, _⟩ := K1.out) | (go_at_call 9; refine (AW.out.go _).mono ?_; rintro e w9 ⟨rfl, hb9⟩))
      go_ret
      exact ⟨rfl, K1.out.d.trans (hb9.mono K1.out.d.size)⟩
  · have hl' : ((ts.length : Int) != (ss.length : Int)) = true := by rw [bne_iff_ne]; omega
    clear ht hs hT hS
    obtain ⟨t0, t1, r1, r0, p1, p0, _⟩ := K0.out
    go_enter Try.func7, Try.ntmps7
    go_wp2_with (go_at_call 9; refine (AW.out.go _).mono ?_; rintro e w9 ⟨rfl, hb9⟩)
    go_ret
    exact ⟨rfl, K0.out.d.trans (hb9.mono K0.out.d.size)⟩
end Go.Proofs.Ytcnbaoijgfaljaa
