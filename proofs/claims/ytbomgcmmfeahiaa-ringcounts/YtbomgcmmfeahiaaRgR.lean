/- RingCounts over the seat's translation: levels 1 and 2. -/
import Derived.Test.YtbomgcmmfeahiaaRgH
import Derived.Test.YtbomgcmmfeahiaaRgQ
import Derived.Test.YtbomgcmmfeahiaaSmB
namespace Go.Proofs.Ytbomgcmmfeahiaa
open Go.RowKit
open Cb
open Rg
open Tw (pm)

theorem own_new1 (w : World) (x : Nat × Nat) (T : TypeId) (base : Nat) (hb : base ≤ w.heap.size) : (w.alloc (Obj.cells #[.int .u64 (x.1 : Int), .int .u64 (x.2 : Int)] T)).ownsRow base T 2 (.slice (some ⟨w.heap.size, 0, none⟩) 1 1) 1 (flat [x]) :=
  ⟨by simp [flat], .inr ⟨w.heap.size, 1, #[.int .u64 (x.1 : Int), .int .u64 (x.2 : Int)], rfl, hb, heap_alloc_new w _, Nat.le_refl _, by decide, rfl, by simp [flat]⟩⟩
theorem of_lo (k i : Nat) (hk : k < 8) (hi : i < 2 ^ 2 ^ k) : ofE k (0, i) := by
  show ofB _ _ _ = true
  rw [ofB_iff _ _ _ hk]
  exact .inr ⟨rfl, hi⟩
theorem b2_le (p : Bool) : b2 p ≤ 1 := by unfold b2; split <;> decide
theorem ns_b2 (f : Nat → Bool) : ∀ n, (ns n fun i => b2 (f i)) ≤ n
  | 0 => Nat.le_refl _
  | n + 1 => by simp only [ns]; have := ns_b2 f n; have := b2_le (f n); omega
set_option maxHeartbeats 4000000 in
theorem rc_lev (l : Int) (h : l < 1 ∨ 2 < l) (a a2 a3 aq : Option Addr) (n n2 n3 nq c c2 c3 cq : Nat) : Ret 7 #[.int .i64 l, .agg #[.slice a n c, .slice a2 n2 c2, .slice a3 n3 c3], .slice aq nq cq] (.bool true) := by
  intro W
  have AW := hidT awake23
  by_cases h1 : l < 1
  · clear h
    go_enter Try.func7, Try.ntmps7
    go_wp2_with (go_at_call 9; refine (AW.out.go _).mono ?_; rintro e w9 ⟨rfl, hb9⟩)
    go_ret
    exact ⟨rfl, Below.trans (by go_grown) (hb9.mono (by simp))⟩
  · have h2 : 2 < l := by omega
    clear h
    go_enter Try.func7, Try.ntmps7
    go_wp2_with (go_at_call 9; refine (AW.out.go _).mono ?_; rintro e w9 ⟨rfl, hb9⟩)
    go_ret
    exact ⟨rfl, Below.trans (by go_grown) (hb9.mono (by simp))⟩
set_option maxHeartbeats 4000000 in
theorem rcg1 (a a2 a3 aq : Option Addr) (c c2 c3 cq : Nat) (bs : List Bool) (lo hi qs : List (Nat × Nat)) (lq : ltE qs) (h : ¬ (bs.length ≤ 32 ∧ hi.length ≤ 6 ∧ qs.length = 2 ∧ ofT 1 qs)) (W : World) (rq : ERow W aq qs) :
    Calls Try.prog 7 #[.int .i64 1, .agg #[.slice a bs.length c, .slice a2 lo.length c2, .slice a3 hi.length c3], .slice aq qs.length cq] W fun e w' => e = .returned (.bool true) ∧ Below W.heap.size W w' := by
  have AW := hidT awake23
  by_cases h1 : bs.length ≤ 32
  · have h1' : ¬ 32 < (bs.length : Int) := by omega
    by_cases h2 : hi.length ≤ 6
    · have h2' : ¬ 6 < (hi.length : Int) := by omega
      by_cases h3 : qs.length = 2
      · have HR := hidT (fun w (hb : Below W.heap.size W w) => ref_row aq cq qs (by omega) w (rq.below hb))
        have HA := hidT (fun (w : World) (g : Option Addr) (cp : Nat) (h : ERow w g qs) => rall15 1 g cp qs lq w h (by omega))
        rw [show (qs.all fun e => ofB 1 (e.1 : Int) (e.2 : Int)) = false from by
          rw [Bool.eq_false_iff]
          exact fun h4 => h ⟨h1, h2, h3, all_of.1 h4⟩] at HA
        clear h lq rq h1 h2
        generalize bs.length = nb at *
        generalize lo.length = nl at *
        generalize hi.length = nh at *
        rw [h3] at HR HA ⊢
        clear h3
        go_enter Try.func7, Try.ntmps7
        go_wp2_with (first | (go_at_call 9; refine (AW.out.go _).mono ?_; rintro e w9 ⟨rfl, hb9⟩) | (go_at_call 10; refine (HR.out _ (by go_grown)).mono ?_; rintro e w1 ⟨g1, c1, rfl, hr1, hb1⟩; have K1 : Hid (ERow w1 g1 qs ∧ Below W.heap.size W w1) := ⟨hr1, Below.trans (by go_grown) (hb1.mono (by simp; omega))⟩; clear hr1 hb1) | (go_at_call 17; refine (HA.out _ _ _ K1.out.1).mono ?_; rintro e w2 ⟨rfl, hb2⟩; have K2 : Hid (Below W.heap.size W w2) := K1.out.2.trans (hb2.mono K1.out.2.size); clear hb2 K1))
        go_ret
        exact ⟨rfl, K2.out.trans (hb9.mono K2.out.size)⟩
      · have h3' : ¬ (qs.length : Int) = 2 := by omega
        clear h lq rq h1 h2 h3
        generalize bs.length = nb at *
        generalize lo.length = nl at *
        generalize hi.length = nh at *
        generalize qs.length = nq at *
        go_enter Try.func7, Try.ntmps7
        go_wp2_with (go_at_call 9; refine (AW.out.go _).mono ?_; rintro e w9 ⟨rfl, hb9⟩)
        go_ret
        exact ⟨rfl, Below.trans (by go_grown) (hb9.mono (by simp; omega))⟩
    · have h2' : 6 < (hi.length : Int) := by omega
      clear h lq rq h1 h2
      generalize bs.length = nb at *
      generalize lo.length = nl at *
      generalize hi.length = nh at *
      generalize qs.length = nq at *
      go_enter Try.func7, Try.ntmps7
      go_wp2_with (go_at_call 9; refine (AW.out.go _).mono ?_; rintro e w9 ⟨rfl, hb9⟩)
      go_ret
      exact ⟨rfl, Below.trans (by go_grown) (hb9.mono (by simp))⟩
  · have h1' : 32 < (bs.length : Int) := by omega
    clear h lq rq h1
    generalize bs.length = nb at *
    generalize lo.length = nl at *
    generalize hi.length = nh at *
    generalize qs.length = nq at *
    go_enter Try.func7, Try.ntmps7
    go_wp2_with (go_at_call 9; refine (AW.out.go _).mono ?_; rintro e w9 ⟨rfl, hb9⟩)
    go_ret
    exact ⟨rfl, Below.trans (by go_grown) (hb9.mono (by simp))⟩
set_option maxHeartbeats 4000000 in
theorem rcg2 (a a2 a3 aq : Option Addr) (c c2 c3 cq : Nat) (bs : List Bool) (lo hi qs : List (Nat × Nat)) (lq : ltE qs) (h : ¬ (bs.length ≤ 32 ∧ hi.length ≤ 6 ∧ qs.length = 4 ∧ ofT 2 qs)) (W : World) (rq : ERow W aq qs) :
    Calls Try.prog 7 #[.int .i64 2, .agg #[.slice a bs.length c, .slice a2 lo.length c2, .slice a3 hi.length c3], .slice aq qs.length cq] W fun e w' => e = .returned (.bool true) ∧ Below W.heap.size W w' := by
  have AW := hidT awake23
  by_cases h1 : bs.length ≤ 32
  · have h1' : ¬ 32 < (bs.length : Int) := by omega
    by_cases h2 : hi.length ≤ 6
    · have h2' : ¬ 6 < (hi.length : Int) := by omega
      by_cases h3 : qs.length = 4
      · have HR := hidT (fun w (hb : Below W.heap.size W w) => ref_row aq cq qs (by omega) w (rq.below hb))
        have HA := hidT (fun (w : World) (g : Option Addr) (cp : Nat) (h : ERow w g qs) => rall15 2 g cp qs lq w h (by omega))
        rw [show (qs.all fun e => ofB 2 (e.1 : Int) (e.2 : Int)) = false from by
          rw [Bool.eq_false_iff]
          exact fun h4 => h ⟨h1, h2, h3, all_of.1 h4⟩] at HA
        clear h lq rq h1 h2
        generalize bs.length = nb at *
        generalize lo.length = nl at *
        generalize hi.length = nh at *
        rw [h3] at HR HA ⊢
        clear h3
        go_enter Try.func7, Try.ntmps7
        go_wp2_with (first | (go_at_call 9; refine (AW.out.go _).mono ?_; rintro e w9 ⟨rfl, hb9⟩) | (go_at_call 10; refine (HR.out _ (by go_grown)).mono ?_; rintro e w1 ⟨g1, c1, rfl, hr1, hb1⟩; have K1 : Hid (ERow w1 g1 qs ∧ Below W.heap.size W w1) := ⟨hr1, Below.trans (by go_grown) (hb1.mono (by simp; omega))⟩; clear hr1 hb1) | (go_at_call 17; refine (HA.out _ _ _ K1.out.1).mono ?_; rintro e w2 ⟨rfl, hb2⟩; have K2 : Hid (Below W.heap.size W w2) := K1.out.2.trans (hb2.mono K1.out.2.size); clear hb2 K1))
        go_ret
        exact ⟨rfl, K2.out.trans (hb9.mono K2.out.size)⟩
      · have h3' : ¬ (qs.length : Int) = 4 := by omega
        clear h lq rq h1 h2 h3
        generalize bs.length = nb at *
        generalize lo.length = nl at *
        generalize hi.length = nh at *
        generalize qs.length = nq at *
        go_enter Try.func7, Try.ntmps7
        go_wp2_with (go_at_call 9; refine (AW.out.go _).mono ?_; rintro e w9 ⟨rfl, hb9⟩)
        go_ret
        exact ⟨rfl, Below.trans (by go_grown) (hb9.mono (by simp; omega))⟩
    · have h2' : 6 < (hi.length : Int) := by omega
      clear h lq rq h1 h2
      generalize bs.length = nb at *
      generalize lo.length = nl at *
      generalize hi.length = nh at *
      generalize qs.length = nq at *
      go_enter Try.func7, Try.ntmps7
      go_wp2_with (go_at_call 9; refine (AW.out.go _).mono ?_; rintro e w9 ⟨rfl, hb9⟩)
      go_ret
      exact ⟨rfl, Below.trans (by go_grown) (hb9.mono (by simp))⟩
  · have h1' : 32 < (bs.length : Int) := by omega
    clear h lq rq h1
    generalize bs.length = nb at *
    generalize lo.length = nl at *
    generalize hi.length = nh at *
    generalize qs.length = nq at *
    go_enter Try.func7, Try.ntmps7
    go_wp2_with (go_at_call 9; refine (AW.out.go _).mono ?_; rintro e w9 ⟨rfl, hb9⟩)
    go_ret
    exact ⟨rfl, Below.trans (by go_grown) (hb9.mono (by simp))⟩
end Go.Proofs.Ytbomgcmmfeahiaa
