/- Contracts of cube.First and cube.Last over the seat's translation. -/
import Derived.Test.YtcnbaoijgfaljaaCbF
namespace Go.Proofs.Ytcnbaoijgfaljaa
open Go.RowKit
open Cb
open Tw (pm)

set_option maxHeartbeats 1000000 in
theorem cfi_err (l : Int) (a c : Option Addr) (cap cap2 : Nat) (t p : List (Nat × Nat)) (ht : ltE t) (hp : ltE p) (h1 : t.length ≤ 1000) (h2 : p.length ≤ 1000) (E : Int) (hE : fiE l t p = E) (h0 : ¬ E = 0) (W : World) (ha : ERow W a t) (hc : ERow W c p) :
    Calls Try.prog 27 #[.int .i64 l, .slice a t.length cap, .slice c p.length cap2] W fun e w' => e = .returned (.tuple #[.slice none 0 0, .int .i64 E]) ∧ Below W.heap.size W w' := by
  have HL : Hid (Ret 47 #[.int .i64 (t.length : Int)] (.int .i64 (lgz t.length))) := clog_any t.length (by omega)
  have HH : Hid (∀ w, Below W.heap.size W w → Calls Try.prog 48 #[.int .i64 l, .bool (decide ((p.length : Int) ≤ lgz t.length)), .slice a t.length cap, .slice c p.length cap2] w fun e w' => e = .returned (.int .i64 E) ∧ Below w.heap.size w w') := fun w hb => by
    rw [← hE]; exact hind_any l _ a c cap cap2 t p ht hp (by omega) (by omega) w (ha.below hb) (hc.below hb)
  clear hE ha hc ht hp h1 h2
  generalize lgz t.length = g at *
  go_enter Try.func27, Try.ntmps27
  go_wp2_with (first | (go_at_call 47; refine (HL.out.go _).mono ?_; rintro e w1 ⟨rfl, hb1⟩) | (go_at_call 48; refine (HH.out _ hb1).mono ?_; rintro e w2 ⟨rfl, hb2⟩))
  refine bodyPost_ret (v := .tuple #[.slice none 0 0, .int .i64 E]) (by simp [results, Try.results27, go_sem]) rfl ⟨rfl, ?_⟩
  exact hb1.trans (hb2.mono hb1.size)
set_option maxHeartbeats 1000000 in
theorem cfi_ok (k : Nat) (hk : k < 8) (a c : Option Addr) (cap cap2 m : Nat) (t p : List (Nat × Nat)) (ht : ltE t) (hp : ltE p) (h1 : t.length ≤ 1000) (h2 : p.length + m ≤ 16) (hl : t.length = 2 ^ (p.length + m)) (ot : ofT k t) (op : ofT k p) (W : World) (ha : ERow W a t) (hc : ERow W c p) :
    Calls Try.prog 27 #[.int .i64 (k : Int), .slice a t.length cap, .slice c p.length cap2] W fun e w' => ∃ a' cap', e = .returned (.tuple #[.slice a' (2 ^ m) cap', .int .i64 0]) ∧ ERow w' a' (firsts t p) ∧ Below W.heap.size W w' := by
  have hg : lgz t.length = ((p.length + m : Nat) : Int) := by rw [hl, lgz_two _ h2]
  have HL : Hid (Ret 47 #[.int .i64 (t.length : Int)] (.int .i64 ((p.length + m : Nat) : Int))) := by
    have := clog_any t.length (by omega)
    rw [hg] at this
    exact this
  have HH : Hid (∀ w, Below W.heap.size W w → Calls Try.prog 48 #[.int .i64 (k : Int), .bool true, .slice a t.length cap, .slice c p.length cap2] w fun e w' => e = .returned (.int .i64 0) ∧ Below w.heap.size w w') := fun w hb => by
    have := hind_any (k : Int) true a c cap cap2 t p ht hp (by omega) (by omega) w (ha.below hb) (hc.below hb)
    rw [hnd_mk ⟨by omega, by omega⟩ rfl (all_of.2 ot) (all_of.2 op)] at this
    exact this
  have HF : Hid (∀ w, Below W.heap.size W w → Calls Try.prog 49 #[.int .i64 (k : Int), .slice a t.length cap, .slice c p.length cap2] w fun e w' => ∃ a' cap', e = .returned (.slice a' (2 ^ m) cap') ∧ ERow w' a' (firsts t p) ∧ Below w.heap.size w w') := fun w hb => first_ok k hk a c cap cap2 m t p hl h1 ht hp ot op w (ha.below hb) (hc.below hb)
  have hle : (p.length : Int) ≤ ((p.length + m : Nat) : Int) := by omega
  clear ha hc ht hp h1 h2 hg ot op hl
  generalize p.length + m = q at *
  generalize 2 ^ m = M at *
  go_enter Try.func27, Try.ntmps27
  go_wp2_with (first | (go_at_call 47; refine (HL.out.go _).mono ?_; rintro e w1 ⟨rfl, hb1⟩) | (go_at_call 48; refine (HH.out _ hb1).mono ?_; rintro e w2 ⟨rfl, hb2⟩; have hb := hb1.trans (hb2.mono hb1.size)) | (go_at_call 49; refine (HF.out _ hb).mono ?_; rintro e w3 ⟨a', cap', rfl, hE, hb3⟩))
  refine bodyPost_ret (v := .tuple #[.slice a' M cap', .int .i64 0]) (by simp [results, Try.results27, go_sem]) rfl ⟨a', cap', rfl, hE, ?_⟩
  exact hb.trans (hb3.mono hb.size)
set_option maxHeartbeats 1000000 in
theorem cla_err (l : Int) (a c : Option Addr) (cap cap2 : Nat) (t p : List (Nat × Nat)) (ht : ltE t) (hp : ltE p) (h1 : t.length ≤ 1000) (h2 : p.length ≤ 1000) (E : Int) (hE : fiE l t p = E) (h0 : ¬ E = 0) (W : World) (ha : ERow W a t) (hc : ERow W c p) :
    Calls Try.prog 28 #[.int .i64 l, .slice a t.length cap, .slice c p.length cap2] W fun e w' => e = .returned (.tuple #[.slice none 0 0, .int .i64 E]) ∧ Below W.heap.size W w' := by
  have HL : Hid (Ret 47 #[.int .i64 (t.length : Int)] (.int .i64 (lgz t.length))) := clog_any t.length (by omega)
  have HH : Hid (∀ w, Below W.heap.size W w → Calls Try.prog 48 #[.int .i64 l, .bool (decide ((p.length : Int) ≤ lgz t.length)), .slice a t.length cap, .slice c p.length cap2] w fun e w' => e = .returned (.int .i64 E) ∧ Below w.heap.size w w') := fun w hb => by
    rw [← hE]; exact hind_any l _ a c cap cap2 t p ht hp (by omega) (by omega) w (ha.below hb) (hc.below hb)
  clear hE ha hc ht hp h1 h2
  generalize lgz t.length = g at *
  go_enter Try.func28, Try.ntmps28
  go_wp2_with (first | (go_at_call 47; refine (HL.out.go _).mono ?_; rintro e w1 ⟨rfl, hb1⟩) | (go_at_call 48; refine (HH.out _ hb1).mono ?_; rintro e w2 ⟨rfl, hb2⟩))
  refine bodyPost_ret (v := .tuple #[.slice none 0 0, .int .i64 E]) (by simp [results, Try.results28, go_sem]) rfl ⟨rfl, ?_⟩
  exact hb1.trans (hb2.mono hb1.size)
set_option maxHeartbeats 1000000 in
theorem cla_ok (k : Nat) (hk : k < 8) (a c : Option Addr) (cap cap2 m : Nat) (t p : List (Nat × Nat)) (ht : ltE t) (hp : ltE p) (h1 : t.length ≤ 1000) (h2 : p.length + m ≤ 16) (hl : t.length = 2 ^ (p.length + m)) (ot : ofT k t) (op : ofT k p) (W : World) (ha : ERow W a t) (hc : ERow W c p) :
    Calls Try.prog 28 #[.int .i64 (k : Int), .slice a t.length cap, .slice c p.length cap2] W fun e w' => ∃ a' cap', e = .returned (.tuple #[.slice a' (2 ^ m) cap', .int .i64 0]) ∧ ERow w' a' (lasts t p) ∧ Below W.heap.size W w' := by
  have hg : lgz t.length = ((p.length + m : Nat) : Int) := by rw [hl, lgz_two _ h2]
  have HL : Hid (Ret 47 #[.int .i64 (t.length : Int)] (.int .i64 ((p.length + m : Nat) : Int))) := by
    have := clog_any t.length (by omega)
    rw [hg] at this
    exact this
  have HH : Hid (∀ w, Below W.heap.size W w → Calls Try.prog 48 #[.int .i64 (k : Int), .bool true, .slice a t.length cap, .slice c p.length cap2] w fun e w' => e = .returned (.int .i64 0) ∧ Below w.heap.size w w') := fun w hb => by
    have := hind_any (k : Int) true a c cap cap2 t p ht hp (by omega) (by omega) w (ha.below hb) (hc.below hb)
    rw [hnd_mk ⟨by omega, by omega⟩ rfl (all_of.2 ot) (all_of.2 op)] at this
    exact this
  have HF : Hid (∀ w, Below W.heap.size W w → Calls Try.prog 50 #[.int .i64 (k : Int), .slice a t.length cap, .slice c p.length cap2] w fun e w' => ∃ a' cap', e = .returned (.slice a' (2 ^ m) cap') ∧ ERow w' a' (lasts t p) ∧ Below w.heap.size w w') := fun w hb => last_ok k hk a c cap cap2 m t p hl h1 ht hp ot op w (ha.below hb) (hc.below hb)
  have hle : (p.length : Int) ≤ ((p.length + m : Nat) : Int) := by omega
  clear ha hc ht hp h1 h2 hg ot op hl
  generalize p.length + m = q at *
  generalize 2 ^ m = M at *
  go_enter Try.func28, Try.ntmps28
  go_wp2_with (first | (go_at_call 47; refine (HL.out.go _).mono ?_; rintro e w1 ⟨rfl, hb1⟩) | (go_at_call 48; refine (HH.out _ hb1).mono ?_; rintro e w2 ⟨rfl, hb2⟩; have hb := hb1.trans (hb2.mono hb1.size)) | (go_at_call 50; refine (HF.out _ hb).mono ?_; rintro e w3 ⟨a', cap', rfl, hE, hb3⟩))
  refine bodyPost_ret (v := .tuple #[.slice a' M cap', .int .i64 0]) (by simp [results, Try.results28, go_sem]) rfl ⟨a', cap', rfl, hE, ?_⟩
  exact hb.trans (hb3.mono hb.size)
end Go.Proofs.Ytcnbaoijgfaljaa
