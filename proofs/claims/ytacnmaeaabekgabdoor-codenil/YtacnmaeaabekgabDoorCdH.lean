/- The walk of CodeNil over the seat's translation. -/
import Derived.Test.YtacnmaeaabekgabDoorCdE
import Derived.Test.YtacnmaeaabekgabDoorWvM
namespace Go.Proofs.YtacnmaeaabekgabDoor
open Go.RowKit

theorem long_nil : Ret 36 #[.pointer none] (.int .i64 0) := by
  intro W
  go_enter Tryd.func36, Tryd.ntmps36
  go_wp2
  go_ret
  exact ⟨rfl, by first | exact Below.refl _ _ | go_grown⟩
set_option maxHeartbeats 1000000 in
theorem dec_nil (v : Value) : Ret 16 #[.pointer none, v] (.tuple #[.slice none 0 0, .int .i64 1]) := by
  intro W
  have H1 := long_nil
  have H2 := hind_nil v 0
  go_enter Tryd.func16, Tryd.ntmps16
  go_wp2_with (first | (go_at_call 36; refine (H1.go _).mono ?_; rintro e w1 ⟨rfl, hb1⟩) | (go_at_call 32; refine (H2.go _).mono ?_; rintro e w2 ⟨rfl, hb2⟩))
  refine bodyPost_ret (v := .tuple #[.slice none 0 0, .int .i64 1]) (by simp [results, Tryd.results16, go_sem]) rfl ⟨rfl, ?_⟩
  exact hb1.trans (hb2.mono hb1.size)
set_option maxHeartbeats 1000000 in
theorem at_nil (v : Value) (j : Int) : Ret 13 #[.pointer none, v, .int .i64 j] (.tuple #[.agg #[.int .u64 0, .int .u64 0], .int .i64 1]) := by
  intro W
  have H1 := size_nil
  have H2 := hind_nil v 0
  go_enter Tryd.func13, Tryd.ntmps13
  go_wp2_with (first | (go_at_call 14; refine (H1.go _).mono ?_; rintro e w1 ⟨rfl, hb1⟩; have D1 : Below W.heap.size W w1 := ((Below.refl _ _).alloc (Nat.le_refl _) _).trans (hb1.mono (by simp)); have e1 : w1.cell? ⟨W.heap.size, 0, none⟩ = some (.int .u64 0) := keepc hb1 (by simp [go_sem]); have e0 : w1.cell? ⟨W.heap.size, 1, none⟩ = some (.int .u64 0) := keepc hb1 (by simp [go_sem]); have z1 : w1.frozen? ⟨W.heap.size, 0, none⟩ = false := keepf (v := .int .u64 0) hb1 (by simp [go_sem]) (by simp [go_sem]); have z0 : w1.frozen? ⟨W.heap.size, 1, none⟩ = false := keepf (v := .int .u64 0) hb1 (by simp [go_sem]) (by simp [go_sem])) | (go_at_call 32; refine (H2.go _).mono ?_; rintro e w2 ⟨rfl, hb2⟩; have f1 := keepc hb2 e1; have f0 := keepc hb2 e0; have g1 := keepf hb2 e1 z1; have g0 := keepf hb2 e0 z0))
  refine bodyPost_ret (v := .tuple #[.agg #[.int .u64 0, .int .u64 0], .int .i64 1]) (by simp [results, Tryd.results13, go_sem, *]) rfl ⟨rfl, ?_⟩
  have D2 := D1.trans (hb2.mono D1.size)
  first | exact D2 | exact (D2.setCell (Nat.le_refl _) _).setCell (Nat.le_refl _) _
set_option maxHeartbeats 1000000 in
theorem fillh_nil (u v : Value) : Ret 26 #[.pointer none, u, v] (.int .i64 1) := by
  intro W
  go_enter Tryd.func26, Tryd.ntmps26
  go_wp2
  go_ret
  exact ⟨rfl, by first | exact Below.refl _ _ | go_grown⟩
set_option maxHeartbeats 1000000 in
theorem fill_nil (u v : Value) : Ret 10 #[.pointer none, u, v] (.tuple #[.slice none 0 0, .int .i64 1]) := by
  intro W
  have H2 := fillh_nil u v
  go_enter Tryd.func10, Tryd.ntmps10
  go_wp2_with (first | (go_at_call 26; refine (H2.go _).mono ?_; rintro e w2 ⟨rfl, hb2⟩))
  refine bodyPost_ret (v := .tuple #[.slice none 0 0, .int .i64 1]) (by simp [results, Tryd.results10, go_sem]) rfl ⟨rfl, ?_⟩
  exact hb2
set_option maxHeartbeats 1000000 in
theorem cn_any (a : Option Addr) (len cap : Nat) (j : Int) (W : World) (hT : Tab W) : Calls Tryd.prog 4 #[.slice a len cap, .int .i64 j] W fun e w' => e = .returned (.bool true) ∧ Below W.heap.size W w' := by
  have H1 := enc_nil (.slice a len cap)
  have H2 := dec_nil (.slice a len cap)
  have H3 := at_nil (.slice a len cap) j
  have H4 : Hid (∀ u, Ret 10 #[.pointer none, u, .slice a len cap] (.tuple #[.slice none 0 0, .int .i64 1])) := fun u => fill_nil u _
  have HT : Hid (Tab W) := hT
  clear hT
  go_enter Tryd.func4, Tryd.ntmps4
  go_wp2_with (first | (go_at_call 15; refine (H1.go _).mono ?_; rintro e w1 ⟨rfl, hb1⟩) | (go_at_call 16; refine (H2.go _).mono ?_; rintro e w2 ⟨rfl, hb2⟩) | (go_at_call 13; refine (H3.go _).mono ?_; rintro e w3 ⟨rfl, hb3⟩; have D3 : Below W.heap.size W w3 := (hb1.trans (hb2.mono hb1.size)).trans (hb3.mono (Nat.le_trans hb1.size hb2.size))) | (go_at_call 10; refine ((H4.out _).go _).mono ?_; rintro e w4 ⟨rfl, hb4⟩; have D4 : Below W.heap.size W w4 := ((D3.alloc D3.size _).alloc (by have := D3.size; simp; omega) _).trans (hb4.mono (by have := D3.size; simp; omega))) | (go_at_call 9; refine (awake8 _ (HT.out.below D4)).mono ?_; rintro e w5 ⟨rfl, hb5⟩))
  go_ret
  exact ⟨rfl, D4.trans (hb5.mono D4.size)⟩
end Go.Proofs.YtacnmaeaabekgabDoor
