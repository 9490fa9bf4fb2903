/- Contracts of tower.square, Add, Square over the seat's translation. -/
import Derived.Test.YtopmkooegpaeaaaGreatTwB
import Derived.Test.YtopmkooegpaeaaaGreatTwM
import Derived.Test.YtopmkooegpaeaaaGreatOctOf
import Derived.Deep.RegionWith
namespace Go.Proofs.YtopmkooegpaeaaaGreat
open Go.RowKit
open Tw (px)

theorem keepc {W w1 : World} (hb : Below W.heap.size W w1) {b o : Nat} {v : Value} (h : W.cell? ⟨b, o, none⟩ = some v) : w1.cell? ⟨b, o, none⟩ = some v := by
  have hl : b < W.heap.size := by
    rcases Nat.lt_or_ge b W.heap.size with h1 | h1
    · exact h1
    · simp [World.cell?, Array.getElem?_eq_none h1] at h
  rw [hb.cell (p := ⟨b, o, none⟩) hl]; exact h
theorem keepf {W w1 : World} (hb : Below W.heap.size W w1) {b o : Nat} {v : Value} (h : W.cell? ⟨b, o, none⟩ = some v) (hf : W.frozen? ⟨b, o, none⟩ = false) : w1.frozen? ⟨b, o, none⟩ = false := by
  have hl : b < W.heap.size := by
    rcases Nat.lt_or_ge b W.heap.size with h1 | h1
    · exact h1
    · simp [World.cell?, Array.getElem?_eq_none h1] at h
  rw [hb.frozen (p := ⟨b, o, none⟩) hl]; exact hf

set_option maxHeartbeats 400000 in
theorem square_core (ah al h l r1 r0 : Nat) (H1 : Hid (∀ W, Calls Tryz.prog 127 #[.int .u64 (ah : Int)] W fun e w' => e = .returned (.int .u64 (h : Nat)) ∧ w' = W)) (H0 : Hid (∀ W, Calls Tryz.prog 127 #[.int .u64 (al : Int)] W fun e w' => e = .returned (.int .u64 (l : Nat)) ∧ w' = W)) (HX : Hid (∀ W, Calls Tryz.prog 105 #[.int .u64 (h : Int)] W fun e w' => e = .returned (.int .u64 (r1 : Nat)) ∧ w' = W)) (f : bits .xor .u64 (h : Int) (l : Int) = (r0 : Int)) (W : World) :
    Calls Tryz.prog 102 #[.agg #[.int .u64 (ah : Int), .int .u64 (al : Int)]] W fun e w' => e = .returned (.agg #[.int .u64 (r1 : Nat), .int .u64 (r0 : Nat)]) ∧ Below W.heap.size W w' := by
  go_enter Tryz.func102, Tryz.ntmps102
  go_wp2_with fail
  go_quiet ((first | (go_at_call_of 127 (Value.int .u64 (ah : Int)); exact Calls.quiet_of_same (H1.out _)) | (go_at_call_of 127 (Value.int .u64 (al : Int)); exact Calls.quiet_of_same (H0.out _))))
  go_wp2_with (go_at_call 105; refine (HX.out _).mono ?_; rintro e w1 ⟨rfl, rfl⟩)
  refine bodyPost_ret (v := .agg #[.int .u64 (r1 : Nat), .int .u64 (r0 : Nat)]) (by simp [results, Tryz.results102, go_sem]) rfl ⟨rfl, ?_⟩
  exact ((below_drewN (((Below.refl _ _).alloc (Nat.le_refl _) _).alloc (by simp) _) nq).setCell (by simp) _).setCell (by simp) _
theorem pmh_self (ah al : Nat) : Tw.pmh ah al ah al = px 4294967296 (px ah ah) := by
  unfold Tw.pmh; rw [Tw.px_comm al ah, Nat.xor_self, Nat.zero_xor]
theorem square_any (ah al : Nat) (h1 : ah < 2 ^ 64) (h2 : al < 2 ^ 64) (W : World) :
    Calls Tryz.prog 102 #[.agg #[.int .u64 (ah : Int), .int .u64 (al : Int)]] W fun e w' => e = .returned (.agg #[.int .u64 (Tw.pmh ah al ah al : Nat), .int .u64 (Tw.pml ah al ah al : Nat)]) ∧ Below W.heap.size W w' := by
  rw [pmh_self]
  refine square_core ah al (px ah ah) (px al al) _ _ (squares_any ah h1) (squares_any al h2) (t6_any _ (Tw.px_lt _ _)) ?_ W
  rw [u64_xor_nat _ _ (Tw.px_lt _ _) (Tw.px_lt _ _), Nat.xor_comm]
  rfl

set_option maxHeartbeats 400000 in
theorem add_core (ah al bh bl r1 r0 : Nat) (f1 : bits .xor .u64 (ah : Int) (bh : Int) = (r1 : Int)) (f0 : bits .xor .u64 (al : Int) (bl : Int) = (r0 : Int)) (W : World) :
    Calls Tryz.prog 100 #[.agg #[.int .u64 (ah : Int), .int .u64 (al : Int)], .agg #[.int .u64 (bh : Int), .int .u64 (bl : Int)]] W fun e w' => e = .returned (.agg #[.int .u64 (r1 : Nat), .int .u64 (r0 : Nat)]) ∧ Below W.heap.size W w' := by
  go_enter Tryz.func100, Tryz.ntmps100
  go_wp2
  refine bodyPost_ret (v := .agg #[.int .u64 (r1 : Nat), .int .u64 (r0 : Nat)]) (by simp [results, Tryz.results100, go_sem]) rfl ⟨rfl, ?_⟩
  go_grown
theorem add_any (ah al bh bl : Nat) (h1 : ah < 2 ^ 64) (h2 : al < 2 ^ 64) (h3 : bh < 2 ^ 64) (h4 : bl < 2 ^ 64) (W : World) :
    Calls Tryz.prog 100 #[.agg #[.int .u64 (ah : Int), .int .u64 (al : Int)], .agg #[.int .u64 (bh : Int), .int .u64 (bl : Int)]] W fun e w' => e = .returned (.agg #[.int .u64 (ah ^^^ bh : Nat), .int .u64 (al ^^^ bl : Nat)]) ∧ Below W.heap.size W w' :=
  add_core ah al bh bl _ _ (u64_xor_nat _ _ h1 h3) (u64_xor_nat _ _ h2 h4) W

end Go.Proofs.YtopmkooegpaeaaaGreat
