/- Contracts of tower.square, Add, Square over the seat's translation. -/
import Derived.Test.YthfebbmmhjkglaaTwB
import Derived.Test.YthfebbmmhjkglaaTwM
import Derived.Test.YthfebbmmhjkglaaOctOf
import Derived.Deep.RegionWith
namespace Go.Proofs.Ythfebbmmhjkglaa
open Go.RowKit
open Tw (px)

theorem keepc {W w1 : World} (hb : Below W.heap.size W w1) {b o : Nat} {v : Value} (h : W.cell? ⟨b, o, none⟩ = some v) : w1.cell? ⟨b, o, none⟩ = some v := by
  have hl : b < W.heap.size := by
    rcases Nat.lt_or_ge b W.heap.size with h1 | h1
    · exact h1
    · simp [World.cell?, Array.getElem?_eq_none h1] at h
  rw [hb.cell (p := ⟨b, o, none⟩) hl]; exact h
theorem keepf {W w1 : World} (hb : Below W.heap.size W w1) {b o : Nat} {v : Value} (h : W.cell? ⟨b, o, none⟩ = some v) (hf : W.frozen? ⟨b, o, none⟩ = false) : w1.frozen? ⟨b, o, none⟩ = false := by
  have hl : b < W.heap.size := by
    rcases Nat.lt_or_ge b W.heap.size with h1 | h1
    · exact h1
    · simp [World.cell?, Array.getElem?_eq_none h1] at h
  rw [hb.frozen (p := ⟨b, o, none⟩) hl]; exact hf

theorem pmh_self (ah al : Nat) : Tw.pmh ah al ah al = px 4294967296 (px ah ah) := by
  unfold Tw.pmh; rw [Tw.px_comm al ah, Nat.xor_self, Nat.zero_xor]
set_option maxHeartbeats 400000 in
theorem add_core (ah al bh bl r1 r0 : Nat) (f1 : bits .xor .u64 (ah : Int) (bh : Int) = (r1 : Int)) (f0 : bits .xor .u64 (al : Int) (bl : Int) = (r0 : Int)) (W : World) :
    Calls Try.prog 56 #[.agg #[.int .u64 (ah : Int), .int .u64 (al : Int)], .agg #[.int .u64 (bh : Int), .int .u64 (bl : Int)]] W fun e w' => e = .returned (.agg #[.int .u64 (r1 : Nat), .int .u64 (r0 : Nat)]) ∧ Below W.heap.size W w' := by
  go_enter Try.func56, Try.ntmps56
  go_wp2
  refine bodyPost_ret (v := .agg #[.int .u64 (r1 : Nat), .int .u64 (r0 : Nat)]) (by simp [results, Try.results56, go_sem]) rfl ⟨rfl, ?_⟩
  go_grown
theorem add_any (ah al bh bl : Nat) (h1 : ah < 2 ^ 64) (h2 : al < 2 ^ 64) (h3 : bh < 2 ^ 64) (h4 : bl < 2 ^ 64) (W : World) :
    Calls Try.prog 56 #[.agg #[.int .u64 (ah : Int), .int .u64 (al : Int)], .agg #[.int .u64 (bh : Int), .int .u64 (bl : Int)]] W fun e w' => e = .returned (.agg #[.int .u64 (ah ^^^ bh : Nat), .int .u64 (al ^^^ bl : Nat)]) ∧ Below W.heap.size W w' :=
  add_core ah al bh bl _ _ (u64_xor_nat _ _ h1 h3) (u64_xor_nat _ _ h2 h4) W

end Go.Proofs.Ythfebbmmhjkglaa
