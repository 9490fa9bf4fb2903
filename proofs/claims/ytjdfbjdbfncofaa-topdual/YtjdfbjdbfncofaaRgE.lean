/- Contracts of ring.Parts and ring.Pack over the seat's translation. -/
import Derived.Test.YtjdfbjdbfncofaaRgD
namespace Go.Proofs.Ytjdfbjdbfncofaa
open Go.RowKit
open Cb
open Rg
open Tw (pm)

/-- The error of Parts. -/
def rpE (l : Int) (n : Nat) (hi : List (Nat × Nat)) : Int := if hvE l n = 0 then (if (hi.length : Int) = hvV l n then (if (hi.all fun e => ofB l (e.1 : Int) (e.2 : Int)) = true then 0 else 5) else 6) else hvE l n
theorem hv_zero {l : Int} {n : Nat} (h : hvE l n = 0) : ∃ k j : Nat, k < 8 ∧ l = (k : Int) ∧ k + j ≤ 12 ∧ n = 2 ^ j * 2 ^ k ∧ hvV l n = (j : Int) := by
  have h' := h
  unfold hvE at h
  split at h
  · rename_i hl
    split at h
    · rename_i h2
      rcases lgz_or n with h3 | ⟨m, h3, h4, h5⟩
      · omega
      · obtain ⟨k, rfl⟩ : ∃ k : Nat, l = (k : Int) := ⟨l.toNat, by omega⟩
        refine ⟨k, m - k, by omega, rfl, by omega, ?_, ?_⟩
        · rw [h4, ← Nat.pow_add]; congr 1; omega
        · unfold hvV; rw [if_pos h', h5]; omega
    · exact absurd h (by decide)
  · exact absurd h (by decide)
theorem hv_mk {k j n : Nat} (hk : k < 8) (hj : k + j ≤ 12) (hn : n = 2 ^ j * 2 ^ k) : hvE (k : Int) n = 0 ∧ hvV (k : Int) n = (j : Int) := by
  have e : lgz n = ((j + k : Nat) : Int) := by rw [hn, ← Nat.pow_add]; exact lgz_two _ (by omega)
  have h : hvE (k : Int) n = 0 := by unfold hvE; rw [if_pos (by omega), e, if_pos (by omega)]
  refine ⟨h, ?_⟩
  unfold hvV; rw [if_pos h, e]; omega
theorem rp_zero {l : Int} {n : Nat} {hi : List (Nat × Nat)} (h : rpE l n hi = 0) : ∃ k : Nat, k < 8 ∧ l = (k : Int) ∧ k + hi.length ≤ 12 ∧ n = 2 ^ hi.length * 2 ^ k ∧ ofT k hi := by
  unfold rpE at h
  split at h
  · rename_i h0
    obtain ⟨k, j, hk, rfl, hj, hn, hv⟩ := hv_zero h0
    split at h
    · rename_i h1
      split at h
      · rename_i h2
        obtain rfl : hi.length = j := by omega
        exact ⟨k, hk, rfl, hj, hn, all_of.1 h2⟩
      · exact absurd h (by decide)
    · exact absurd h (by decide)
  · rename_i h0
    exact absurd h h0
/-- The parts with x elements of the high point done, and v of the next. -/
def pt (N : Nat) (bs : List Bool) (hi : List (Nat × Nat)) (x v : Nat) : Nat × Nat := xs x fun y => sl (bt bs (y * N + v)) (wt hi y)
theorem lt_pt (N : Nat) (bs : List Bool) (hi : List (Nat × Nat)) (x v : Nat) : lt2 (pt N bs hi x v) := lt_xs (fun _ => lt_sl (lt_wt _ _)) _
def ptj (N : Nat) (bs : List Bool) (hi : List (Nat × Nat)) (x v c : Nat) : Nat × Nat := if c < v then pt N bs hi (x + 1) c else pt N bs hi x c
set_option maxHeartbeats 1000000 in
theorem rpack_err (l : Int) (a : Option Addr) (n cap : Nat) (hn : n < 2 ^ 40) (h0 : ¬ hvE l n = 0) : Ret 13 #[.int .i64 l, .slice a n cap] (.tuple #[.slice none 0 0, .int .i64 (hvE l n)]) := by
  intro W
  have HV := hidT (rhv l a n cap hn)
  generalize hvE l n = F at *
  generalize hvV l n = V at *
  go_enter Try.func13, Try.ntmps13
  go_wp2_with (go_at_call 31; refine (HV.out.go _).mono ?_; rintro e w1 ⟨rfl, hb1⟩)
  refine bodyPost_ret (v := .tuple #[.slice none 0 0, .int .i64 F]) (by simp [results, Try.results13, go_sem, *]) rfl ⟨rfl, hb1⟩
set_option maxHeartbeats 1000000 in
theorem rpack_ok (k : Nat) (hk : k < 8) (a : Option Addr) (n cap j N q : Nat) (bs : List Bool) (hkj : k + j ≤ 12) (hN : N = 2 ^ k) (hq : 2 ^ j = q) (hn : n = q * N) (hb : bs.length = n) (h10 : n ≤ 1000) (W : World) (ha : BRow W a bs) :
    Calls Try.prog 13 #[.int .i64 (k : Int), .slice a n cap] W fun e w' => ∃ g, e = .returned (.tuple #[.slice (some ⟨g, 0, none⟩) q q, .int .i64 0]) ∧ ERow w' (some ⟨g, 0, none⟩) (gB k q bs) ∧ Below W.heap.size W w' := by
  have HV : Hid (Ret 31 #[.int .i64 (k : Int), .slice a n cap] (.tuple #[.int .i64 (j : Int), .int .i64 0])) := by
    have := rhv (k : Int) a n cap (by omega)
    obtain ⟨e1, e2⟩ := hv_mk (n := n) hk hkj (by rw [hn, ← hq, hN])
    rw [e1, e2] at this
    exact this
  have HG : Hid (∀ w, Below W.heap.size W w → Calls Try.prog 32 #[.int .i64 (k : Int), .slice a n cap] w fun e w' => ∃ p, e = .returned (.tuple #[.slice (some ⟨p, 0, none⟩) q q, .int .i64 0]) ∧ ERow w' (some ⟨p, 0, none⟩) (gB k q bs) ∧ Below w.heap.size w w') := fun w hw => by
    have := wbits_ok k q hk a cap bs (by omega) (by rw [hb, hn, hN]) w (ha.below hw)
    rw [hb] at this
    exact this
  clear ha hb hn hN hq hkj h10
  go_enter Try.func13, Try.ntmps13
  go_wp2_with (first | (go_at_call 31; refine (HV.out.go _).mono ?_; rintro e w1 ⟨rfl, hb1⟩) | (go_at_call 32; refine (HG.out _ hb1).mono ?_; rintro e w2 ⟨g, rfl, hr2, hb2⟩))
  refine bodyPost_ret (v := .tuple #[.slice (some ⟨g, 0, none⟩) q q, .int .i64 0]) (by simp [results, Try.results13, go_sem, *]) rfl ⟨g, rfl, hr2, hb1.trans (hb2.mono hb1.size)⟩
end Go.Proofs.Ytjdfbjdbfncofaa
