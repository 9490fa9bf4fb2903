/- The contracts of merkle's Root, of Rows' and Root's errors, of halve and Path over the seat's translation. -/
import Derived.Test.YthmjbdmnlkbllaaGreatMkC
namespace Go.Proofs.YthmjbdmnlkbllaaGreat
open Go.RowKit

set_option maxHeartbeats 1000000 in
theorem root_ok (g : Nat) (a : Option Addr) (n cap h : Nat) (f : Nat → ByteArray) (hh : h ≤ 12) (hn : n = 2 ^ h) (hs : ∀ i, i < n → (f i).size ≤ 1048575) (W : World) (hT : Tab W g) (hX : Txs W a n f) :
    Calls Tryz.prog 16 #[.pointer (some ⟨g, 0, none⟩), .slice a n cap] W fun e w' => e = .returned (.tuple #[.string (lv f h 0), .int .i64 0]) ∧ Below W.heap.size W w' := by
  have HR : Hid (Calls Tryz.prog 14 #[.pointer (some ⟨g, 0, none⟩), .slice a n cap] W fun e w' => ∃ G cap' bl, e = .returned (.tuple #[.slice (some ⟨G, 0, none⟩) (h + 1) cap', .int .i64 0]) ∧ h + 1 ≤ cap' ∧ Tree w' G h bl f ∧ Below W.heap.size W w') := rows_ok g a n cap h f hh hn hs W hT hX
  clear hn hs hT hX
  go_enter Tryz.func16, Tryz.ntmps16
  go_wp2_with (go_at_call 14; refine HR.out.mono ?_; rintro e w1 ⟨G, cap', bl, rfl, hcp, hTr, hb1⟩; have c0 := hTr.top h (Nat.le_refl _); rw [szr_top] at c0; have r0 := (hTr.row h (Nat.le_refl _)).cell (i := 0) (szr_pos h h); clear hTr)
  go_ret2
  exact ⟨rfl, hb1⟩
theorem rows_nil (v : Value) : Same 14 #[.pointer none, v] (.tuple #[.slice none 0 0, .int .i64 1]) := by
  intro W
  go_enter Tryz.func14, Tryz.ntmps14
  go_wp2
  go_ret2
  exact ⟨rfl, rfl⟩
theorem rows_size (g : Nat) (a : Option Addr) (n cap : Nat) (hn : filB n = false) : Same 14 #[.pointer (some ⟨g, 0, none⟩), .slice a n cap] (.tuple #[.slice none 0 0, .int .i64 6]) := by
  intro W
  have HF : Hid (Same 29 #[.int .i64 (n : Int)] (.bool false)) := by have := fills_any n; rw [hn] at this; exact this
  go_enter Tryz.func14, Tryz.ntmps14
  go_wp2_with (go_at_call 29; refine (HF.out _).mono ?_; rintro e w1 ⟨rfl, rfl⟩)
  go_ret2
  exact ⟨rfl, rfl⟩
theorem root_nil (v : Value) : Same 16 #[.pointer none, v] (.tuple #[.string (ByteArray.mk #[]), .int .i64 1]) := by
  intro W
  have H : Hid (Same 14 #[.pointer none, v] (.tuple #[.slice none 0 0, .int .i64 1])) := rows_nil v
  go_enter Tryz.func16, Tryz.ntmps16
  go_wp2_with (go_at_call 14; refine (H.out _).mono ?_; rintro e w1 ⟨rfl, rfl⟩)
  go_ret2
  exact ⟨rfl, rfl⟩
theorem root_size (g : Nat) (a : Option Addr) (n cap : Nat) (hn : filB n = false) : Same 16 #[.pointer (some ⟨g, 0, none⟩), .slice a n cap] (.tuple #[.string (ByteArray.mk #[]), .int .i64 6]) := by
  intro W
  have H : Hid (Same 14 #[.pointer (some ⟨g, 0, none⟩), .slice a n cap] (.tuple #[.slice none 0 0, .int .i64 6])) := rows_size g a n cap hn
  go_enter Tryz.func16, Tryz.ntmps16
  go_wp2_with (go_at_call 14; refine (H.out _).mono ?_; rintro e w1 ⟨rfl, rfl⟩)
  go_ret2
  exact ⟨rfl, rfl⟩
/-- Rows of texts that lie in memory. -/
structure Gr (w : World) (a : Option Addr) (N : Nat) (ra : Nat → Option Addr) (rl rc : Nat → Nat) (F : Nat → Nat → ByteArray) : Prop where
  top : ∀ k, k < N → ∃ b off : Nat, a = some ⟨b, off, none⟩ ∧ b < w.heap.size ∧ w.cell? ⟨b, off + k, none⟩ = some (.slice (ra k) (rl k) (rc k))
  row : ∀ k, k < N → Txs w (ra k) (rl k) (F k)
theorem Gr.below {w w' : World} {a : Option Addr} {N : Nat} {ra : Nat → Option Addr} {rl rc : Nat → Nat} {F : Nat → Nat → ByteArray} (t : Gr w a N ra rl rc F) (hb : Below w.heap.size w w') : Gr w' a N ra rl rc F :=
  ⟨fun k hk => by
    obtain ⟨b, off, h1, h2, h3⟩ := t.top k hk
    exact ⟨b, off, h1, Nat.lt_of_lt_of_le h2 hb.size, keepc hb h3⟩, fun k hk => (t.row k hk).below hb⟩
theorem Tree.gr {w : World} {G h : Nat} {bl : Nat → Nat} {f : Nat → ByteArray} (t : Tree w G h bl f) : Gr w (some ⟨G, 0, none⟩) (h + 1) (fun k => some ⟨bl k, 0, none⟩) (szr h) (szr h) (lv f) :=
  ⟨fun k hk => ⟨G, 0, rfl, t.lt, by rw [Nat.zero_add]; exact t.top k (by omega)⟩, fun k hk => Txs.of_row (t.row k (by omega))⟩
/-- Do rows halve, one by one, from the row 0 up to the row k? -/
def hvB (rl : Nat → Nat) (k : Nat) : Bool := (List.range k).all fun j => decide (rl j = 2 * rl (j + 1))
theorem hvB_succ (rl : Nat → Nat) (k : Nat) : hvB rl (k + 1) = (hvB rl k && decide (rl k = 2 * rl (k + 1))) := by simp [hvB, List.range_succ]
theorem hvB_le {rl : Nat → Nat} {k m : Nat} (h : hvB rl m = true) (hk : k ≤ m) : hvB rl k = true := by
  unfold hvB at *
  rw [List.all_eq_true] at *
  intro x hx
  exact h x (by simp at *; omega)
set_option maxHeartbeats 1000000 in
set_option maxRecDepth 100000 in
theorem halve_any (b off N cap : Nat) (ra : Nat → Option Addr) (rl rc : Nat → Nat) (F : Nat → Nat → ByteArray) (hN : N + 1 ≤ cap) (hNm : N ≤ 1000000) (hl : ∀ k, k ≤ N → rl k ≤ 1000000000) (W : World) (hG : Gr W (some ⟨b, off, none⟩) (N + 1) ra rl rc F) :
    Calls Tryz.prog 32 #[.slice (some ⟨b, off, none⟩) (N + 1) cap] W fun e w' => e = .returned (.bool (hvB rl N && decide (rl N = 1))) ∧ w' = W := by
  have HG : Hid (Gr W (some ⟨b, off, none⟩) (N + 1) ra rl rc F) := hG
  have HL : Hid (∀ k, k ≤ N → rl k ≤ 1000000000) := hl
  clear hG hl
  have hN1 : (N : Int) ≤ (cap : Int) := by omega
  have hN2 : ¬ (cap : Int) < (N : Int) := by omega
  go_enter Tryz.func32, Tryz.ntmps32
  go_wp2
  go_loopw [13] (fun u wr => ∃ k : Nat, k ≤ N ∧ u = .int .i64 k ∧ Hid (hvB rl k = true) ∧ W = wr) (fun u _ => N - (intOf u).toNat)
  case atStart => exact ⟨0, Nat.zero_le _, rfl, (rfl : hvB rl 0 = true), rfl⟩
  case round =>
    obtain ⟨k, hk, rfl, HV, rfl⟩ := hrel
    by_cases hlt : k < N
    · have k1 : (k : Int) < (N : Int) := by omega
      obtain ⟨b1, o1, e1, _, c1⟩ := HG.out.top k (by omega)
      obtain ⟨b2, o2, e2, _, c2⟩ := HG.out.top (k + 1) (by omega)
      obtain ⟨rfl, rfl⟩ : b = b1 ∧ off = o1 := by injection e1 with e; injection e with h1 h2; exact ⟨h1, h2⟩
      obtain ⟨rfl, rfl⟩ : b = b2 ∧ off = o2 := by injection e2 with e; injection e with h1 h2; exact ⟨h1, h2⟩
      clear e1 e2
      have hS := hvB_succ rl k
      have HS : Hid (hvB rl (k + 1) = (hvB rl k && decide (rl k = 2 * rl (k + 1)))) := hS
      have l2 := HL.out (k + 1) (by omega)
      have HNN : Hid (hvB rl N = true → rl k = 2 * rl (k + 1)) := fun h => by
        have := hvB_le h (show k + 1 ≤ N by omega)
        rw [hS] at this
        simp at this
        exact this.2
      clear hS
      generalize rl k = x at *
      generalize rl (k + 1) = y at *
      by_cases hxy : x = 2 * y
      · have i1 : (x : Int) = 2 * (y : Int) := by omega
        have HE : Hid (x = 2 * y) := hxy
        clear hxy
        go_wp2
        exact ⟨⟨k + 1, hlt, by simp, (by show _ = _; rw [HS.out, HV.out]; simp [HE.out]), by first | rfl | trivial⟩, by simp [intOf]; omega⟩
      · have i1 : ¬ (x : Int) = 2 * (y : Int) := by omega
        have HE : Hid (hvB rl N = false) := by
          show _ = _
          cases h : hvB rl N
          · rfl
          · exact absurd (HNN.out h) hxy
        clear hxy
        go_wp2
        go_ret
        exact ⟨by rw [HE.out]; rfl, rfl⟩
    · obtain rfl : k = N := by omega
      have k1 : ¬ (k : Int) < (k : Int) := by omega
      obtain ⟨b1, o1, e1, _, c1⟩ := HG.out.top k (by omega)
      obtain ⟨rfl, rfl⟩ : b = b1 ∧ off = o1 := by injection e1 with e; injection e with h1 h2; exact ⟨h1, h2⟩
      clear e1
      generalize hx : rl k = x at *
      go_wp2
      go_ret
      refine ⟨?_, rfl⟩
      rw [HV.out, Bool.true_and]
      by_cases e : x = 1
      · subst e; rfl
      · have : ¬ (x : Int) = 1 := by omega
        simp [e, this]
end Go.Proofs.YthmjbdmnlkbllaaGreat
