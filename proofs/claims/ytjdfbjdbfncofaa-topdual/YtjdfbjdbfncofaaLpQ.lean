/- The contract of linpoly.Plain where there is such a space, over the seat's translation. -/
import Derived.Test.YtjdfbjdbfncofaaLpM
namespace Go.Proofs.Ytjdfbjdbfncofaa
open Go.RowKit

/-- A space that lies at p: its level, its basis. -/
structure Lies (W w : World) (l : Int) (p g n : Nat) (es : List (Nat × Nat)) : Prop where
  hp : p < w.heap.size
  hg : g < w.heap.size
  hn : es.length = n
  c0 : w.cell? ⟨p, 0, none⟩ = some (.int .i64 l)
  c1 : w.cell? ⟨p, 1, none⟩ = some (.slice (some ⟨g, 0, none⟩) n n)
  row : ERow w (some ⟨g, 0, none⟩) es
  d : Below W.heap.size W w
theorem erow_below {w w' : World} {g : Nat} {es : List (Nat × Nat)} (h : ERow w (some ⟨g, 0, none⟩) es) (b : Below w.heap.size w w') : ERow w' (some ⟨g, 0, none⟩) es := ⟨fun i hi => by
  obtain ⟨g', o, e, h1, h2, h3⟩ := h.cells i hi
  refine ⟨g', o, e, Nat.lt_of_lt_of_le h1 b.size, ?_, ?_⟩
  · rw [b.cell (p := ⟨g', o + i * 2, none⟩) h1]; exact h2
  · rw [b.cell (p := ⟨g', o + i * 2 + 1, none⟩) h1]; exact h3⟩
set_option maxHeartbeats 4000000 in
set_option maxRecDepth 100000 in
theorem plain_ok (k n : Nat) (hk : k < 8) (hn : n ≤ 10) (h2 : n ≤ 2 ^ k) (W : World) :
    Calls Try.prog 29 #[.int .i64 (k : Int), .int .i64 (n : Int)] W fun e w' => ∃ p g : Nat, e = .returned (.tuple #[.pointer (some ⟨p, 0, none⟩), .int .i64 0]) ∧ Lies W w' k p g n (bitsE n) := by
  have HL : Hid (Ret 47 #[.int .i64 (k : Int)] (.bool true)) := lin_level (k : Int) (by omega)
  obtain ⟨i0, hi, hz0, hz1, hz2⟩ := info_elem
  have HN : Hid (Try.prog.info? 24 = some i0 ∧ i0.zero = some (.agg #[.int .u64 0, .int .u64 0]) ∧ i0.size = 2 ∧ i0.bytes = 16) := ⟨hi, hz0, hz1, hz2⟩
  clear hi hz0 hz1 hz2
  have hw : IntKind.i64.wrap (2 ^ k) = ((2 ^ k : Nat) : Int) := by
    have h1 : 2 ^ k < 2 ^ 8 := Nat.pow_lt_pow_right (by decide) hk
    rw [IntKind.wrap_i64, show (2 : Int) ^ k = ((2 ^ k : Nat) : Int) by simp]
    generalize 2 ^ k = p at *
    omega
  have h2' : ¬ (2 : Int) ^ k < (n : Int) := by
    rw [show (2 : Int) ^ k = ((2 ^ k : Nat) : Int) by simp]
    omega
  clear h2
  go_enter Try.func29, Try.ntmps29
  go_wp2_with (first | (go_at_call 47; refine (HL.out.go _).mono ?_; rintro e w1 ⟨rfl, hb1⟩) | (at_make; refine wpList_make_full _ rfl _ _ 26 rfl 0 24 i0 (.agg #[.int .u64 0, .int .u64 0]) 2 Try.underlying26 HN.out.1 HN.out.2.1 HN.out.2.2.1 .i64 .i64 _ _ n rfl rfl rfl rfl (by rw [HN.out.2.2.2]; omega) (by simp only [maxLen]; omega) (Nat.zero_le _) ?_; intro w2 own2 hgr2))
  have hg : W.heap.size ≤ w1.heap.size := hb1.size
  have D : Hid (Below W.heap.size W w2) := hb1.grown hgr2 hb1.size (fun k hk => by cases hk)
  obtain ⟨f0, R0⟩ := own_rowIs own2 (rfl : n * 2 = n * 2)
  have HM : Hid (∀ w : World, ERow w (some ⟨w1.heap.size, 0, none⟩) (bitsE n) → Calls Try.prog 48 #[.int .i64 (k : Int), .slice (some ⟨w1.heap.size, 0, none⟩) n n] w fun e w' => ∃ aT aB cT cB ts bs, e = .returned (.pointer (some ⟨w.heap.size, 0, none⟩)) ∧ Mk w w' k (.slice (some ⟨w1.heap.size, 0, none⟩) n n) (.slice aT ts.length cT) (.slice aB ts.length cB) ts.length ts.length (flat ts) (flat bs)) := fun w h => by
    have := made_any (k : Int) (some ⟨w1.heap.size, 0, none⟩) n (bitsE n) w h (by rw [bitsE_len]; exact hn) (bitsE_lt n hn) (ivv k) (fun y h1 h2 => inv_lin k y h1 h2)
    rw [bitsE_len] at this
    refine this.mono ?_
    rintro e w' ⟨aT, aB, cT, cB, ts, bs, rfl, _, _, _, _, _, h⟩
    exact ⟨aT, aB, cT, cB, ts, bs, rfl, h⟩
  clear own2 hgr2 hb1 HL HN hw
  generalize w1.heap.size = g at *
  go_loopw [28] (fun u wr => ∃ (j : Nat) (f : Nat → Value), j ≤ n ∧ u = .int .i64 j ∧ wr.rowIs g 24 (n * 2) f ∧ Hid (∀ p, p < j * 2 → f p = bcell p) ∧ Below W.heap.size W wr) (fun u _ => n - (intOf u).toNat)
  case atStart => exact ⟨0, f0, Nat.zero_le _, rfl, R0, (fun p hp => by omega), D.out⟩
  case round =>
    obtain ⟨j, f, hj, rfl, hR, HF, hD⟩ := hrel
    clear R0 D
    have HR : Hid (wr.rowIs g 24 (n * 2) f) := hR
    have HD : Hid (Below W.heap.size W wr) := hD
    have hgs : g < wr.heap.size := hR.lt
    clear hR hD
    by_cases hlt : j < n
    · have HB : Hid (Ret 21 #[.int .i64 (j : Int)] (.agg #[.int .u64 0, .int .u64 ((2 ^ j : Nat) : Int)])) := lbit j (by omega)
      go_wp2_with (go_at_call 21; refine (HB.out.go _).mono ?_; rintro e w3 ⟨rfl, hb3⟩; have R3 : Hid (w3.rowIs g 24 (n * 2) f) := (HR.out.of_block (hb3.block g hgs)); have c1 := R3.out.cell (i := j * 2) (by omega); have c0 := R3.out.cell (i := j * 2 + 1) (by omega); have z1 := R3.out.frozen (j * 2); have z0 := R3.out.frozen (j * 2 + 1))
      refine ⟨⟨j + 1, _, hlt, by simp, (R3.out.set (j * 2) _).set (j * 2 + 1) _, fun p hp => ?_, ((HD.out.trans (hb3.mono HD.out.size)).setCell hg _).setCell hg _⟩, by simp [intOf]; omega⟩
      have hF := HF.out p
      unfold bcell at hF ⊢
      by_cases e1 : p = j * 2 + 1
      · rw [if_pos e1, if_neg (by omega), show p / 2 = j by omega]; simp
      · rw [if_neg e1]
        by_cases e2 : p = j * 2
        · rw [if_pos e2, if_pos (by omega)]
        · rw [if_neg e2]; exact hF (by omega)
    · obtain rfl : j = n := by omega
      have HE : Hid (ERow wr (some ⟨g, 0, none⟩) (bitsE j)) := row_bits HR.out HF.out
      go_wp2_with (go_at_call 48; refine (HM.out _ HE.out).mono ?_; rintro e w3 ⟨aT, aB, cT, cB, ts, bs, rfl, hK⟩)
      refine bodyPost_ret (v := .tuple #[.pointer (some ⟨wr.heap.size, 0, none⟩), .int .i64 0]) (by simp [results, Try.results29, go_sem]) rfl ?_
      exact ⟨_, _, rfl, cell_lt hK.c0, Nat.lt_of_lt_of_le hgs hK.d.size, bitsE_len j, hK.c0, hK.c1, erow_below HE.out hK.d, HD.out.trans (hK.d.mono HD.out.size)⟩
end Go.Proofs.Ytjdfbjdbfncofaa
