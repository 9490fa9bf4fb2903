/- The contract of weave.Bits over the seat's translation. -/
import Derived.Test.YtflkchhdgiojgaaWvG
namespace Go.Proofs.Ytflkchhdgiojgaa
open Go.RowKit

/-- Bits in memory, as a slice has them. -/
structure BRow (w : World) (a : Option Addr) (bs : List Bool) : Prop where
  cells : ∀ i, i < bs.length → ∃ b off : Nat, a = some ⟨b, off, none⟩ ∧ b < w.heap.size ∧ w.cell? ⟨b, off + i, none⟩ = some (.bool (bs.getD i false))
theorem BRow.below {w w' : World} {a : Option Addr} {bs : List Bool} (h : BRow w a bs) (hb : Below w.heap.size w w') : BRow w' a bs := ⟨fun i hi => by
  obtain ⟨b, off, h1, h2, h3⟩ := h.cells i hi
  exact ⟨b, off, h1, Nat.lt_of_lt_of_le h2 hb.size, keepc hb h3⟩⟩
theorem own_zero {w : World} {base : Nat} {T : TypeId} {g n : Nat} (h : w.ownsRow base T 2 (.slice (some ⟨g, 0, none⟩) n n) n (madeCells (Value.agg #[.int .u64 0, .int .u64 0]).cells (n * 2)).toList) : ∃ f, w.rowIs g T (n * 2) f ∧ ∀ i, i < n * 2 → f i = .int .u64 0 := by
  obtain ⟨f, hf⟩ := own_isRow h (rfl : n * 2 = n * 2)
  refine ⟨f, hf, fun i hi => ?_⟩
  have h1 := h.cellAt i hi
  rw [hf.cell hi] at h1
  have h2 : ((madeCells (Value.agg #[.int .u64 0, .int .u64 0]).cells (n * 2)).toList)[i]? = some (.int .u64 0) := by
    have hc : (Value.agg #[.int .u64 0, .int .u64 0]).cells = #[.int .u64 0, .int .u64 0] := by simp [Value.cells]
    unfold madeCells
    rw [hc]
    rcases Nat.mod_two_eq_zero_or_one i with h | h <;> simp [hi, h]
  rw [h2] at h1
  exact Option.some.inj h1
set_option maxHeartbeats 1000000 in
set_option maxRecDepth 100000 in
theorem wbits_core (l : Int) (a : Option Addr) (cap : Nat) (bs : List Bool) (hn : bs.length ≤ 1000) (W : World) (hr : BRow W a bs) (Q : Value → Value → World → Prop)
    (HG : Hid (∀ (w : World) (g : Nat), Below W.heap.size W w → ERow w (some ⟨g, 0, none⟩) (bE bs) → Calls Try.prog 18 #[.int .i64 0, .int .i64 l, .slice (some ⟨g, 0, none⟩) bs.length bs.length] w fun e w' => ∃ x y, e = .returned (.tuple #[x, y]) ∧ Q x y w' ∧ Below w.heap.size w w')) :
    Calls Try.prog 22 #[.int .i64 l, .slice a bs.length cap] W fun e w' => ∃ x y, e = .returned (.tuple #[x, y]) ∧ Q x y w' ∧ Below W.heap.size W w' := by
  obtain ⟨i0, hi, hz0, hz1, hz2⟩ := info_elem
  have HN : Hid (Try.prog.info? 54 = some i0 ∧ i0.zero = some (.agg #[.int .u64 0, .int .u64 0]) ∧ i0.size = 2 ∧ i0.bytes = 16) := ⟨hi, hz0, hz1, hz2⟩
  have HR : Hid (BRow W a bs) := hr
  have H1 : Hid (Ret 42 #[] (.agg #[.int .u64 0, .int .u64 1])) := one_any
  clear hi hz0 hz1 hz2 hr
  go_enter Try.func22, Try.ntmps22
  go_wp2_with (at_make; refine wpList_make_full _ rfl _ _ 22 rfl W.heap.size 54 i0 (.agg #[.int .u64 0, .int .u64 0]) 2 Try.underlying22 HN.out.1 HN.out.2.1 HN.out.2.2.1 .i64 .i64 _ _ bs.length rfl rfl rfl rfl (by rw [HN.out.2.2.2]; omega) (by simp only [maxLen]; omega) (Nat.le_refl _) ?_; intro w2 own2 hgr2)
  obtain ⟨f0, R0, Z0⟩ := own_zero own2
  have D : Hid (Below W.heap.size W w2) := (Below.refl _ _).grown hgr2 (Nat.le_refl _) (fun k hk => by cases hk)
  have HR0 : Hid (w2.rowIs W.heap.size 54 (bs.length * 2) f0) := R0
  have HZ0 : Hid (∀ i, i < bs.length * 2 → f0 i = .int .u64 0) := Z0
  clear own2 hgr2 R0 Z0 HN
  go_loopw [14] (fun u wr => ∃ (j : Nat) (F : Nat → Value), j ≤ bs.length ∧ u = .int .i64 j ∧ wr.rowIs W.heap.size 54 (bs.length * 2) F ∧ Hid (∀ i, i < bs.length * 2 → F i = if i < j * 2 then gcell (bE bs) i else .int .u64 0) ∧ Below W.heap.size W wr) (fun u _ => bs.length - (intOf u).toNat)
  case atStart => exact ⟨0, f0, Nat.zero_le _, rfl, HR0.out, (fun i hi => by rw [if_neg (by omega)]; exact HZ0.out i hi), D.out⟩
  case round =>
    obtain ⟨j, F, hj, rfl, hR, HF, hD⟩ := hrel
    clear HR0 HZ0 D
    have HRr : Hid (wr.rowIs W.heap.size 54 (bs.length * 2) F) := hR
    have HD : Hid (Below W.heap.size W wr) := hD
    have hps : W.heap.size < wr.heap.size := hR.lt
    clear hR hD
    by_cases hlt : j < bs.length
    · obtain ⟨b, off, rfl, hb, cb⟩ := HR.out.cells j hlt
      have db : wr.cell? ⟨b, off + j, none⟩ = some (.bool (bs.getD j false)) := by rw [HD.out.cell (p := ⟨b, off + j, none⟩) hb]; exact cb
      have HE : Hid ((bE bs).getD j (0, 0) = if bs.getD j false then (0, 1) else (0, 0)) := bE_at bs j
      clear cb
      generalize bs.getD j false = x at *
      cases x with
      | false =>
        go_wp2
        refine ⟨⟨j + 1, F, hlt, by simp, HRr.out, fun i hi => ?_, HD.out⟩, by simp [intOf]; omega⟩
        have hF := HF.out i hi
        rw [hF]
        by_cases h1 : i < j * 2
        · rw [if_pos h1, if_pos (by omega)]
        · rw [if_neg h1]
          by_cases h2 : i < (j + 1) * 2
          · rw [if_pos h2]; unfold gcell; rw [show i / 2 = j by omega, HE.out]; split <;> rfl
          · rw [if_neg h2]
      | true =>
        go_wp2_with (go_at_call 42; refine (H1.out.go _).mono ?_; rintro e w5 ⟨rfl, hb5⟩; have R5 : Hid (w5.rowIs W.heap.size 54 (bs.length * 2) F) := (HRr.out.of_block (hb5.block W.heap.size hps)); have c1 := R5.out.cell (i := j * 2) (by omega); have c0 := R5.out.cell (i := j * 2 + 1) (by omega); have z1 := R5.out.frozen (j * 2); have z0 := R5.out.frozen (j * 2 + 1))
        refine ⟨⟨j + 1, _, hlt, by simp, (R5.out.set (j * 2) _).set (j * 2 + 1) _, fun i hi => ?_, ((HD.out.trans (hb5.mono HD.out.size)).setCell (Nat.le_refl _) _).setCell (Nat.le_refl _) _⟩, by simp [intOf]; omega⟩
        have hF := HF.out i hi
        by_cases e1 : i = j * 2 + 1
        · rw [if_pos e1, if_pos (by omega)]; unfold gcell; rw [if_neg (by omega), show i / 2 = j by omega, HE.out]; rfl
        · rw [if_neg e1]
          by_cases e2 : i = j * 2
          · rw [if_pos e2, if_pos (by omega)]; unfold gcell; rw [if_pos (by omega), show i / 2 = j by omega, HE.out]; rfl
          · rw [if_neg e2, hF]
            by_cases h1 : i < j * 2
            · rw [if_pos h1, if_pos (by omega)]
            · rw [if_neg h1, if_neg (by omega)]
    · obtain rfl : j = bs.length := by omega
      have HE : Hid (ERow wr (some ⟨W.heap.size, 0, none⟩) (bE bs)) := row_g (bE_len bs) HRr.out (fun i hi => by rw [HF.out i hi, if_pos hi])
      go_wp2_with (go_at_call 18; refine (HG.out _ _ HD.out HE.out).mono ?_; rintro e w5 ⟨x, y, rfl, hQ, hb5⟩)
      refine bodyPost_ret (v := .tuple #[x, y]) (by simp [results, Try.results22, go_sem, *]) rfl ?_
      exact ⟨x, y, rfl, hQ, HD.out.trans (hb5.mono HD.out.size)⟩
end Go.Proofs.Ytflkchhdgiojgaa
