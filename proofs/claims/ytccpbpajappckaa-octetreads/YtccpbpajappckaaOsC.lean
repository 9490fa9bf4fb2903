/- The contract of the document's reader's Elem over the seat's translation. -/
import Derived.Test.YtccpbpajappckaaOsB
import Derived.Test.YtccpbpajappckaaPRefA
namespace Go.Proofs.Ytccpbpajappckaa
open Go.RowKit

/-- The halves from the last byte on. -/
def fin (s : ByteArray) : Nat → Nat × Nat → Nat × Nat
  | 0, v => v
  | i + 1, v => if 8 ≤ i then fin s i (256 * v.1 + byt s i, v.2) else fin s i (v.1, 256 * v.2 + byt s i)
theorem fin_lwv (s : ByteArray) : ∀ (i : Nat) (v : Nat × Nat), fin s i v = ((lwv s i).1 + v.1 * 2 ^ (8 * (i - 8)), (lwv s i).2 + v.2 * 2 ^ (8 * min i 8))
  | 0, v => by simp [fin, lwv]
  | i + 1, v => by
    show (if 8 ≤ i then _ else _) = _
    by_cases h : 8 ≤ i
    · rw [if_pos h, fin_lwv s i]
      show _ = ((if i < 8 then _ else _ : Nat × Nat).1 + _, (if i < 8 then _ else _ : Nat × Nat).2 + _)
      rw [if_neg (by omega), show min i 8 = 8 by omega, show min (i + 1) 8 = 8 by omega, show 8 * (i + 1 - 8) = 8 * (i - 8) + 8 by omega, Nat.pow_add]
      refine Prod.ext ?_ rfl
      show (lwv s i).1 + (256 * v.1 + byt s i) * 2 ^ (8 * (i - 8)) = (lwv s i).1 + byt s i * 2 ^ (8 * (i - 8)) + v.1 * (2 ^ (8 * (i - 8)) * 2 ^ 8)
      generalize 2 ^ (8 * (i - 8)) = p
      rw [Nat.add_mul, show v.1 * (p * 2 ^ 8) = 256 * v.1 * p by rw [Nat.mul_comm p, ← Nat.mul_assoc, Nat.mul_comm v.1]]
      omega
    · rw [if_neg h, fin_lwv s i]
      show _ = ((if i < 8 then _ else _ : Nat × Nat).1 + _, (if i < 8 then _ else _ : Nat × Nat).2 + _)
      rw [if_pos (by omega), show min i 8 = i by omega, show min (i + 1) 8 = i + 1 by omega, show i - 8 = 0 by omega, show i + 1 - 8 = 0 by omega, show 8 * (i + 1) = 8 * i + 8 by omega, Nat.pow_add]
      refine Prod.ext rfl ?_
      show (lwv s i).2 + (256 * v.2 + byt s i) * 2 ^ (8 * i) = (lwv s i).2 + byt s i * 2 ^ (8 * i) + v.2 * (2 ^ (8 * i) * 2 ^ 8)
      generalize 2 ^ (8 * i) = p
      rw [Nat.add_mul, show v.2 * (p * 2 ^ 8) = 256 * v.2 * p by rw [Nat.mul_comm p, ← Nat.mul_assoc, Nat.mul_comm v.2]]
      omega
theorem fin_all (s : ByteArray) (w : Nat) : fin s w (0, 0) = lwv s w := by rw [fin_lwv]; simp
theorem byt_ext (s : ByteArray) (w i : Nat) (hi : i < w) (hw : w ≤ s.size) : byt (s.extract 0 w) i = byt s i := by
  unfold byt
  have hd : s.data.size = s.size := rfl
  congr 1
  simp [Array.getD_eq_getD_getElem?, ByteArray.data_extract, Array.getElem?_extract]
  rw [if_pos (by omega)]
theorem lwv_ext (s : ByteArray) (w : Nat) (hw : w ≤ s.size) : ∀ i, i ≤ w → lwv (s.extract 0 w) i = lwv s i
  | 0, _ => rfl
  | i + 1, h => by
    show (if i < 8 then _ else _) = (if i < 8 then _ else _)
    rw [lwv_ext s w hw i (by omega), byt_ext s w i (by omega) hw]
theorem lwv_lt9 (s : ByteArray) (w : Nat) (hw : w ≤ 16) : (lwv s w).1 < 2 ^ 64 ∧ (lwv s w).2 < 2 ^ 64 := by
  by_cases h : w ≤ 8
  · have := lwv_lo s w h
    exact ⟨by rw [this.1]; decide, Nat.lt_of_lt_of_le this.2 (Nat.pow_le_pow_right (by decide) (by omega))⟩
  · have := lwv_hi s (w - 8) (by omega)
    rw [show 8 + (w - 8) = w by omega] at this
    exact ⟨Nat.lt_of_lt_of_le this.1 (Nat.pow_le_pow_right (by decide) (by omega)), Nat.lt_of_lt_of_le this.2 (by decide)⟩
theorem wide_level (l : Int) : wideI l = 0 ↔ levelB l = false := by
  unfold wideI levelB
  constructor
  · intro h
    by_cases h1 : 0 ≤ l ∧ l ≤ 7
    · exfalso
      rcases (show l = 0 ∨ l = 1 ∨ l = 2 ∨ l = 3 ∨ l = 4 ∨ l = 5 ∨ l = 6 ∨ l = 7 by omega) with rfl | rfl | rfl | rfl | rfl | rfl | rfl | rfl <;> revert h <;> decide
    · simp; omega
  · intro h
    simp at h
    rw [if_neg (by omega), if_neg (by omega), if_neg (by omega), if_neg (by omega), if_neg (by omega)]
/-- One element in a slice, or none. -/
def OneE (n : Nat) (w : World) (v : Value) (e : Int) (t : Nat × Nat) : Prop := (e = 0 ∧ ∃ g, n ≤ g ∧ v = .slice (some ⟨g, 0, none⟩) 1 1 ∧ El w g t.1 t.2) ∨ (e ≠ 0 ∧ v = .slice none 0 0)
/-- What the loop has laid. -/
structure Ks (W w : World) (s : ByteArray) (b H L : Nat) : Prop where
  c : w.cell? ⟨W.heap.size, 0, none⟩ = some (.string s)
  r : R3 w (W.heap.size + 1) (.string ⟨#[]⟩) (.int .i64 0) (.slice none 0 0)
  x : Ew w b H L
  d : Below W.heap.size W w
theorem R3.offO {w : World} {b q o : Nat} {x y z : Value} (h : R3 w b x y z) (hn : b < q) (v : Value) : R3 (w.setCell ⟨q, o, none⟩ v).drew b x y z := by
  obtain ⟨c0, c1, c2, f0, f1, f2⟩ := h
  have hn1 : ¬ q = b := by omega
  have hn2 : ¬ b = q := by omega
  exact ⟨by simp [go_sem, *], by simp [go_sem, *], by simp [go_sem, *], by simp [go_sem, *], by simp [go_sem, *], by simp [go_sem, *]⟩
theorem Ks.hi {W w : World} {s : ByteArray} {b H L : Nat} (k : Ks W w s b H L) (hb : W.heap.size + 1 < b) (x : Nat) : Ks W (w.setCell ⟨b, 0, none⟩ (.int .u64 (x : Int))).drew s b x L :=
  ⟨by have := k.c; have hn : ¬ b = W.heap.size := by omega
      have hn2 : ¬ W.heap.size = b := by omega
      simp [go_sem, *], k.r.offO hb _, k.x.setHi _, (k.d.setCell (by simp; omega) _).drew⟩
theorem Ks.lo {W w : World} {s : ByteArray} {b H L : Nat} (k : Ks W w s b H L) (hb : W.heap.size + 1 < b) (x : Nat) : Ks W (w.setCell ⟨b, 1, none⟩ (.int .u64 (x : Int))).drew s b H x :=
  ⟨by have := k.c; have hn : ¬ b = W.heap.size := by omega
      have hn2 : ¬ W.heap.size = b := by omega
      simp [go_sem, *], k.r.offO hb _, k.x.setLo _, (k.d.setCell (by simp; omega) _).drew⟩
set_option maxRecDepth 100000 in
set_option maxHeartbeats 4000000 in
theorem rR_elem_err (s : ByteArray) (e l : Int) (he : e ≠ 0) : Ret 28 #[.agg #[.string s, .int .i64 e], .int .i64 l] (.agg #[.string s, .int .i64 e, .slice none 0 0]) := by
  intro W
  have he' : (e == 0) = false := by rw [beq_eq_false_iff_ne]; exact he
  go_enter Try.func28, Try.ntmps28
  go_wp2
  refine bodyPost_ret (v := .agg #[.string s, .int .i64 e, .slice none 0 0]) (by simp [results, Try.results28, go_sem]) rfl ⟨rfl, ?_⟩
  go_grown
set_option maxRecDepth 100000 in
set_option maxHeartbeats 4000000 in
theorem rR_elem_lev (s : ByteArray) (l : Int) (hw : wideI l = 0) : Ret 28 #[.agg #[.string s, .int .i64 0], .int .i64 l] (.agg #[.string ⟨#[]⟩, .int .i64 1, .slice none 0 0]) := by
  intro W
  have HW := hidR (rwide l)
  rw [hw] at HW
  go_enter Try.func28, Try.ntmps28
  go_wp2_with (go_at_call 43; refine (HW.out _).mono ?_; rintro e w1 ⟨rfl, hb1⟩; have K1 : Hid (w1.cell? ⟨W.heap.size, 0, none⟩ = some (.string s) ∧ R3 w1 (W.heap.size + 1) (.string ⟨#[]⟩) (.int .i64 0) (.slice none 0 0) ∧ Below W.heap.size W w1) := ⟨keepc hb1 (by simp [go_sem]), R3.below ⟨by simp [go_sem], by simp [go_sem], by simp [go_sem], by simp [go_sem], by simp [go_sem], by simp [go_sem]⟩ hb1, (((Below.refl _ _).alloc (Nat.le_refl _) _).alloc (by simp) _).trans (hb1.mono (by simp; omega))⟩; clear hb1; have c0 := K1.out.1; obtain ⟨a0, a1, a2, f0, f1, f2⟩ := K1.out.2.1)
  refine bodyPost_ret (v := .agg #[.string ⟨#[]⟩, .int .i64 1, .slice none 0 0]) (by simp [results, Try.results28, go_sem, *]) rfl ⟨rfl, ?_⟩
  exact below3 K1.out.2.2 (Nat.le_succ _) _ _ _
set_option maxRecDepth 100000 in
set_option maxHeartbeats 4000000 in
theorem rR_elem_short (s : ByteArray) (l : Int) (wn : Nat) (hwn : wideI l = (wn : Int)) (h0 : 0 < wn) (hs : s.size < wn) : Ret 28 #[.agg #[.string s, .int .i64 0], .int .i64 l] (.agg #[.string ⟨#[]⟩, .int .i64 11, .slice none 0 0]) := by
  intro W
  have HW := hidR (rwide l)
  rw [hwn] at HW
  have n0 : ¬ (wn : Int) = 0 := by omega
  have n1 : (s.size : Int) < (wn : Int) := by omega
  go_enter Try.func28, Try.ntmps28
  go_wp2_with (go_at_call 43; refine (HW.out _).mono ?_; rintro e w1 ⟨rfl, hb1⟩; have K1 : Hid (w1.cell? ⟨W.heap.size, 0, none⟩ = some (.string s) ∧ R3 w1 (W.heap.size + 1) (.string ⟨#[]⟩) (.int .i64 0) (.slice none 0 0) ∧ Below W.heap.size W w1) := ⟨keepc hb1 (by simp [go_sem]), R3.below ⟨by simp [go_sem], by simp [go_sem], by simp [go_sem], by simp [go_sem], by simp [go_sem], by simp [go_sem]⟩ hb1, (((Below.refl _ _).alloc (Nat.le_refl _) _).alloc (by simp) _).trans (hb1.mono (by simp; omega))⟩; clear hb1; have c0 := K1.out.1; obtain ⟨a0, a1, a2, f0, f1, f2⟩ := K1.out.2.1)
  refine bodyPost_ret (v := .agg #[.string ⟨#[]⟩, .int .i64 11, .slice none 0 0]) (by simp [results, Try.results28, go_sem, *]) rfl ⟨rfl, ?_⟩
  exact below3 K1.out.2.2 (Nat.le_succ _) _ _ _
set_option maxRecDepth 100000 in
set_option maxHeartbeats 8000000 in
theorem rR_elem_in0 (s : ByteArray) (l : Int) (wn : Nat) (hwn : wideI l = (wn : Int)) (h0 : 0 < wn) (h16 : wn ≤ 16) (hs : wn ≤ s.size) (V : Nat × Nat) (hV : lwv s wn = V) (lV : V.1 < 2 ^ 64 ∧ V.2 < 2 ^ 64) (ho : ofB l (V.1 : Int) (V.2 : Int) = false) (W : World) :
    Calls Try.prog 28 #[.agg #[.string s, .int .i64 0], .int .i64 l] W fun r w' => ∃ v, r = .returned (.agg #[.string ⟨#[]⟩, .int .i64 5, v]) ∧ OneE W.heap.size w' v 5 V ∧ Below W.heap.size W w' := by
  have HW := hidR (rwide l)
  rw [hwn] at HW
  have HO := hidR (rof_any l V.1 V.2 lV.1 lV.2)
  rw [ho] at HO
  clear ho
  have n0 : ¬ (wn : Int) = 0 := by omega
  have n1 : ¬ (s.size : Int) < (wn : Int) := by omega
  have n2 : (wn : Int) ≤ 16 := by omega
  have n3 : (1 : Int) ≤ (wn : Int) := by omega
  have n4 : (wn : Int) ≤ (s.size : Int) := by omega
  have HF : Hid (fin s wn (0, 0) = V) := by show _ = _; rw [fin_all, hV]
  clear hV lV hwn
  go_enter Try.func28, Try.ntmps28
  go_upto_region 9 with (go_at_call 43; refine (HW.out _).mono ?_; rintro e w1 ⟨rfl, hb1⟩; have K1 : Hid (w1.cell? ⟨W.heap.size, 0, none⟩ = some (.string s) ∧ R3 w1 (W.heap.size + 1) (.string ⟨#[]⟩) (.int .i64 0) (.slice none 0 0) ∧ Below W.heap.size W w1) := ⟨keepc hb1 (by simp [go_sem]), R3.below ⟨by simp [go_sem], by simp [go_sem], by simp [go_sem], by simp [go_sem], by simp [go_sem], by simp [go_sem]⟩ hb1, (((Below.refl _ _).alloc (Nat.le_refl _) _).alloc (by simp) _).trans (hb1.mono (by simp; omega))⟩; clear hb1; have c0 := K1.out.1; obtain ⟨a0, a1, a2, f0, f1, f2⟩ := K1.out.2.1)
  have KS0 : Hid (Ks W (w1.alloc (Obj.cells #[.int .u64 0, .int .u64 0] 69)) s w1.heap.size 0 0 ∧ W.heap.size + 1 < w1.heap.size) := ⟨⟨keepc ((Below.refl _ _).alloc (Nat.le_refl _) _) K1.out.1, K1.out.2.1.below ((Below.refl _ _).alloc (Nat.le_refl _) _), ⟨⟨by simp [go_sem], by simp [go_sem]⟩, by simp [go_sem], by simp [go_sem]⟩, K1.out.2.2.alloc K1.out.2.2.size _⟩, cell_lt K1.out.2.1.c0⟩
  clear c0 a0 a1 a2 f0 f1 f2 K1
  generalize (w1.alloc (Obj.cells #[.int .u64 0, .int .u64 0] 69)) = w2 at *
  generalize w1.heap.size = b at *
  have hbW := KS0.out.2
  go_wp2_with fail
  go_loopw [7] (fun u wr => ∃ (i H L : Nat) (z : Int), i ≤ wn ∧ Hid (z = (i : Int) - 1) ∧ u = .int .i64 z ∧ Hid (fin s i (H, L) = V) ∧ Hid (H < 2 ^ (8 * (16 - max i 8)) ∧ L < 2 ^ (8 * (8 - min i 8))) ∧ Hid (Ks W wr s b H L)) (fun u _ => (intOf u + 1).toNat)
  case atStart => exact ⟨wn, 0, 0, _, Nat.le_refl _, rfl, rfl, HF.out, ⟨Nat.two_pow_pos _, Nat.two_pow_pos _⟩, KS0.out.1⟩
  case round =>
    obtain ⟨i, H, L, z, hi, HZ, rfl, HV9, HBN, HK⟩ := hrel
    clear KS0
    rcases i with _ | j
    · have hz : z = -1 := by have := HZ.out; omega
      subst hz
      have hV : V = (H, L) := HV9.out.symm
      clear HV9 HF HBN HZ hi
      subst hV
      dsimp only at *
      obtain ⟨⟨x1, x0⟩, t1, t0⟩ := HK.out.x
      go_wp2_with (go_at_call 44; refine (HO.out.go _).mono ?_; rintro e w3 ⟨rfl, hb3⟩; have K3 : Hid (Ks W w3 s b H L) := ⟨keepc hb3 HK.out.c, HK.out.r.below hb3, HK.out.x.below hb3, HK.out.d.trans (hb3.mono HK.out.d.size)⟩; clear hb3 HK x1 x0 t1 t0; obtain ⟨⟨x1, x0⟩, t1, t0⟩ := K3.out.x; have c0 := K3.out.c; obtain ⟨a0, a1, a2, f0, f1, f2⟩ := K3.out.r)
      refine bodyPost_ret (v := .agg #[.string ⟨#[]⟩, .int .i64 5, .slice none 0 0]) (by simp [results, Try.results28, go_sem, *]) rfl ⟨.slice none 0 0, rfl, .inr ⟨by decide, rfl⟩, ?_⟩
      exact below3 K3.out.d (Nat.le_succ _) _ _ _
    · have hz : z = (j : Int) := by have := HZ.out; omega
      subst hz
      clear HZ
      have jlt : j < s.size := by omega
      have j1 : (j : Int) < (s.size : Int) := by omega
      have j0 : (0 : Int) ≤ (j : Int) := by omega
      have j9 : (j : Int) ≤ 16 := by omega
      obtain ⟨⟨x1, x0⟩, t1, t0⟩ := HK.out.x
      have c0 := HK.out.c
      by_cases h8 : 8 ≤ j
      · skip
        have HN : Hid (fin s j (256 * H + byt s j, L) = V) := by show _ = _; rw [← HV9.out]; show _ = (if 8 ≤ j then _ else _); rw [if_pos h8]
        have hbnd : Hid (256 * H + 255 < 2 ^ 64) := by
          have := HBN.out.1
          show 256 * H + 255 < 2 ^ 64
          have h9 : 2 ^ (8 * (16 - (j + 1))) ≤ 2 ^ 56 := Nat.pow_le_pow_right (by decide) (by omega)
          rw [show max (j + 1) 8 = j + 1 by omega] at this
          omega
        have HB2 : Hid (256 * H + byt s j < 2 ^ (8 * (16 - max j 8)) ∧ L < 2 ^ (8 * (8 - min j 8))) := by
          have h1 := HBN.out.1
          have h2 := HBN.out.2
          have hb := byt_lt s j
          rw [show max (j + 1) 8 = j + 1 by omega] at h1; rw [show min (j + 1) 8 = 8 by omega] at h2; rw [show max j 8 = j by omega, show min j 8 = 8 by omega]; refine ⟨?_, h2⟩; rw [show 8 * (16 - j) = 8 * (16 - (j + 1)) + 8 by omega, Nat.pow_add]; omega
        have i8 : (8 : Int) ≤ (j : Int) := by omega
        clear HV9 HBN
        have hbx : s[j].toNat < 256 := s[j].toNat_lt
        have HV : Hid (byt s j = s[j].toNat) := by show _ = _; unfold byt; congr 1; simp [Array.getD, jlt]; rfl
        have wv : IntKind.u64.wrap (IntKind.u64.wrap (256 * (H : Int)) + (s[j].toNat : Int)) = ((256 * H + byt s j : Nat) : Int) := by
          have := hbnd.out
          rw [HV.out, IntKind.wrap_u64, IntKind.wrap_u64]; omega
        have WV := hidR wv
        clear wv
        go_upto_region 13 with fail
        go_region
        all_goals
          go_wp2
          rw [WV.out]
          refine ⟨⟨j, 256 * H + byt s j, L, (j : Int) - 1, by omega, rfl, rfl, HN.out, HB2.out, HK.out.hi hbW _⟩, by first | (simp [intOf]; done) | (simp [intOf]; omega)⟩
      · skip
        have HN : Hid (fin s j (H, 256 * L + byt s j) = V) := by show _ = _; rw [← HV9.out]; show _ = (if 8 ≤ j then _ else _); rw [if_neg h8]
        have hbnd : Hid (256 * L + 255 < 2 ^ 64) := by
          have := HBN.out.2
          show 256 * L + 255 < 2 ^ 64
          have h9 : 2 ^ (8 * (8 - (j + 1))) ≤ 2 ^ 56 := Nat.pow_le_pow_right (by decide) (by omega)
          rw [show min (j + 1) 8 = j + 1 by omega] at this
          omega
        have HB2 : Hid (H < 2 ^ (8 * (16 - max j 8)) ∧ 256 * L + byt s j < 2 ^ (8 * (8 - min j 8))) := by
          have h1 := HBN.out.1
          have h2 := HBN.out.2
          have hb := byt_lt s j
          rw [show max (j + 1) 8 = 8 by omega] at h1; rw [show min (j + 1) 8 = j + 1 by omega] at h2; rw [show max j 8 = 8 by omega, show min j 8 = j by omega]; refine ⟨h1, ?_⟩; rw [show 8 * (8 - j) = 8 * (8 - (j + 1)) + 8 by omega, Nat.pow_add]; omega
        have i8 : ¬ (8 : Int) ≤ (j : Int) := by omega
        clear HV9 HBN
        have hbx : s[j].toNat < 256 := s[j].toNat_lt
        have HV : Hid (byt s j = s[j].toNat) := by show _ = _; unfold byt; congr 1; simp [Array.getD, jlt]; rfl
        have wv : IntKind.u64.wrap (IntKind.u64.wrap (256 * (L : Int)) + (s[j].toNat : Int)) = ((256 * L + byt s j : Nat) : Int) := by
          have := hbnd.out
          rw [HV.out, IntKind.wrap_u64, IntKind.wrap_u64]; omega
        have WV := hidR wv
        clear wv
        go_upto_region 14 with fail
        go_region
        all_goals
          go_wp2
          rw [WV.out]
          refine ⟨⟨j, H, 256 * L + byt s j, (j : Int) - 1, by omega, rfl, rfl, HN.out, HB2.out, HK.out.lo hbW _⟩, by first | (simp [intOf]; done) | (simp [intOf]; omega)⟩
set_option maxRecDepth 100000 in
set_option maxHeartbeats 8000000 in
theorem rR_elem_in1 (s : ByteArray) (l : Int) (wn : Nat) (hwn : wideI l = (wn : Int)) (h0 : 0 < wn) (h16 : wn ≤ 16) (hs : wn ≤ s.size) (V : Nat × Nat) (hV : lwv s wn = V) (lV : V.1 < 2 ^ 64 ∧ V.2 < 2 ^ 64) (ho : ofB l (V.1 : Int) (V.2 : Int) = true) (W : World) :
    Calls Try.prog 28 #[.agg #[.string s, .int .i64 0], .int .i64 l] W fun r w' => ∃ v, r = .returned (.agg #[.string (s.extract wn s.size), .int .i64 0, v]) ∧ OneE W.heap.size w' v 0 V ∧ Below W.heap.size W w' := by
  have HW := hidR (rwide l)
  rw [hwn] at HW
  have HO := hidR (rof_any l V.1 V.2 lV.1 lV.2)
  rw [ho] at HO
  clear ho
  have n0 : ¬ (wn : Int) = 0 := by omega
  have n1 : ¬ (s.size : Int) < (wn : Int) := by omega
  have n2 : (wn : Int) ≤ 16 := by omega
  have n3 : (1 : Int) ≤ (wn : Int) := by omega
  have n4 : (wn : Int) ≤ (s.size : Int) := by omega
  have HF : Hid (fin s wn (0, 0) = V) := by show _ = _; rw [fin_all, hV]
  clear hV lV hwn
  go_enter Try.func28, Try.ntmps28
  go_upto_region 9 with (go_at_call 43; refine (HW.out _).mono ?_; rintro e w1 ⟨rfl, hb1⟩; have K1 : Hid (w1.cell? ⟨W.heap.size, 0, none⟩ = some (.string s) ∧ R3 w1 (W.heap.size + 1) (.string ⟨#[]⟩) (.int .i64 0) (.slice none 0 0) ∧ Below W.heap.size W w1) := ⟨keepc hb1 (by simp [go_sem]), R3.below ⟨by simp [go_sem], by simp [go_sem], by simp [go_sem], by simp [go_sem], by simp [go_sem], by simp [go_sem]⟩ hb1, (((Below.refl _ _).alloc (Nat.le_refl _) _).alloc (by simp) _).trans (hb1.mono (by simp; omega))⟩; clear hb1; have c0 := K1.out.1; obtain ⟨a0, a1, a2, f0, f1, f2⟩ := K1.out.2.1)
  have KS0 : Hid (Ks W (w1.alloc (Obj.cells #[.int .u64 0, .int .u64 0] 69)) s w1.heap.size 0 0 ∧ W.heap.size + 1 < w1.heap.size) := ⟨⟨keepc ((Below.refl _ _).alloc (Nat.le_refl _) _) K1.out.1, K1.out.2.1.below ((Below.refl _ _).alloc (Nat.le_refl _) _), ⟨⟨by simp [go_sem], by simp [go_sem]⟩, by simp [go_sem], by simp [go_sem]⟩, K1.out.2.2.alloc K1.out.2.2.size _⟩, cell_lt K1.out.2.1.c0⟩
  clear c0 a0 a1 a2 f0 f1 f2 K1
  generalize (w1.alloc (Obj.cells #[.int .u64 0, .int .u64 0] 69)) = w2 at *
  generalize w1.heap.size = b at *
  have hbW := KS0.out.2
  go_wp2_with fail
  go_loopw [7] (fun u wr => ∃ (i H L : Nat) (z : Int), i ≤ wn ∧ Hid (z = (i : Int) - 1) ∧ u = .int .i64 z ∧ Hid (fin s i (H, L) = V) ∧ Hid (H < 2 ^ (8 * (16 - max i 8)) ∧ L < 2 ^ (8 * (8 - min i 8))) ∧ Hid (Ks W wr s b H L)) (fun u _ => (intOf u + 1).toNat)
  case atStart => exact ⟨wn, 0, 0, _, Nat.le_refl _, rfl, rfl, HF.out, ⟨Nat.two_pow_pos _, Nat.two_pow_pos _⟩, KS0.out.1⟩
  case round =>
    obtain ⟨i, H, L, z, hi, HZ, rfl, HV9, HBN, HK⟩ := hrel
    clear KS0
    rcases i with _ | j
    · have hz : z = -1 := by have := HZ.out; omega
      subst hz
      have hV : V = (H, L) := HV9.out.symm
      clear HV9 HF HBN HZ hi
      subst hV
      dsimp only at *
      obtain ⟨⟨x1, x0⟩, t1, t0⟩ := HK.out.x
      go_upto_region 17 with (go_at_call 44; refine (HO.out.go _).mono ?_; rintro e w3 ⟨rfl, hb3⟩; have K3 : Hid (Ks W w3 s b H L) := ⟨keepc hb3 HK.out.c, HK.out.r.below hb3, HK.out.x.below hb3, HK.out.d.trans (hb3.mono HK.out.d.size)⟩; clear hb3 HK x1 x0 t1 t0; obtain ⟨⟨x1, x0⟩, t1, t0⟩ := K3.out.x; have c0 := K3.out.c; obtain ⟨a0, a1, a2, f0, f1, f2⟩ := K3.out.r)
      have BN : Below w3.heap.size w3 (w3.alloc (Obj.cells #[.int .u64 (H : Int), .int .u64 (L : Int)] 69)) := (Below.refl _ _).alloc (Nat.le_refl _) _
      have A := K3.out.r.below BN
      have c0' := keepc BN c0
      have hz : b < w3.heap.size := cell_lt x1
      have K4 := hidR (K3.out.d.trans (BN.mono K3.out.d.size))
      obtain ⟨d0, d1, d2, h0', h1', h2'⟩ := A
      have n5 : (0 : Int) ≤ (wn : Int) := by omega
      clear a0 a1 a2 f0 f1 f2 BN
      go_region
      all_goals
        go_wp2
        refine bodyPost_ret (v := .agg #[.string (s.extract wn s.size), .int .i64 0, .slice (some ⟨w3.heap.size, 0, none⟩) 1 1]) (by simp [results, Try.results28, go_sem, *]) rfl ⟨.slice (some ⟨w3.heap.size, 0, none⟩) 1 1, rfl, .inl ⟨rfl, _, by omega, rfl, ?_⟩, ?_⟩
        · have n6 : ¬ w3.heap.size = W.heap.size + 1 := by omega
          exact ⟨by simp [go_sem, *], by simp [go_sem, *]⟩
        · exact below3 K4.out.drew (Nat.le_succ _) _ _ _
    · have hz : z = (j : Int) := by have := HZ.out; omega
      subst hz
      clear HZ
      have jlt : j < s.size := by omega
      have j1 : (j : Int) < (s.size : Int) := by omega
      have j0 : (0 : Int) ≤ (j : Int) := by omega
      have j9 : (j : Int) ≤ 16 := by omega
      obtain ⟨⟨x1, x0⟩, t1, t0⟩ := HK.out.x
      have c0 := HK.out.c
      by_cases h8 : 8 ≤ j
      · skip
        have HN : Hid (fin s j (256 * H + byt s j, L) = V) := by show _ = _; rw [← HV9.out]; show _ = (if 8 ≤ j then _ else _); rw [if_pos h8]
        have hbnd : Hid (256 * H + 255 < 2 ^ 64) := by
          have := HBN.out.1
          show 256 * H + 255 < 2 ^ 64
          have h9 : 2 ^ (8 * (16 - (j + 1))) ≤ 2 ^ 56 := Nat.pow_le_pow_right (by decide) (by omega)
          rw [show max (j + 1) 8 = j + 1 by omega] at this
          omega
        have HB2 : Hid (256 * H + byt s j < 2 ^ (8 * (16 - max j 8)) ∧ L < 2 ^ (8 * (8 - min j 8))) := by
          have h1 := HBN.out.1
          have h2 := HBN.out.2
          have hb := byt_lt s j
          rw [show max (j + 1) 8 = j + 1 by omega] at h1; rw [show min (j + 1) 8 = 8 by omega] at h2; rw [show max j 8 = j by omega, show min j 8 = 8 by omega]; refine ⟨?_, h2⟩; rw [show 8 * (16 - j) = 8 * (16 - (j + 1)) + 8 by omega, Nat.pow_add]; omega
        have i8 : (8 : Int) ≤ (j : Int) := by omega
        clear HV9 HBN
        have hbx : s[j].toNat < 256 := s[j].toNat_lt
        have HV : Hid (byt s j = s[j].toNat) := by show _ = _; unfold byt; congr 1; simp [Array.getD, jlt]; rfl
        have wv : IntKind.u64.wrap (IntKind.u64.wrap (256 * (H : Int)) + (s[j].toNat : Int)) = ((256 * H + byt s j : Nat) : Int) := by
          have := hbnd.out
          rw [HV.out, IntKind.wrap_u64, IntKind.wrap_u64]; omega
        have WV := hidR wv
        clear wv
        go_upto_region 13 with fail
        go_region
        all_goals
          go_wp2
          rw [WV.out]
          refine ⟨⟨j, 256 * H + byt s j, L, (j : Int) - 1, by omega, rfl, rfl, HN.out, HB2.out, HK.out.hi hbW _⟩, by first | (simp [intOf]; done) | (simp [intOf]; omega)⟩
      · skip
        have HN : Hid (fin s j (H, 256 * L + byt s j) = V) := by show _ = _; rw [← HV9.out]; show _ = (if 8 ≤ j then _ else _); rw [if_neg h8]
        have hbnd : Hid (256 * L + 255 < 2 ^ 64) := by
          have := HBN.out.2
          show 256 * L + 255 < 2 ^ 64
          have h9 : 2 ^ (8 * (8 - (j + 1))) ≤ 2 ^ 56 := Nat.pow_le_pow_right (by decide) (by omega)
          rw [show min (j + 1) 8 = j + 1 by omega] at this
          omega
        have HB2 : Hid (H < 2 ^ (8 * (16 - max j 8)) ∧ 256 * L + byt s j < 2 ^ (8 * (8 - min j 8))) := by
          have h1 := HBN.out.1
          have h2 := HBN.out.2
          have hb := byt_lt s j
          rw [show max (j + 1) 8 = 8 by omega] at h1; rw [show min (j + 1) 8 = j + 1 by omega] at h2; rw [show max j 8 = 8 by omega, show min j 8 = j by omega]; refine ⟨h1, ?_⟩; rw [show 8 * (8 - j) = 8 * (8 - (j + 1)) + 8 by omega, Nat.pow_add]; omega
        have i8 : ¬ (8 : Int) ≤ (j : Int) := by omega
        clear HV9 HBN
        have hbx : s[j].toNat < 256 := s[j].toNat_lt
        have HV : Hid (byt s j = s[j].toNat) := by show _ = _; unfold byt; congr 1; simp [Array.getD, jlt]; rfl
        have wv : IntKind.u64.wrap (IntKind.u64.wrap (256 * (L : Int)) + (s[j].toNat : Int)) = ((256 * L + byt s j : Nat) : Int) := by
          have := hbnd.out
          rw [HV.out, IntKind.wrap_u64, IntKind.wrap_u64]; omega
        have WV := hidR wv
        clear wv
        go_upto_region 14 with fail
        go_region
        all_goals
          go_wp2
          rw [WV.out]
          refine ⟨⟨j, H, 256 * L + byt s j, (j : Int) - 1, by omega, rfl, rfl, HN.out, HB2.out, HK.out.lo hbW _⟩, by first | (simp [intOf]; done) | (simp [intOf]; omega)⟩
end Go.Proofs.Ytccpbpajappckaa
