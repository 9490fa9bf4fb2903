/- The contract of (*octet.Reader).Elem over the seat's translation. -/
import Derived.Test.YtghapohempogkaaOrC
namespace Go.Proofs.Ytghapohempogkaa
open Go.RowKit

theorem Step.put {b q o : Nat} {s : ByteArray} {e : Int} {W w : World} (h : Step b s e W w) (hq : W.heap.size ≤ q) (hb : b < W.heap.size) (v : Value) : Step b s e W (w.setCell ⟨q, o, none⟩ v) := by
  have hh := h.here
  refine ⟨h.os, h.tape, h.output, by simpa [World.setCell] using h.size, fun k hk hkb => ?_, ?_⟩
  · have hne : ¬ q = k := by omega
    rw [← h.rest k hk hkb]
    simp [World.setCell, Array.getElem?_modify, hne]
  · have hne : ¬ q = b := by omega
    unfold Rd at hh ⊢
    rw [← hh]
    simp [World.setCell, Array.getElem?_modify, hne]
theorem Ew.step {b q h l : Nat} {s : ByteArray} {e : Int} {w w' : World} (x : Ew w q h l) (hn : q ≠ b) (k : Step b s e w w') : Ew w' q h l := by
  have hq := x.toEl.lt
  have e0 := k.rest q hq hn
  obtain ⟨⟨h1, h0⟩, f1, f0⟩ := x
  refine ⟨⟨?_, ?_⟩, ?_, ?_⟩
  · rw [← h1]; simp [World.cell?, e0]
  · rw [← h0]; simp [World.cell?, e0]
  · rw [← f1]; simp [World.frozen?, e0]
  · rw [← f0]; simp [World.frozen?, e0]
theorem lwv_lt (s : ByteArray) (n : Nat) (h : n ≤ 16) : (lwv s n).1 < 2 ^ 64 ∧ (lwv s n).2 < 2 ^ 64 := by
  by_cases h8 : n ≤ 8
  · have := lwv_lo s n h8
    exact ⟨by rw [this.1]; decide, Nat.lt_of_lt_of_le this.2 (Nat.pow_le_pow_right (by decide) (by omega))⟩
  · obtain ⟨i, rfl⟩ : ∃ i, n = 8 + i := ⟨n - 8, by omega⟩
    have := lwv_hi s i (by omega)
    exact ⟨Nat.lt_of_lt_of_le this.1 (Nat.pow_le_pow_right (by decide) (by omega)), this.2⟩
theorem wide_nat2 (l : Int) : ∃ n : Nat, wideI l = (n : Int) ∧ n ≤ 16 := ⟨(wideI l).toNat, by unfold wideI; split <;> (try split) <;> (try split) <;> (try split) <;> (try split) <;> decide, by unfold wideI; split <;> (try split) <;> (try split) <;> (try split) <;> (try split) <;> decide⟩
/-- What 'Elem' makes of a reader: what is left, the error, the element. -/
def rdElem (s : ByteArray) (e l : Int) : ByteArray × Int × (Nat × Nat) :=
  if (rdHas s e l).2.2 = true then
    (if (s.size : Int) < wideI l then (⟨#[]⟩, 11, (0, 0))
     else if ofB l ((lwv (s.extract 0 (wideI l).toNat) (wideI l).toNat).1 : Int) ((lwv (s.extract 0 (wideI l).toNat) (wideI l).toNat).2 : Int) = true then (s.extract (wideI l).toNat s.size, 0, lwv (s.extract 0 (wideI l).toNat) (wideI l).toNat)
     else (⟨#[]⟩, 5, (0, 0)))
  else ((rdHas s e l).1, (rdHas s e l).2.1, (0, 0))
set_option maxHeartbeats 4000000 in
set_option maxRecDepth 100000 in
theorem rd_elem (b : Nat) (s : ByteArray) (e l : Int) (W : World) (h : Rd b s e W) : Calls Try.prog 47 #[.pointer (some ⟨b, 0, none⟩), .int .i64 l] W fun r w' => r = .returned (.agg #[.int .u64 ((rdElem s e l).2.2.1 : Int), .int .u64 ((rdElem s e l).2.2.2 : Int)]) ∧ Step b (rdElem s e l).1 (rdElem s e l).2.1 W w' := by
  have hbW := h.lt
  have S0 : Hid (Step b s e W (W.alloc (Obj.cells #[.int .u64 0, .int .u64 0] 65)) ∧ Ew (W.alloc (Obj.cells #[.int .u64 0, .int .u64 0] 65)) W.heap.size 0 0) := ⟨(Step.refl h).alloc _, ⟨⟨by simp [go_sem], by simp [go_sem]⟩, by simp [go_sem], by simp [go_sem]⟩⟩
  have H1 := hidR (fun (v : World) (hv : Rd b s e v) => rd_has b s e l v hv)
  have hne : W.heap.size ≠ b := by omega
  by_cases hh : (rdHas s e l).2.2 = true
  · have h0 : e = 0 := by
      unfold rdHas at hh
      by_cases h0 : e = 0
      · exact h0
      · rw [if_neg h0] at hh; cases hh
    subst h0
    have hlv : levelB l = true := by
      unfold rdHas at hh
      rw [if_pos rfl] at hh
      by_cases h0 : levelB l = true
      · exact h0
      · rw [if_neg h0] at hh; cases hh
    have hhs : rdHas s 0 l = (s, 0, true) := by unfold rdHas; rw [if_pos rfl, if_pos hlv]
    obtain ⟨wn, hwn, hw16⟩ := wide_nat2 l
    have HW := hidR (fun v => wide_any l v)
    rw [hwn] at HW
    have HE : Hid (rdElem s 0 l = if (s.size : Int) < (wn : Int) then (⟨#[]⟩, 11, (0, 0)) else if ofB l ((lwv (s.extract 0 wn) wn).1 : Int) ((lwv (s.extract 0 wn) wn).2 : Int) = true then (s.extract wn s.size, 0, lwv (s.extract 0 wn) wn) else (⟨#[]⟩, 5, (0, 0))) := by
      show _ = _
      unfold rdElem
      rw [if_pos hh, hwn, Int.toNat_natCast]
    rw [hhs] at H1
    dsimp only at H1
    have H2 := hidR (fun (v : World) (hv : Rd b s 0 v) => rd_take b s 0 (wn : Int) (by omega) v hv)
    generalize rdElem s 0 l = R at *
    clear hh hhs hlv h
    by_cases hs : (s.size : Int) < (wn : Int)
    · rw [if_pos hs] at HE
      have ht : rdTake s 0 (wn : Int) = (⟨#[]⟩, 11, ⟨#[]⟩, false) := by unfold rdTake; rw [if_pos rfl, if_pos hs]
      rw [ht] at H2
      dsimp only at H2
      clear ht hs hwn
      go_enter Try.func47, Try.ntmps47
      go_wp2_with (first
        | (go_at_call 46; refine (H1.out _ S0.out.1.here).mono ?_; rintro r w1 ⟨rfl, st1⟩; have S1 : Hid (Step b s 0 W w1 ∧ Ew w1 W.heap.size 0 0) := ⟨S0.out.1.trans st1, S0.out.2.step hne st1⟩; clear st1 S0)
        | (go_at_call 39; refine (HW.out _).mono ?_; rintro r w2 ⟨rfl, rfl⟩)
        | (go_at_call 44; refine (H2.out _ S1.out.1.here).mono ?_; rintro r w3 ⟨rfl, st3⟩; have S3 : Hid (Step b ⟨#[]⟩ 11 W w3 ∧ Ew w3 W.heap.size 0 0) := ⟨S1.out.1.trans st3, S1.out.2.step hne st3⟩; clear st3 S1; obtain ⟨⟨r1, r0⟩, f1, f0⟩ := S3.out.2))
      refine bodyPost_ret (v := .agg #[.int .u64 ((0 : Nat) : Int), .int .u64 ((0 : Nat) : Int)]) (by simp [results, Try.results47, go_sem, *]) rfl ⟨by rw [HE.out], by rw [HE.out]; exact (S3.out.1.put (Nat.le_refl _) hbW _).put (Nat.le_refl _) hbW _⟩
    · rw [if_neg hs] at HE
      have ht : rdTake s 0 (wn : Int) = (s.extract wn s.size, 0, s.extract 0 wn, true) := by unfold rdTake; rw [if_pos rfl, if_neg hs, Int.toNat_natCast]
      rw [ht] at H2
      dsimp only at H2
      have hsz : (s.extract 0 wn).size = wn := by rw [ByteArray.size_extract]; omega
      have H3 := hidR (fun v => low_first (s.extract 0 wn) (by omega) v)
      rw [hsz] at H3
      obtain ⟨hv1, hv2⟩ := lwv_lt (s.extract 0 wn) wn hw16
      generalize lwv (s.extract 0 wn) wn = v at *
      have H4 := hidR (fun u => of_any l (v.1 : Int) (v.2 : Int) (by omega) (by omega) u)
      clear ht hs hwn hsz hv1 hv2
      by_cases hof : ofB l (v.1 : Int) (v.2 : Int) = true
      · rw [if_pos hof] at HE
        rw [hof] at H4
        clear hof
        go_enter Try.func47, Try.ntmps47
        go_wp2_with (first
          | (go_at_call 46; refine (H1.out _ S0.out.1.here).mono ?_; rintro r w1 ⟨rfl, st1⟩; have S1 : Hid (Step b s 0 W w1 ∧ Ew w1 W.heap.size 0 0) := ⟨S0.out.1.trans st1, S0.out.2.step hne st1⟩; clear st1 S0)
          | (go_at_call 39; refine (HW.out _).mono ?_; rintro r w2 ⟨rfl, rfl⟩)
          | (go_at_call 44; refine (H2.out _ S1.out.1.here).mono ?_; rintro r w3 ⟨rfl, st3⟩; have S3 : Hid (Step b (s.extract wn s.size) 0 W w3 ∧ Ew w3 W.heap.size 0 0) := ⟨S1.out.1.trans st3, S1.out.2.step hne st3⟩; clear st3 S1)
          | (go_at_call 51; refine (H3.out _).mono ?_; rintro r w4 ⟨rfl, hb4⟩; have S4 : Hid (Step b (s.extract wn s.size) 0 W (w4.alloc (Obj.cells #[.int .u64 (v.1 : Int), .int .u64 (v.2 : Int)] 65)) ∧ Ew (w4.alloc (Obj.cells #[.int .u64 (v.1 : Int), .int .u64 (v.2 : Int)] 65)) W.heap.size 0 0 ∧ El (w4.alloc (Obj.cells #[.int .u64 (v.1 : Int), .int .u64 (v.2 : Int)] 65)) w4.heap.size v.1 v.2 ∧ W.heap.size < w4.heap.size) := ⟨(S3.out.1.below hb4).alloc _, (S3.out.2.below hb4).alloc _, ⟨by simp [go_sem], by simp [go_sem]⟩, (S3.out.2.below hb4).toEl.lt⟩; clear hb4 S3; obtain ⟨x1, x0⟩ := S4.out.2.2.1)
          | (go_at_call 41; refine (H4.out _).mono ?_; rintro r w5 ⟨rfl, hb5⟩; have S5 : Hid (Step b (s.extract wn s.size) 0 W w5 ∧ Ew w5 W.heap.size 0 0 ∧ El w5 w4.heap.size v.1 v.2) := ⟨S4.out.1.below hb5, S4.out.2.1.below hb5, S4.out.2.2.1.below hb5⟩; clear hb5 S4 x1 x0; obtain ⟨⟨r1, r0⟩, f1, f0⟩ := S5.out.2.1; obtain ⟨x1, x0⟩ := S5.out.2.2))
        refine bodyPost_ret (v := .agg #[.int .u64 (v.1 : Int), .int .u64 (v.2 : Int)]) (by simp [results, Try.results47, go_sem, *]) rfl ⟨by rw [HE.out], by rw [HE.out]; exact (S5.out.1.put (Nat.le_refl _) hbW _).put (Nat.le_refl _) hbW _⟩
      · rw [if_neg hof] at HE
        rw [Bool.eq_false_iff.2 hof] at H4
        have H5 := hidR (fun (u : World) (hu : Rd b (s.extract wn s.size) 0 u) => rd_fail b (s.extract wn s.size) 0 5 u hu)
        clear hof
        go_enter Try.func47, Try.ntmps47
        go_wp2_with (first
          | (go_at_call 46; refine (H1.out _ S0.out.1.here).mono ?_; rintro r w1 ⟨rfl, st1⟩; have S1 : Hid (Step b s 0 W w1 ∧ Ew w1 W.heap.size 0 0) := ⟨S0.out.1.trans st1, S0.out.2.step hne st1⟩; clear st1 S0)
          | (go_at_call 39; refine (HW.out _).mono ?_; rintro r w2 ⟨rfl, rfl⟩)
          | (go_at_call 44; refine (H2.out _ S1.out.1.here).mono ?_; rintro r w3 ⟨rfl, st3⟩; have S3 : Hid (Step b (s.extract wn s.size) 0 W w3 ∧ Ew w3 W.heap.size 0 0) := ⟨S1.out.1.trans st3, S1.out.2.step hne st3⟩; clear st3 S1)
          | (go_at_call 51; refine (H3.out _).mono ?_; rintro r w4 ⟨rfl, hb4⟩; have S4 : Hid (Step b (s.extract wn s.size) 0 W (w4.alloc (Obj.cells #[.int .u64 (v.1 : Int), .int .u64 (v.2 : Int)] 65)) ∧ Ew (w4.alloc (Obj.cells #[.int .u64 (v.1 : Int), .int .u64 (v.2 : Int)] 65)) W.heap.size 0 0 ∧ El (w4.alloc (Obj.cells #[.int .u64 (v.1 : Int), .int .u64 (v.2 : Int)] 65)) w4.heap.size v.1 v.2 ∧ W.heap.size < w4.heap.size) := ⟨(S3.out.1.below hb4).alloc _, (S3.out.2.below hb4).alloc _, ⟨by simp [go_sem], by simp [go_sem]⟩, (S3.out.2.below hb4).toEl.lt⟩; clear hb4 S3; obtain ⟨x1, x0⟩ := S4.out.2.2.1)
          | (go_at_call 41; refine (H4.out _).mono ?_; rintro r w5 ⟨rfl, hb5⟩; have S5 : Hid (Step b (s.extract wn s.size) 0 W w5 ∧ Ew w5 W.heap.size 0 0 ∧ El w5 w4.heap.size v.1 v.2) := ⟨S4.out.1.below hb5, S4.out.2.1.below hb5, S4.out.2.2.1.below hb5⟩; clear hb5 S4 x1 x0; obtain ⟨⟨r1, r0⟩, f1, f0⟩ := S5.out.2.1; obtain ⟨x1, x0⟩ := S5.out.2.2)
          | (go_at_call 45; refine (H5.out _ S5.out.1.here).mono ?_; rintro r w6 ⟨rfl, st6⟩; have S6 : Hid (Step b ⟨#[]⟩ 5 W w6 ∧ Ew w6 W.heap.size 0 0) := ⟨S5.out.1.trans st6, S5.out.2.1.step hne st6⟩; clear st6 S5 r1 r0 f1 f0 x1 x0; obtain ⟨⟨r1, r0⟩, f1, f0⟩ := S6.out.2))
        refine bodyPost_ret (v := .agg #[.int .u64 ((0 : Nat) : Int), .int .u64 ((0 : Nat) : Int)]) (by simp [results, Try.results47, go_sem, *]) rfl ⟨by rw [HE.out], by rw [HE.out]; exact (S6.out.1.put (Nat.le_refl _) hbW _).put (Nat.le_refl _) hbW _⟩
  · have HE : Hid (rdElem s e l = ((rdHas s e l).1, (rdHas s e l).2.1, (0, 0))) := by show _ = _; unfold rdElem; rw [if_neg hh]
    have hf : (rdHas s e l).2.2 = false := by simpa using hh
    generalize rdElem s e l = R at *
    generalize rdHas s e l = q at *
    obtain ⟨q1, q2, q3⟩ := q
    dsimp only at *
    subst hf
    clear hh h
    go_enter Try.func47, Try.ntmps47
    go_wp2_with (go_at_call 46; refine (H1.out _ S0.out.1.here).mono ?_; rintro r w1 ⟨rfl, st1⟩; have S1 : Hid (Step b q1 q2 W w1 ∧ Ew w1 W.heap.size 0 0) := ⟨S0.out.1.trans st1, S0.out.2.step hne st1⟩; clear st1 S0; obtain ⟨⟨r1, r0⟩, f1, f0⟩ := S1.out.2)
    refine bodyPost_ret (v := .agg #[.int .u64 ((0 : Nat) : Int), .int .u64 ((0 : Nat) : Int)]) (by simp [results, Try.results47, go_sem, *]) rfl ⟨by rw [HE.out], by rw [HE.out]; exact (S1.out.1.put (Nat.le_refl _) hbW _).put (Nat.le_refl _) hbW _⟩
end Go.Proofs.Ytghapohempogkaa
