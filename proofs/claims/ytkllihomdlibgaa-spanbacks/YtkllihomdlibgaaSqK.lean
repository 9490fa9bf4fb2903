/- The contract of the document's Basis over the seat's translation. -/
import Derived.Test.YtkllihomdlibgaaPSqJ
namespace Go.Proofs.Ytkllihomdlibgaa
open Go.RowKit
open Cb Rg Sq

/-- Rows that are the argument's, or of one's own. -/
structure RO (W w : World) (a : Option Addr) (c : Nat) (es : List (Nat × Nat)) : Prop where
  row : ERow w a es
  own : (ERow W a es ∧ ∀ b off, a = some ⟨b, off, none⟩ → 0 < es.length → b < W.heap.size) ∨ w.ownsRow W.heap.size 30 2 (.slice a es.length c) es.length (flat es)
theorem erow_far {w w' : World} {a : Option Addr} {es : List (Nat × Nat)} {ob : Option Nat} (h : ERow w a es) (hg : w.grownBy w' ob) (hne : ∀ g off, a = some ⟨g, off, none⟩ → ob ≠ some g) : ERow w' a es := ⟨fun i hi => by
  obtain ⟨b, off, e, hb, c1, c0⟩ := h.cells i hi
  have hn : some b ≠ ob := fun h => hne b off e h.symm
  exact ⟨b, off, e, Nat.lt_of_lt_of_le hb hg.size, by rw [hg.cell_far ⟨b, off + i * 2, none⟩ hb hn]; exact c1, by rw [hg.cell_far ⟨b, off + i * 2 + 1, none⟩ hb hn]; exact c0⟩⟩
theorem RO.start {W : World} {a : Option Addr} {c : Nat} {es : List (Nat × Nat)} (h : ERow W a es) : RO W W a c es := ⟨h, .inl ⟨h, fun b off e h0 => by
  obtain ⟨b', off', e', hb, _⟩ := h.cells 0 h0
  rw [e] at e'; injection e' with e'; injection e' with e1 _; omega⟩⟩
theorem RO.below {W w w' : World} {a : Option Addr} {c : Nat} {es : List (Nat × Nat)} (h : RO W w a c es) (hb : Below w.heap.size w w') : RO W w' a c es :=
  ⟨h.row.below hb, h.own.elim .inl fun o => .inr (own_below o hb)⟩
theorem RO.mine {W w : World} {base : Nat} {a : Option Addr} {c : Nat} {es : List (Nat × Nat)} (h : w.ownsRow base 30 2 (.slice a es.length c) es.length (flat es)) (hb : W.heap.size ≤ base) : RO W w a c es := by
  obtain ⟨a', c', e, hr⟩ := own_row h
  injection e with e1 _ e3
  subst e1 e3
  exact ⟨hr, .inr (own_base h hb)⟩
theorem RO.grown {W w w' : World} {a : Option Addr} {c : Nat} {es : List (Nat × Nat)} {v : Value} {n : Nat} {xs : List Value} (h : RO W w a c es) (o : w.ownsRow W.heap.size 3 1 v n xs) (hg : w.grownBy w' v.ownBlock) : RO W w' a c es := by
  rcases h.own with ⟨h1, h2⟩ | h1
  · have hne : 0 < es.length → ∀ g off, a = some ⟨g, off, none⟩ → v.ownBlock ≠ some g := fun h0 g off e k => by
      have := h2 g off e h0
      have := (o.lt g k).1
      omega
    by_cases h0 : 0 < es.length
    · exact ⟨erow_far h.row hg (hne h0), .inl ⟨h1, h2⟩⟩
    · exact ⟨⟨fun i hi => by omega⟩, .inl ⟨h1, h2⟩⟩
  · have k : w'.ownsRow W.heap.size 30 2 (.slice a es.length c) es.length (flat es) := own_keep h1 fun g hk => hg.block g (h1.lt g hk).2 fun e => own_unlike h1 o (by decide) g e.symm hk
    exact RO.mine k (Nat.le_refl _)
def oat : Option Nat → Int
  | none => -1
  | some a => (a : Int)
/-- All that the document's Basis holds while it goes on. -/
structure Bs (W w : World) (l : List (Nat × Nat)) (s : List (Nat × Nat) × List Nat) (k : Nat) (a3 : Option Addr) (c3 : Nat) (v4 : Value) : Prop where
  j : J l k s
  done : rbw s k = rbw (l, []) 128
  cnt : s.2.length ≤ 128 - k
  row : RO W w a3 c3 s.1
  tk : w.ownsRow W.heap.size 3 1 v4 s.2.length (ints s.2)
  d : Below W.heap.size W w
theorem Bs.below {W w w' : World} {l : List (Nat × Nat)} {s : List (Nat × Nat) × List Nat} {k : Nat} {a3 : Option Addr} {c3 : Nat} {v4 : Value} (h : Bs W w l s k a3 c3 v4) (hb : Below w.heap.size w w') : Bs W w' l s k a3 c3 v4 := ⟨h.j, h.done, h.cnt, h.row.below hb, own_below h.tk hb, h.d.trans (hb.mono h.d.size)⟩
theorem flat_ent (es : List (Nat × Nat)) (h : es.length = 0) : es = [] := List.eq_nil_of_length_eq_zero h
set_option maxHeartbeats 16000000 in
set_option maxRecDepth 100000 in
theorem rbasis04 (a : Option Addr) (cap : Nat) (l : List (Nat × Nat)) (hl : ltE l) (hn : l.length ≤ 1000) (W : World) (hr : ERow W a l) :
    Calls Try.prog 10 #[.slice a l.length cap] W fun e w' => ∃ a' cap', e = .returned (.slice a' (rb l).length cap') ∧ w'.ownsRow W.heap.size 30 2 (.slice a' (rb l).length cap') (rb l).length (flat (rb l)) ∧ Below W.heap.size W w' := by
  have K0 : Hid (Bs W W l (l, []) 128 a cap (.slice none 0 0)) := ⟨J.start hl, rfl, by simp, RO.start hr, World.ownsRow_nil _ _ _ _, Below.refl _ _⟩
  obtain ⟨i0, hi, hz0, hz1, hz2⟩ := info_relem
  have HI : Hid (Try.prog.info? 30 = some i0 ∧ i0.zero = some (.agg #[.int .u64 0, .int .u64 0]) ∧ i0.size = 2 ∧ i0.bytes = 16) := ⟨hi, hz0, hz1, hz2⟩
  obtain ⟨i1, ji, jz0, jz1, jz2⟩ := info_sint
  have HJ : Hid (Try.prog.info? 3 = some i1 ∧ i1.zero = some (.int .i64 0) ∧ i1.size = 1 ∧ i1.bytes = 8) := ⟨ji, jz0, jz1, jz2⟩
  have HRB : Hid (rb l = (rbw (l, []) 128).2.map (el (rbw (l, []) 128).1)) := by show _ = _; rfl
  generalize rb l = R at *
  obtain ⟨n, hnl⟩ : ∃ n, n = l.length := ⟨_, rfl⟩
  rw [← hnl] at hn ⊢
  have HNL : Hid (n = l.length) := hnl
  clear hi hz0 hz1 hz2 ji jz0 jz1 jz2 hl hr hnl
  go_enter Try.func10, Try.ntmps10
  go_wp2_with fail
  go_loopw [3, 4, 5] (fun r t u wr => ∃ (k : Nat) (c : Int) (s : List (Nat × Nat) × List Nat) (a3 : Option Addr) (c3 : Nat), k ≤ 128 ∧ u = .int .i64 c ∧ c = (k : Int) - 1 ∧ r = .slice a3 n c3 ∧ Hid (Bs W wr l s k a3 c3 t)) (fun _ _ u _ => (intOf u + 1).toNat)
  case atStart => exact ⟨128, 127, (l, []), a, cap, Nat.le_refl _, rfl, rfl, rfl, K0⟩
  case round =>
    obtain ⟨k, c, s, a3, c3, hk, rfl, hc, rfl, HK⟩ := hrel
    clear K0
    obtain ⟨a4, c4, rfl⟩ := own_slc HK.out.tk
    have hcnt := HK.out.cnt
    have HN : Hid (s.1.length = n) := by show _ = _; rw [HK.out.j.len, HNL.out]
    obtain ⟨N4, hN4⟩ : ∃ N4, N4 = s.2.length := ⟨_, rfl⟩
    rw [← hN4] at hcnt ⊢
    have HN4 : Hid (s.2.length = N4) := hN4.symm
    clear hN4
    rcases k with _ | k
    · have e1 : c = -1 := by omega
      have HR : Hid (R = s.2.map (el s.1)) := by
        have := HK.out.done
        rw [rbw_zero] at this
        show _ = _
        rw [HRB.out, ← this]
      have HRL : Hid (R.length = N4) := by show _ = _; rw [HR.out, List.length_map, HN4.out]
      have HT : Hid (IRow wr a4 s.2 ∧ ERow wr a3 s.1 ∧ (∀ j, j < N4 → s.2.getD j 0 < n ∧ el R j = el s.1 (s.2.getD j 0))) := by
        have hh := HK.out.tk
        refine ⟨own_irow (c := c4) (by rw [HN4.out]; rw [HN4.out] at hh; exact hh), HK.out.row.row, fun j hj => ?_⟩
        have hj' : j < s.2.length := by rw [HN4.out]; exact hj
        have e2 : s.2.getD j 0 = s.2[j] := by simp [List.getD, hj']
        rw [e2]
        refine ⟨by rw [HNL.out]; exact HK.out.j.tk _ (List.getElem_mem hj'), ?_⟩
        rw [HR.out]
        simp [el, List.getD, hj']
      have HD := hidT HK.out.d
      clear HK HRB HJ
      have e2 : ¬ (0 : Int) ≤ c := by omega
      clear e1 hc
      go_wp2_with fail
      obtain ⟨wb, hwb⟩ : ∃ wb, wb = wr := ⟨_, rfl⟩
      rw [← hwb] at HT HD
      go_loopw [8, 9] (fun v u wr => ∃ j : Nat, j ≤ N4 ∧ u = .int .i64 j ∧ wr.ownsRow wb.heap.size 30 2 v j (flat (R.take j)) ∧ Below wb.heap.size wb wr) (fun _ u _ => N4 - (intOf u).toNat)
      case atStart => exact ⟨0, Nat.zero_le _, rfl, ⟨by simp [flat], .inl ⟨rfl, rfl⟩⟩, by rw [hwb]; exact Below.refl _ _⟩
      case round =>
        obtain ⟨j, hj, rfl, hown, hbw⟩ := hrel
        by_cases hlt : j < N4
        · obtain ⟨b, off, rfl, hb, c0⟩ := HT.out.1.cells j (by rw [HN4.out]; exact hlt)
          obtain ⟨ht, he⟩ := HT.out.2.2 j hlt
          obtain ⟨b2, off2, rfl, hb2, d1, d0⟩ := HT.out.2.1.cells (s.2.getD j 0) (by rw [HN.out]; exact ht)
          have t0 := keepc hbw c0
          have y1 : wr.cell? ⟨b2, off2 + s.2.getD j 0 * 2, none⟩ = some (.int .u64 ((el R j).1 : Int)) := by rw [he]; exact keepc hbw d1
          have y0 : wr.cell? ⟨b2, off2 + s.2.getD j 0 * 2 + 1, none⟩ = some (.int .u64 ((el R j).2 : Int)) := by rw [he]; exact keepc hbw d0
          have HTK : Hid (R.take (j + 1) = R.take j ++ [el R j]) := take_sn R j (by rw [HRL.out]; exact hlt)
          have HO : Hid (wr.ownsRow wb.heap.size 30 2 u8 j (flat (R.take j)) ∧ Below wb.heap.size wb wr) := ⟨hown, hbw⟩
          have j1 : (j : Int) < (N4 : Int) := by omega
          clear c0 d1 d0 he HT hown hbw hwb
          generalize s.2.getD j 0 = t at *
          generalize el R j = x at *
          have t1 : (t : Int) < (n : Int) := by omega
          go_wp2_with (at_builtin; refine wpList_append_own _ rfl _ _ 27 rfl wb.heap.size 30 i0 (.agg #[.int .u64 0, .int .u64 0]) 2 16 Try.underlying27 HI.out.1 HI.out.2.1 HI.out.2.2.1 HI.out.2.2.2 rfl (by decide) _ _ _ rfl (own_below HO.out.1 (by go_grown)) ⟨wr.heap.size, 0, none⟩ 1 1 [.int .u64 (x.1 : Int), .int .u64 (x.2 : Int)] rfl rfl (fun p u hu => by rcases p with _ | _ | p <;> simp at hu <;> subst hu <;> simp [go_sem]) (by intro u hu; simp at hu; rcases hu with rfl | rfl <;> rfl) (by simp only [maxLen]; omega) (by omega) (by have := HO.out.2.size; simp; omega) ?_; intro v' w' hown' hgr _)
          refine ⟨⟨j + 1, hlt, by simp, ?_, ?_⟩, by simp [intOf]; omega⟩
          · rw [HTK.out, flat_snoc]; exact hown'
          · exact (HO.out.2.alloc HO.out.2.size _).grown hgr (by have := HO.out.2.size; simp; omega) fun k hk => (HO.out.1.lt k hk).1
        · obtain rfl : j = N4 := by omega
          rw [List.take_of_length_le (by rw [HRL.out]; exact Nat.le_refl _)] at hown
          obtain ⟨a', cap', hv⟩ := own_slc hown
          subst hv
          have HE := hidT hown
          have HB := hidT (HD.out.trans (hbw.mono HD.out.size))
          have HB2 := HD.out.size
          clear hown hbw HT
          go_wp2
          go_ret
          exact ⟨a', cap', by rw [HRL.out]; rfl, by rw [HRL.out]; exact own_base HE.out HB2, HB.out⟩
    · obtain rfl : c = (k : Int) := by omega
      clear hc
      have HF : Hid (∀ i, i < n → (∀ w, Below wr.heap.size wr w → Calls Try.prog 35 #[.slice a4 N4 c4, .int .i64 (i : Int)] w fun e w' => e = .returned (.bool (s.2.contains i)) ∧ Below w.heap.size w w') ∧ Ret 19 #[.agg #[.int .u64 ((el s.1 i).1 : Int), .int .u64 ((el s.1 i).2 : Int)], .int .i64 (k : Int)] (.bool (hs (el s.1 i) k))) := fun i hi => by
        have hh := HK.out.tk
        refine ⟨fun w hw => ?_, has_any _ _ _ (ltE_el HK.out.j.lt i).1 (ltE_el HK.out.j.lt i).2 (by omega)⟩
        have := rin04 a4 c4 s.2 i (by rw [HN4.out]; omega) w
        rw [HN4.out] at this
        refine this (IRow.below (own_irow (c := c4) (by rw [HN4.out]; rw [HN4.out] at hh; exact hh)) hw)
      go_wp2_with fail
      obtain ⟨wb, hwb⟩ : ∃ wb, wb = wr := ⟨_, rfl⟩
      rw [← hwb] at HK HF
      go_loopw [6, 7] (fun p u wr => ∃ (i : Nat), i ≤ n ∧ u = .int .i64 i ∧ p = .int .i64 (oat (fat s.1 s.2 k i)) ∧ Below wb.heap.size wb wr) (fun _ u _ => n - (intOf u).toNat)
      case atStart => exact ⟨0, Nat.zero_le _, rfl, rfl, by rw [hwb]; exact Below.refl _ _⟩
      case round =>
        obtain ⟨i, hi, rfl, rfl, hD⟩ := hrel
        clear hwb
        by_cases hlt : i < n
        · obtain ⟨b, off, rfl, hb, c1, c0⟩ := HK.out.row.row.cells i (by rw [HN.out]; exact hlt)
          have x1 : wr.cell? ⟨b, off + i * 2, none⟩ = some (.int .u64 ((el s.1 i).1 : Int)) := keepc hD c1
          have x0 : wr.cell? ⟨b, off + i * 2 + 1, none⟩ = some (.int .u64 ((el s.1 i).2 : Int)) := keepc hD c0
          have HC : Hid (wb.cell? ⟨b, off + i * 2, none⟩ = some (.int .u64 ((el s.1 i).1 : Int)) ∧ wb.cell? ⟨b, off + i * 2 + 1, none⟩ = some (.int .u64 ((el s.1 i).2 : Int))) := ⟨c1, c0⟩
          have HS : Hid (fat s.1 s.2 k (i + 1) = match fat s.1 s.2 k i with
            | some a => some a
            | none => if (hs (el s.1 i) k && !s.2.contains i) = true then some i else none) := by show _ = _; rfl
          have HD := hidT hD
          have HI1 := hidT (HF.out i hlt).1
          have HI2 := hidT (HF.out i hlt).2
          have i1 : (i : Int) < (n : Int) := by omega
          clear c1 c0 hD HF HK HRB
          rcases hf : fat s.1 s.2 k i with _ | A
          · rw [show oat none = -1 from rfl]
            have HS2 : Hid (fat s.1 s.2 k (i + 1) = if (hs (el s.1 i) k && !s.2.contains i) = true then some i else none) := by show _ = _; rw [HS.out, hf]
            clear HS hf
            generalize hs (el s.1 i) k = bb at *
            generalize el s.1 i = x at *
            cases bb
            · go_wp2_with (go_at_call 19; refine (HI2.out.go _).mono ?_; rintro e w4 ⟨rfl, hb4⟩; have D4 := hidT (HD.out.trans (hb4.mono HD.out.size)); clear hb4 HD x1 x0)
              exact ⟨⟨i + 1, hlt, by simp, by rw [HS2.out]; rfl, D4.out⟩, by simp [intOf]; omega⟩
            · generalize s.2.contains i = cc at *
              cases cc
              · go_wp2_with (first
                  | (go_at_call 19; refine (HI2.out.go _).mono ?_; rintro e w4 ⟨rfl, hb4⟩; have D4 := hidT (HD.out.trans (hb4.mono HD.out.size)); clear hb4 HD x1 x0)
                  | (go_at_call 35; refine (HI1.out _ D4.out).mono ?_; rintro e w5 ⟨rfl, hb5⟩; have D5 := hidT (D4.out.trans (hb5.mono D4.out.size)); clear hb5 D4))
                exact ⟨⟨i + 1, hlt, by simp, by rw [HS2.out]; rfl, D5.out⟩, by simp [intOf]; omega⟩
              · go_wp2_with (first
                  | (go_at_call 19; refine (HI2.out.go _).mono ?_; rintro e w4 ⟨rfl, hb4⟩; have D4 := hidT (HD.out.trans (hb4.mono HD.out.size)); clear hb4 HD x1 x0)
                  | (go_at_call 35; refine (HI1.out _ D4.out).mono ?_; rintro e w5 ⟨rfl, hb5⟩; have D5 := hidT (D4.out.trans (hb5.mono D4.out.size)); clear hb5 D4))
                exact ⟨⟨i + 1, hlt, by simp, by rw [HS2.out]; rfl, D5.out⟩, by simp [intOf]; omega⟩
          · rw [show oat (some A) = (A : Int) from rfl]
            have HS2 : Hid (fat s.1 s.2 k (i + 1) = some A) := by show _ = _; rw [HS.out, hf]
            have A0 : ¬ (A : Int) < 0 := by omega
            clear HS hf HI1 HI2 x1 x0
            go_wp2_with fail
            exact ⟨⟨i + 1, hlt, by simp, by rw [HS2.out]; rfl, HD.out⟩, by simp [intOf]; omega⟩
        · obtain rfl : i = n := by omega
          have K1 := hidT (HK.out.below hD)
          have HST : Hid (rst1 k s = match fat s.1 s.2 k i with
            | some a => (clr s.1 a k, s.2 ++ [a])
            | none => s) := by
            show _ = _
            unfold rst1
            rw [HN.out]
            rfl
          have HJS := hidT K1.out.j.step
          have HDN : Hid (rbw (rst1 k s) k = rbw (l, []) 128) := by show _ = _; rw [← rbw_succ]; exact K1.out.done
          have HCL : Hid (∀ A, fat s.1 s.2 k i = some A → A < i) := fun A e => (fat_some e).1
          have HRC : Hid (∀ A, A < i → Calls Try.prog 36 #[.slice a3 i c3, .int .i64 (A : Int), .int .i64 (k : Int)] wr fun e w' => ∃ a' cap', e = .returned (.slice a' i cap') ∧ w'.ownsRow wr.heap.size 30 2 (.slice a' i cap') i (flat (clr s.1 A k)) ∧ Below wr.heap.size wr w') := fun A hA => by
            have := rclear04 a3 c3 A k s.1 K1.out.j.lt (by rw [HN.out]; exact hn) (by rw [HN.out]; exact hA) (by omega) wr K1.out.row.row
            rw [HN.out] at this
            exact this
          clear hD HK HF
          rcases hf : fat s.1 s.2 k i with _ | A
          · rw [show oat none = -1 from rfl]
            have HS2 : Hid (rst1 k s = s) := by show _ = _; rw [HST.out, hf]
            clear HST hf HCL HRC
            go_wp2_with fail
            refine ⟨⟨k, (k : Int) - 1, s, a3, c3, by omega, by rfl, rfl, rfl, ?_⟩, by simp only [intOf]; omega⟩
            have j2 := HJS.out
            have d2 := HDN.out
            rw [HS2.out] at j2 d2
            exact ⟨j2, d2, by have := K1.out.cnt; omega, K1.out.row, (by have := K1.out.tk; rw [HN4.out] at this; rw [HN4.out]; exact this), K1.out.d⟩
          · rw [show oat (some A) = (A : Int) from rfl]
            have HS2 : Hid (rst1 k s = (clr s.1 A k, s.2 ++ [A])) := by show _ = _; rw [HST.out, hf]
            have hA := HCL.out A hf
            have HR1 := hidT (HRC.out A hA)
            have A0 : ¬ (A : Int) < 0 := by omega
            have A1 : (0 : Int) ≤ (A : Int) := by omega
            have hcl := clr_len s.1 A k
            rw [HN.out] at hcl
            have HCL2 : Hid ((clr s.1 A k).length = i) := hcl
            have HTK : Hid (wr.ownsRow W.heap.size 3 1 (.slice a4 N4 c4) N4 (ints s.2)) := by
              have := K1.out.tk
              rw [HN4.out] at this; exact this
            have HDW := hidT K1.out.d
            have hWs := K1.out.d.size
            clear HST hf HCL HRC hcl
            go_wp2_with (first
              | (go_at_call 36; refine HR1.out.mono ?_; rintro e w4 ⟨a5, c5, rfl, o5, hb4⟩; have O5 : Hid (RO W w4 a5 c5 (clr s.1 A k)) := RO.mine (base := wr.heap.size) (by rw [HCL2.out]; exact o5) hWs; have T4 := hidT (own_below HTK.out hb4); have D4 := hidT (HDW.out.trans (hb4.mono hWs)); clear o5 hb4)
              | (at_builtin; refine wpList_append_own _ rfl _ _ 65 rfl W.heap.size 3 i1 (.int .i64 0) 1 8 Try.underlying65 HJ.out.1 HJ.out.2.1 HJ.out.2.2.1 HJ.out.2.2.2 rfl (by decide) _ _ _ rfl (own_below T4.out ((Below.refl _ _).alloc (Nat.le_refl _) _)) ⟨w4.heap.size, 0, none⟩ 1 1 [.int .i64 (A : Int)] rfl rfl (fun p u hu => by rcases p with _ | p <;> simp at hu <;> subst hu <;> simp [go_sem]) (by intro u hu; simp at hu; subst hu; rfl) (by simp only [maxLen]; omega) (by omega) (by have := D4.out.size; simp; omega) ?_; intro v' w' hown' hgr _; have BA : Below w4.heap.size w4 (w4.alloc (Obj.cells #[.int .i64 (A : Int)] 3)) := (Below.refl _ _).alloc (Nat.le_refl _) _; have O6 := hidT ((O5.out.below BA).grown (own_below T4.out BA) hgr); have D6 := hidT ((D4.out.trans (BA.mono D4.out.size)).grown hgr (by have := D4.out.size; simp; omega) fun k hk => (T4.out.lt k hk).1); have T6 := hidT hown'; clear hgr hown' BA O5 D4))
            refine ⟨⟨k, (k : Int) - 1, (clr s.1 A k, s.2 ++ [A]), a5, c5, by omega, by rfl, rfl, rfl, ?_⟩, by simp only [intOf]; omega⟩
            have j2 := HJS.out
            have d2 := HDN.out
            rw [HS2.out] at j2 d2
            refine ⟨j2, d2, by simp [HN4.out]; omega, O6.out, ?_, D6.out⟩
            have := T6.out
            simpa [ints, HN4.out] using this
end Go.Proofs.Ytkllihomdlibgaa
