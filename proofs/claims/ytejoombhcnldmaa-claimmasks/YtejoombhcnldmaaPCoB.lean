/- The contract of steeplelaw01.Same over the seat's translation: the same elements. -/
import Derived.Test.YtejoombhcnldmaaPSlA
import Derived.Test.YtejoombhcnldmaaPCnC
namespace Go.Proofs.Ytejoombhcnldmaa
open Go.RowKit

set_option maxHeartbeats 1000000 in
theorem same_rows (a1 a2 : Option Addr) (cap1 cap2 : Nat) (es : List (Nat × Nat)) (hn : es.length ≤ 100000) (W : World) (h1 : ERow W a1 es) (h2 : ERow W a2 es) :
    Calls Try.prog 21 #[.slice a1 es.length cap1, .slice a2 es.length cap2] W fun e w' => e = .returned (.bool true) ∧ Below W.heap.size W w' := by
  have H1 : Hid (ERow W a1 es) := h1
  have H2 : Hid (ERow W a2 es) := h2
  clear h1 h2
  go_enter Try.func21, Try.ntmps21
  go_wp2_with fail
  go_loopw [5] (fun u wr => ∃ j : Nat, j ≤ es.length ∧ u = .int .i64 j ∧ Below W.heap.size W wr) (fun u _ => es.length - (intOf u).toNat)
  case atStart => exact ⟨0, Nat.zero_le _, rfl, Below.refl _ _⟩
  case round =>
    obtain ⟨j, hj, rfl, hD⟩ := hrel
    have HD : Hid (Below W.heap.size W wr) := hD
    by_cases hlt : j < es.length
    · obtain ⟨b, off, rfl, hb, c1, c0⟩ := H1.out.cells j hlt
      obtain ⟨b', off', rfl, hb', c1', c0'⟩ := H2.out.cells j hlt
      have d1 := keepc hD c1
      have d0 := keepc hD c0
      have d1' := keepc hD c1'
      have d0' := keepc hD c0'
      clear c1 c0 c1' c0' hD
      generalize es.getD j (0, 0) = x at *
      go_wp2_with fail
      go_region_held3 (fun w => w.cell? ⟨b, off + j * 2, none⟩ = some (.int .u64 (x.1 : Nat)) ∧ w.cell? ⟨b, off + j * 2 + 1, none⟩ = some (.int .u64 (x.2 : Nat)) ∧ w.cell? ⟨b', off' + j * 2, none⟩ = some (.int .u64 (x.1 : Nat)) ∧ w.cell? ⟨b', off' + j * 2 + 1, none⟩ = some (.int .u64 (x.2 : Nat))) (go_keep) (fail)
      go_wp2
      exact ⟨⟨j + 1, hlt, by simp, HD.out.drew⟩, by simp [intOf]; omega⟩
    · obtain rfl : j = es.length := by omega
      clear hD
      go_wp2
      go_ret
      exact ⟨rfl, HD.out⟩
end Go.Proofs.Ytejoombhcnldmaa

/- The contract of steepleref22.Mask over the seat's translation. -/
namespace Go.Proofs.Ytejoombhcnldmaa
open Go.RowKit
open Cb
open Tw (pm)

/-- The row that grows, and two elements in their boxes. -/
structure Pm (W w : World) (s : Value) (j : Nat) (L : List (Nat × Nat)) (q r : Nat) (e f : Nat × Nat) : Prop where
  own : w.ownsRow W.heap.size 34 2 s j (flat L)
  e : Ew w q e.1 e.2
  f : Ew w r f.1 f.2
  n : s.ownBlock ≠ some q
  m : s.ownBlock ≠ some r
  lo : W.heap.size ≤ q
  hi : q < r
  d : Below W.heap.size W w
theorem Pm.below {W w w' : World} {s : Value} {j : Nat} {L : List (Nat × Nat)} {q r : Nat} {e f : Nat × Nat} (h : Pm W w s j L q r e f) (hb : Below w.heap.size w w') : Pm W w' s j L q r e f := ⟨own_below h.own hb, h.e.below hb, h.f.below hb, h.n, h.m, h.lo, h.hi, h.d.trans (hb.mono h.d.size)⟩
theorem Pm.drew {W w : World} {s : Value} {j : Nat} {L : List (Nat × Nat)} {q r : Nat} {e f : Nat × Nat} (h : Pm W w s j L q r e f) : Pm W w.drew s j L q r e f := h.below (Below.refl _ _).drew
theorem Pm.put1 {W w : World} {s : Value} {j : Nat} {L : List (Nat × Nat)} {q r : Nat} {e f : Nat × Nat} (h : Pm W w s j L q r e f) (t : Nat × Nat) : Pm W ((w.setCell ⟨q, 0, none⟩ (.int .u64 (t.1 : Int))).setCell ⟨q, 1, none⟩ (.int .u64 (t.2 : Int))) s j L q r t f :=
  ⟨own_offT h.own h.n _ _, h.e.set _ _, h.f.other (fun x => absurd h.hi (by omega)) _ _, h.n, h.m, h.lo, h.hi, below2 (p := q) h.d h.lo _ _⟩
theorem Pm.put2 {W w : World} {s : Value} {j : Nat} {L : List (Nat × Nat)} {q r : Nat} {e f : Nat × Nat} (h : Pm W w s j L q r e f) (t : Nat × Nat) : Pm W ((w.setCell ⟨r, 0, none⟩ (.int .u64 (t.1 : Int))).setCell ⟨r, 1, none⟩ (.int .u64 (t.2 : Int))) s j L q r e t :=
  ⟨own_offT h.own h.m _ _, h.e.other (fun x => absurd h.hi (by omega)) _ _, h.f.set _ _, h.n, h.m, h.lo, h.hi, below2 (p := r) h.d (Nat.le_of_lt (Nat.lt_of_le_of_lt h.lo h.hi)) _ _⟩
theorem Ew.roomP (w : World) (x : Nat × Nat) (T : TypeId) : Ew (w.alloc (Obj.cells #[.int .u64 (x.1 : Int), .int .u64 (x.2 : Int)] T)) w.heap.size x.1 x.2 := ⟨⟨by simp [go_sem], by simp [go_sem]⟩, by simp [go_sem], by simp [go_sem]⟩
theorem Pm.new {W w : World} {s : Value} {j : Nat} {L : List (Nat × Nat)} (h : w.ownsRow W.heap.size 34 2 s j (flat L)) (d : Below W.heap.size W w) (T : TypeId) : Pm W ((w.alloc (Obj.cells #[.int .u64 0, .int .u64 0] T)).alloc (Obj.cells #[.int .u64 0, .int .u64 1] T)) s j L w.heap.size (w.heap.size + 1) (0, 0) (0, 1) := by
  have hb : Below w.heap.size w ((w.alloc (Obj.cells #[.int .u64 0, .int .u64 0] T)).alloc (Obj.cells #[.int .u64 0, .int .u64 1] T)) := ((Below.refl _ _).alloc (Nat.le_refl _) _).alloc (by simp) _
  have h2 := Ew.roomP (w.alloc (Obj.cells #[.int .u64 0, .int .u64 0] T)) (0, 1) T
  have h3 : (w.alloc (Obj.cells #[.int .u64 0, .int .u64 0] T)).heap.size = w.heap.size + 1 := by simp
  rw [h3] at h2
  exact ⟨own_below h hb, (Ew.roomR w T).below ((Below.refl _ _).alloc (Nat.le_refl _) _), h2, fun e => Nat.lt_irrefl _ (h.lt _ e).2, fun e => Nat.not_lt_of_le (Nat.le_succ _) (h.lt _ e).2, d.size, Nat.lt_succ_self _, d.trans (hb.mono d.size)⟩
/-- One claim more, at one place of the mask. -/
theorem mkI_step {n : Nat} (z : List (Nat × Nat)) (b : Nat × Nat) (cl : List Stp) (i k y : Nat) (hy : y < n) (h0 : 0 ≤ (cl.getD i zst).k) :
    mkI n z b cl (i + 1) (k * n + y) = if (cl.getD i zst).k = (k : Int) then xa (mkI n z b cl i (k * n + y)) (pm (bpow b i) (sgn (cl.getD i zst).a z (cl.getD i zst).b.toNat y)) else mkI n z b cl i (k * n + y) := by
  show adv (mkI n z b cl i) ((cl.getD i zst).k.toNat * n) (bpow b i) (crw n z (cl.getD i zst)) n (k * n + y) = _
  obtain ⟨c, hc⟩ : ∃ c : Nat, (cl.getD i zst).k = (c : Int) := ⟨(cl.getD i zst).k.toNat, by omega⟩
  unfold adv
  rw [hc, Int.toNat_natCast]
  by_cases h : c = k
  · subst h
    rw [if_pos ⟨Nat.le_add_right _ _, by omega⟩, if_pos rfl, Nat.add_sub_cancel_left, crw_at n z _ hy]
  · rw [if_neg (show ¬ (c : Int) = (k : Int) by omega), if_neg]
    rintro ⟨h1, h2⟩
    rcases Nat.lt_or_gt_of_ne h with h3 | h3
    · have h4 := Nat.mul_le_mul_right n (show c + 1 ≤ k by omega)
      rw [Nat.add_mul, Nat.one_mul] at h4
      omega
    · have h4 := Nat.mul_le_mul_right n (show k + 1 ≤ c by omega)
      rw [Nat.add_mul, Nat.one_mul] at h4
      omega
set_option maxHeartbeats 40000000 in
set_option maxRecDepth 100000 in
theorem rmask22 (wn cn n P N L : Nat) (a a2 : Option Addr) (cap cap2 : Nat) (cl : List Stp) (z : List (Nat × Nat)) (b : Nat × Nat) (hw : wn ≤ 6) (hcn : cn ≤ 6) (hn : n = 2 ^ wn) (hP : P = 2 ^ cn) (hN : N = 2 ^ (wn + cn)) (hL : cl.length = L) (hL2 : L ≤ 1000) (hzl : z.length = wn) (lz : ltE z) (lb : lt2 b) (hcl : ∀ i, i < L → 0 ≤ (cl.getD i zst).k ∧ 0 ≤ (cl.getD i zst).b ∧ (cl.getD i zst).b < (n : Int)) (W : World) (hr : ORow W a cl) (hz : ERow W a2 z) :
    Calls Try.prog 22 #[.int .i64 (cn : Int), .int .i64 (wn : Int), .slice a L cap, .slice a2 wn cap2, .agg #[.int .u64 (b.1 : Int), .int .u64 (b.2 : Int)]] W fun e w' => ∃ a' cap', e = .returned (.slice a' N cap') ∧ ERow w' a' ((List.range N).map (mkI n z b cl L)) ∧ Below W.heap.size W w' := by
  have hn0 : 0 < n := by rw [hn]; exact Nat.two_pow_pos _
  have hn1 : n ≤ 64 := by rw [hn]; exact Nat.le_trans (Nat.pow_le_pow_right (by decide) hw) (by decide)
  have hP1 : P ≤ 64 := by rw [hP]; exact Nat.le_trans (Nat.pow_le_pow_right (by decide) hcn) (by decide)
  have hPn : P * n = N := by rw [hn, hP, hN, Nat.pow_add, Nat.mul_comm]
  have hN1 : N ≤ 4096 := by rw [hN]; exact Nat.le_trans (Nat.pow_le_pow_right (by decide) (show wn + cn ≤ 12 by omega)) (by decide)
  have hpw : pw (wn : Int) = (n : Int) := by rw [hn]; rfl
  have HT1 := hidC (rtwoS cn (by omega))
  rw [← hP] at HT1
  have HT2 := hidC (rtwoS wn (by omega))
  rw [← hn] at HT2
  obtain ⟨M, hM⟩ : ∃ M, M = (List.range N).map (mkI n z b cl L) := ⟨_, rfl⟩
  have HF : Hid (M.length = N ∧ ∀ k y, k < P → y < n → M.getD (k * n + y) (0, 0) = mkI n z b cl L (k * n + y)) := ⟨by rw [hM]; simp, fun k y hk hy => by
    have h4 := Nat.mul_le_mul_right n (show k + 1 ≤ P by omega)
    rw [Nat.add_mul, Nat.one_mul, hPn] at h4
    have h5 : k * n + y < N := by omega
    rw [hM]
    simp [List.getD, h5]⟩
  rw [← hM]
  have HSg : Hid (∀ (i y : Nat) (u : World), i < L → y < n → Below W.heap.size W u → Calls Try.prog 50 #[.int .i64 (cl.getD i zst).a, .int .i64 (wn : Int), .int .i64 (cl.getD i zst).b, .slice a2 wn cap2, .int .i64 (y : Int)] u fun e w' => e = .returned (.agg #[.int .u64 ((sgn (cl.getD i zst).a z (cl.getD i zst).b.toNat y).1 : Int), .int .u64 ((sgn (cl.getD i zst).a z (cl.getD i zst).b.toNat y).2 : Int)]) ∧ Below u.heap.size u w') := by
    intro i y u hi hy hb
    obtain ⟨_, s0, s1⟩ := hcl i hi
    have t := rsignat (cl.getD i zst).a wn (cl.getD i zst).b.toNat n y hw hpw (by omega) hy a2 cap2 z lz (by omega) u (hz.below hb)
    have hz2 : 2 ^ z.length = n := by rw [hzl, hn]
    have e := sgn_ws (cl.getD i zst).a z (cl.getD i zst).b.toNat y (by rw [hz2]; omega) (by rw [hz2]; exact hy)
    rw [hz2] at e
    rw [← e, Int.toNat_of_nonneg s0, hzl] at t
    exact t
  have HST : Hid (∀ i k y, i < L → y < n → mkI n z b cl (i + 1) (k * n + y) = if (cl.getD i zst).k = (k : Int) then xa (mkI n z b cl i (k * n + y)) (pm (bpow b i) (sgn (cl.getD i zst).a z (cl.getD i zst).b.toNat y)) else mkI n z b cl i (k * n + y)) := fun i k y hi hy => mkI_step z b cl i k y hy (hcl i hi).1
  have HR : Hid (ORow W a cl ∧ cl.length = L) := ⟨hr, hL⟩
  have HPR := hidC (fun i => rprod (bpow b i) b (lt_bpow b i) lb)
  have KB : Hid (El (W.alloc (Obj.cells #[.int .u64 (b.1 : Int), .int .u64 (b.2 : Int)] 34)) W.heap.size b.1 b.2 ∧ Below W.heap.size W (W.alloc (Obj.cells #[.int .u64 (b.1 : Int), .int .u64 (b.2 : Int)] 34))) := ⟨⟨by simp [go_sem], by simp [go_sem]⟩, (Below.refl W.heap.size W).alloc (Nat.le_refl _) _⟩
  obtain ⟨i0, hi0, hz0, hz1, hz2⟩ := info_relem
  have HI : Hid (Try.prog.info? 34 = some i0 ∧ i0.zero = some (.agg #[.int .u64 0, .int .u64 0]) ∧ i0.size = 2 ∧ i0.bytes = 16) := ⟨hi0, hz0, hz1, hz2⟩
  clear hi0 hz0 hz1 hz2 hr hz hL hn hP hN hpw hM lz hzl hcl
  go_enter Try.func22, Try.ntmps22
  go_wp2_with fail
  generalize (W.alloc (Obj.cells #[.int .u64 (b.1 : Int), .int .u64 (b.2 : Int)] 34)) = wb at *
  go_loopw [11, 12] (fun t u wr => ∃ k : Nat, k ≤ P ∧ u = .int .i64 k ∧ Hid (wr.ownsRow wb.heap.size 34 2 t (k * n) (flat (M.take (k * n))) ∧ Below wb.heap.size wb wr)) (fun _ u _ => P - (intOf u).toNat)
  case atStart => exact ⟨0, Nat.zero_le _, rfl, ⟨⟨by simp [flat], .inl ⟨by simp, by simp⟩⟩, Below.refl _ _⟩⟩
  case round =>
    obtain ⟨k, hk, rfl, HO⟩ := hrel
    by_cases hlt : k < P
    · have k1 : (k : Int) < (P : Int) := by omega
      have hkn : k * n + n ≤ N := by
        have h4 := Nat.mul_le_mul_right n (show k + 1 ≤ P by omega)
        rw [Nat.add_mul, Nat.one_mul, hPn] at h4
        exact h4
      go_wp2_with (go_at_call 26; refine (HT1.out _).mono ?_; rintro e w1 ⟨rfl, rfl⟩)
      go_loopw [11, 13] (fun t u wr => ∃ y : Nat, y ≤ n ∧ u = .int .i64 y ∧ Hid (wr.ownsRow wb.heap.size 34 2 t (k * n + y) (flat (M.take (k * n + y))) ∧ Below wb.heap.size wb wr)) (fun _ u _ => n - (intOf u).toNat)
      case atStart => exact ⟨0, Nat.zero_le _, rfl, HO⟩
      case round =>
        obtain ⟨y, hy, rfl, HO⟩ := hrel
        by_cases hyn : y < n
        · have y1 : (y : Int) < (n : Int) := by omega
          have K1 : Hid (Pm wb ((wr.alloc (Obj.cells #[.int .u64 0, .int .u64 0] 34)).alloc (Obj.cells #[.int .u64 0, .int .u64 1] 34)) u11 (k * n + y) (M.take (k * n + y)) wr.heap.size (wr.heap.size + 1) (mkI n z b cl 0 (k * n + y)) (bpow b 0)) := Pm.new HO.out.1 HO.out.2 _
          have HTK : Hid (M.take (k * n + y + 1) = M.take (k * n + y) ++ [mkI n z b cl L (k * n + y)]) := by
            show _ = _
            rw [take_sn _ (k * n + y) (by rw [HF.out.1]; omega), HF.out.2 k y hlt hyn]
          have HSk := hidC (fun i (hi : i < L) => HST.out i k y hi hyn)
          have HSy := hidC (fun i (u : World) (hi : i < L) => HSg.out i y u hi hyn)
          clear HO
          obtain ⟨j, hj⟩ : ∃ j, j = k * n + y := ⟨_, rfl⟩
          rw [← hj] at HTK HSk K1
          have HJJ : Hid (j = k * n + y) := hj
          have hjN : j < N := by omega
          clear hj
          generalize M.take j = T at *
          obtain ⟨T', hT'⟩ : ∃ T', T' = M.take (j + 1) := ⟨_, rfl⟩
          rw [← hT'] at HTK
          have HLL : Hid (M.take (j + 1) = T') := hT'.symm
          clear hT'
          go_wp2_with (go_at_call 26; refine (HT2.out _).mono ?_; rintro e w1 ⟨rfl, rfl⟩)
          generalize ((w1.alloc (Obj.cells #[.int .u64 0, .int .u64 0] 34)).alloc (Obj.cells #[.int .u64 0, .int .u64 1] 34)) = wa at *
          obtain ⟨q15, hq15⟩ : ∃ q, q = w1.heap.size + 1 := ⟨_, rfl⟩
          rw [← hq15] at K1 ⊢
          generalize w1.heap.size = q14 at *
          clear hq15
          go_loopw [16] (fun u wr => ∃ i : Nat, i ≤ L ∧ u = .int .i64 i ∧ Hid (Pm wb wr u11 j T q14 q15 (mkI n z b cl i j) (bpow b i))) (fun u _ => L - (intOf u).toNat)
          case atStart => exact ⟨0, Nat.zero_le _, rfl, K1⟩
          case round =>
            obtain ⟨i, hi', rfl, HJ⟩ := hrel
            clear K1
            by_cases hiN : i < L
            · have i1 : (i : Int) < (L : Int) := by omega
              have i0' : (0 : Int) ≤ (i : Int) := by omega
              obtain ⟨b0, o0, rfl, hb0, d0, d1, d2, _, _⟩ := HR.out.1.cells i (by rw [HR.out.2]; exact hiN)
              have HE := HJ.out
              have dWb : Below W.heap.size W wr := KB.out.2.trans (HE.d.mono KB.out.2.size)
              have A0 := keepc dWb d0
              have A1 := keepc dWb d1
              have A2 := keepc dWb d2
              have bb := KB.out.1.below HE.d
              obtain ⟨b1, b2⟩ := bb
              have H2 := HSk.out i hiN
              have SG := hidC (fun (u : World) => HSy.out i u hiN)
              have PR := hidC (HPR.out i)
              have hlm := lt_mkI n z b cl i j
              have lsg := lt_sgn (cl.getD i zst).a z (cl.getD i zst).b.toNat y
              have P2 := hidC (rprod (bpow b i) (sgn (cl.getD i zst).a z (cl.getD i zst).b.toNat y) (lt_bpow b i) lsg)
              have S2 := hidC (rsum (mkI n z b cl i j) (pm (bpow b i) (sgn (cl.getD i zst).a z (cl.getD i zst).b.toNat y)) hlm (lt_pm _ _))
              have HB : Hid (pm (bpow b i) b = bpow b (i + 1)) := rfl
              rw [HB.out] at PR
              clear d0 d1 d2 hb0 hlm lsg HB HE
              obtain ⟨t', ht'⟩ : ∃ t', t' = mkI n z b cl (i + 1) j := ⟨_, rfl⟩
              rw [← ht'] at H2
              have HT' : Hid (t' = mkI n z b cl (i + 1) j) := ht'
              clear ht'
              obtain ⟨p', hp'⟩ : ∃ p', p' = bpow b (i + 1) := ⟨_, rfl⟩
              rw [← hp'] at PR
              have HP' : Hid (p' = bpow b (i + 1)) := hp'
              clear hp'
              generalize mkI n z b cl i j = t at *
              generalize bpow b i = p at *
              generalize sgn (cl.getD i zst).a z (cl.getD i zst).b.toNat y = sg at *
              generalize cl.getD i zst = o at *
              obtain ⟨ok, oa, os, ov⟩ := o
              dsimp only at *
              by_cases hok : ok = (k : Int)
              · rw [if_pos hok] at H2
                rw [← H2] at S2
                have h1 : (ok == (k : Int)) = true := by rw [beq_iff_eq]; exact hok
                have h2 : decide (ok = (k : Int)) = true := decide_eq_true hok
                clear H2 hok
                go_upto_region 14 with fail
                have K : Pm wb wr u11 j T q14 q15 t p := HJ.out
                clear HJ h1 h2
                refine wp_region_noPanic ?_
                refine wp_region_peel (S := fun w => (w.cell? ⟨q14, 0, none⟩ = some (.int .u64 (t.1 : Int)) ∧ w.cell? ⟨q14, 1, none⟩ = some (.int .u64 (t.2 : Int))) ∧ (w.cell? ⟨q15, 0, none⟩ = some (.int .u64 (p.1 : Int)) ∧ w.cell? ⟨q15, 1, none⟩ = some (.int .u64 (p.2 : Int))) ∧ w.cell? ⟨b0, o0 + i * 5 + 1, none⟩ = some (.int .i64 oa) ∧ w.cell? ⟨b0, o0 + i * 5 + 2, none⟩ = some (.int .i64 os)) 18 (by kernel_rfl) rfl (by kernel_rfl) ?_ (fun hHeld => ?_)
                · exact ⟨⟨K.e.hi, K.e.lo⟩, ⟨K.f.hi, K.f.lo⟩, A1, A2⟩
                refine wpAnyH_take (i := 0) (oi := _) (v := ?_) rfl (by kernel_rfl) (by kernel_rfl) (by kernel_rfl) (fun _ _ _ h => h) (Or.inl ⟨by rfl, ?_⟩) (by assumption) ?_
                rotate_left
                · ((intro w hSw; (try dsimp only at hSw); go_simp) <;> (try with_reducible rfl))
                show wpAnyH _ _ _ _ _ _ _ (Act.put _ (some 43) _) _
                simp only [Act.put, List.setIfInBounds_toArray, List.set_cons_succ, List.set_cons_zero]
                refine wpAnyH_take (i := 1) (oi := _) (v := ?_) rfl (by kernel_rfl) (by kernel_rfl) (by kernel_rfl) (fun _ _ _ h => h) (Or.inl ⟨by rfl, ?_⟩) (by assumption) ?_
                rotate_left
                · ((intro w hSw; (try dsimp only at hSw); go_simp) <;> (try with_reducible rfl))
                show wpAnyH _ _ _ _ _ _ _ (Act.put _ (some 44) _) _
                simp only [Act.put, List.setIfInBounds_toArray, List.set_cons_succ, List.set_cons_zero]
                refine wpAnyH_take (i := 2) (oi := _) (v := ?_) rfl (by kernel_rfl) (by kernel_rfl) (by kernel_rfl) (fun _ _ _ h => h) (Or.inl ⟨by rfl, ?_⟩) (by assumption) ?_
                rotate_left
                · ((intro w hSw; (try dsimp only at hSw); go_simp) <;> (try with_reducible rfl))
                show wpAnyH _ _ _ _ _ _ _ (Act.put _ (some 45) _) _
                simp only [Act.put, List.setIfInBounds_toArray, List.set_cons_succ, List.set_cons_zero]
                refine wpAnyH_take (i := 3) (oi := _) (v := ?_) rfl (by kernel_rfl) (by kernel_rfl) (by kernel_rfl) (fun _ _ _ h => h) (Or.inl ⟨by rfl, ?_⟩) (by assumption) ?_
                rotate_left
                · ((intro w hSw; (try dsimp only at hSw); go_simp) <;> (try with_reducible rfl))
                show wpAnyH _ _ _ _ _ _ _ (Act.put _ (some 46) _) _
                simp only [Act.put, List.setIfInBounds_toArray, List.set_cons_succ, List.set_cons_zero]
                refine wpAnyH_take (i := 4) (oi := _) (v := ?_) rfl (by kernel_rfl) (by kernel_rfl) (by kernel_rfl) (fun _ _ _ h => h) (Or.inl ⟨by rfl, ?_⟩) (by assumption) ?_
                rotate_left
                · ((intro w hSw; (try dsimp only at hSw); go_simp) <;> (try with_reducible rfl))
                show wpAnyH _ _ _ _ _ _ _ (Act.put _ (some 47) _) _
                simp only [Act.put, List.setIfInBounds_toArray, List.set_cons_succ, List.set_cons_zero]
                refine wpAnyH_take (i := 5) (oi := _) (v := ?_) rfl (by kernel_rfl) (by kernel_rfl) (by kernel_rfl) (fun _ _ _ h => h) (Or.inl ⟨by rfl, ?_⟩) (by assumption) ?_
                rotate_left
                · ((intro w hSw; (try dsimp only at hSw); go_simp) <;> (try with_reducible rfl))
                show wpAnyH _ _ _ _ _ _ _ (Act.put _ (some 48) _) _
                simp only [Act.put, List.setIfInBounds_toArray, List.set_cons_succ, List.set_cons_zero]
                refine wpAnyH_take (i := 6) (oi := _) (v := ?_) rfl (by kernel_rfl) (by kernel_rfl) (by kernel_rfl) (fun _ _ _ h => h) (Or.inl ⟨by rfl, ?_⟩) (by assumption) ?_
                rotate_left
                · ((intro w hSw; (try dsimp only at hSw); go_simp) <;> (try with_reducible rfl))
                show wpAnyH _ _ _ _ _ _ _ (Act.put _ (some 49) _) _
                simp only [Act.put, List.setIfInBounds_toArray, List.set_cons_succ, List.set_cons_zero]
                refine wpAnyH_take (i := 7) (oi := _) (v := ?_) rfl (by kernel_rfl) (by kernel_rfl) (by kernel_rfl) (fun _ _ _ h => h) (Or.inl ⟨by rfl, ?_⟩) (by assumption) ?_
                rotate_left
                · ((intro w hSw; (try dsimp only at hSw); go_simp) <;> (try with_reducible rfl))
                show wpAnyH _ _ _ _ _ _ _ (Act.put _ (some 50) _) _
                simp only [Act.put, List.setIfInBounds_toArray, List.set_cons_succ, List.set_cons_zero]
                refine wpAnyH_take (i := 8) (oi := _) (v := ?_) rfl (by kernel_rfl) (by kernel_rfl) (by kernel_rfl) (fun _ _ _ h => h) (Or.inl ⟨by rfl, ?_⟩) (by assumption) ?_
                rotate_left
                · ((intro w hSw; (try dsimp only at hSw); go_simp) <;> (try with_reducible rfl))
                show wpAnyH _ _ _ _ _ _ _ (Act.put _ (some 51) _) _
                simp only [Act.put, List.setIfInBounds_toArray, List.set_cons_succ, List.set_cons_zero]
                refine wpAnyH_take (i := 9) (oi := _) (v := ?_) rfl (by kernel_rfl) (by kernel_rfl) (by kernel_rfl) (fun _ _ _ h => h) (Or.inl ⟨by rfl, ?_⟩) (by assumption) ?_
                rotate_left
                · ((intro w hSw; (try dsimp only at hSw); go_simp) <;> (try with_reducible rfl))
                show wpAnyH _ _ _ _ _ _ _ (Act.put _ (some 52) _) _
                simp only [Act.put, List.setIfInBounds_toArray, List.set_cons_succ, List.set_cons_zero]
                refine wpAnyH_take (i := 10) (oi := _) (v := ?_) rfl (by kernel_rfl) (by kernel_rfl) (by kernel_rfl) (fun _ _ _ h => h) (Or.inl ⟨by rfl, ?_⟩) (by assumption) ?_
                rotate_left
                · ((intro w hSw; (try dsimp only at hSw); go_simp) <;> (try with_reducible rfl))
                show wpAnyH _ _ _ _ _ _ _ (Act.put _ (some 53) _) _
                simp only [Act.put, List.setIfInBounds_toArray, List.set_cons_succ, List.set_cons_zero]
                refine wpAnyH_take (i := 11) (oi := _) (v := ?_) rfl (by kernel_rfl) (by kernel_rfl) (by kernel_rfl) (fun _ _ _ h => h) (Or.inl ⟨by rfl, ?_⟩) (by assumption) ?_
                rotate_left
                · ((intro w hSw; (try dsimp only at hSw); go_simp) <;> (try with_reducible rfl))
                show wpAnyH _ _ _ _ _ _ _ (Act.put _ (some 54) _) _
                simp only [Act.put, List.setIfInBounds_toArray, List.set_cons_succ, List.set_cons_zero]
                refine wpAnyH_take (i := 12) (oi := _) (v := ?_) rfl (by kernel_rfl) (by kernel_rfl) (by kernel_rfl) (fun _ _ _ h => h) (Or.inl ⟨by rfl, ?_⟩) (by assumption) ?_
                rotate_left
                · ((intro w hSw; (try dsimp only at hSw); go_simp) <;> (try with_reducible rfl))
                show wpAnyH _ _ _ _ _ _ _ (Act.put _ (some 55) _) _
                simp only [Act.put, List.setIfInBounds_toArray, List.set_cons_succ, List.set_cons_zero]
                refine wpAnyH_take (i := 13) (oi := _) (v := ?_) rfl (by kernel_rfl) (by kernel_rfl) (by kernel_rfl) (fun _ _ _ h => h) (Or.inl ⟨by rfl, ?_⟩) (by assumption) ?_
                rotate_left
                · ((intro w hSw; (try dsimp only at hSw); go_simp) <;> (try with_reducible rfl))
                show wpAnyH _ _ _ _ _ _ _ (Act.put _ (some 56) _) _
                simp only [Act.put, List.setIfInBounds_toArray, List.set_cons_succ, List.set_cons_zero]
                refine wpAnyH_take (i := 14) (oi := _) (v := ?_) rfl (by kernel_rfl) (by kernel_rfl) (by kernel_rfl) (fun _ _ _ h => h) (Or.inl ⟨by rfl, ?_⟩) (by assumption) ?_
                rotate_left
                · ((intro w hSw; (try dsimp only at hSw); go_simp) <;> (try with_reducible rfl))
                show wpAnyH _ _ _ _ _ _ _ (Act.put _ (some 57) _) _
                simp only [Act.put, List.setIfInBounds_toArray, List.set_cons_succ, List.set_cons_zero]
                have K' := K.drew
                have A1' : wr.drew.cell? ⟨b0, o0 + i * 5 + 1, none⟩ = some (.int .i64 oa) := A1
                have A2' : wr.drew.cell? ⟨b0, o0 + i * 5 + 2, none⟩ = some (.int .i64 os) := A2
                have b1' : wr.drew.cell? ⟨W.heap.size, 0, none⟩ = some (.int .u64 (b.1 : Int)) := b1
                have b2' : wr.drew.cell? ⟨W.heap.size, 1, none⟩ = some (.int .u64 (b.2 : Int)) := b2
                clear K A0 A1 A2 b1 b2
                have K := K'
                have A1 := A1'
                have A2 := A2'
                have b1 := b1'
                have b2 := b2'
                clear K' A1' A2' b1' b2'
                generalize wr.drew = wd at *
                refine wpAnyH_ready (rs := [15]) (by kernel_rfl) (by simp) ?_
                refine AllReadyH.cons (o := _) rfl (fun KK hKK => ?_) AllReadyH.nil
                go_simp
                (go_at_call 50; refine (SG.out _ (KB.out.2.trans (K.d.mono KB.out.2.size))).mono ?_; rintro e w' ⟨rfl, hb'⟩)
                have K' := K.below hb'
                have A1' := keepc hb' A1
                have A2' := keepc hb' A2
                have b1' := keepc hb' b1
                have b2' := keepc hb' b2
                clear K A1 A2 b1 b2 hb'
                have K := K'
                have A1 := A1'
                have A2 := A2'
                have b1 := b1'
                have b2 := b2'
                clear K' A1' A2' b1' b2'
                refine hKK.out _ _ ?_ (fun hHeld => ?_)
                · exact ⟨⟨K.e.hi, K.e.lo⟩, ⟨K.f.hi, K.f.lo⟩, A1, A2⟩
                clear hKK KK
                try simp only [Act.put]
                refine wpAnyH_ready (rs := [16]) (by kernel_rfl) (by simp) ?_
                refine AllReadyH.cons (o := _) rfl (fun KK hKK => ?_) AllReadyH.nil
                go_simp
                (go_at_call 39; refine (P2.out.go _).mono ?_; rintro e w' ⟨rfl, hb'⟩)
                have K' := K.below hb'
                have A1' := keepc hb' A1
                have A2' := keepc hb' A2
                have b1' := keepc hb' b1
                have b2' := keepc hb' b2
                clear K A1 A2 b1 b2 hb'
                have K := K'
                have A1 := A1'
                have A2 := A2'
                have b1 := b1'
                have b2 := b2'
                clear K' A1' A2' b1' b2'
                refine hKK.out _ _ ?_ (fun hHeld => ?_)
                · exact ⟨⟨K.e.hi, K.e.lo⟩, ⟨K.f.hi, K.f.lo⟩, A1, A2⟩
                clear hKK KK
                try simp only [Act.put]
                refine wpAnyH_ready (rs := [17]) (by kernel_rfl) (by simp) ?_
                refine AllReadyH.cons (o := _) rfl (fun KK hKK => ?_) AllReadyH.nil
                go_simp
                (go_at_call 38; refine (S2.out.go _).mono ?_; rintro e w' ⟨rfl, hb'⟩)
                have K' := K.below hb'
                have A1' := keepc hb' A1
                have A2' := keepc hb' A2
                have b1' := keepc hb' b1
                have b2' := keepc hb' b2
                clear K A1 A2 b1 b2 hb'
                have K := K'
                have A1 := A1'
                have A2 := A2'
                have b1 := b1'
                have b2 := b2'
                clear K' A1' A2' b1' b2'
                refine hKK.out _ _ ?_ (fun hHeld => ?_)
                · exact ⟨⟨K.e.hi, K.e.lo⟩, ⟨K.f.hi, K.f.lo⟩, A1, A2⟩
                clear hKK KK
                try simp only [Act.put]
                refine wpAnyH_done (by kernel_rfl) ?_ _
                refine peel_last rfl (fun KK hKK => ?_)
                clear hHeld
                obtain ⟨r1, r0⟩ := K.e.toEl
                have f1 := K.e.fhi
                have f0 := K.e.flo
                go_simp
                refine hKK _ _ ?_
                refine NoPanic.normal ?_
                clear hKK KK
                have hqW : W.heap.size < q14 := Nat.lt_of_lt_of_le (cell_lt KB.out.1.hi) K.lo
                have K2 : Hid (Pm wb ((w'.setCell ⟨q14, 0, none⟩ (.int .u64 (t'.1 : Int))).setCell ⟨q14, 1, none⟩ (.int .u64 (t'.2 : Int))) u11 j T q14 q15 t' p) := K.put1 t'
                have hne : ¬ q14 = W.heap.size := by omega
                have b1' : ((w'.setCell ⟨q14, 0, none⟩ (.int .u64 (t'.1 : Int))).setCell ⟨q14, 1, none⟩ (.int .u64 (t'.2 : Int))).cell? ⟨W.heap.size, 0, none⟩ = some (.int .u64 (b.1 : Int)) := (KB.out.1.below K2.out.d).hi
                have b2' : ((w'.setCell ⟨q14, 0, none⟩ (.int .u64 (t'.1 : Int))).setCell ⟨q14, 1, none⟩ (.int .u64 (t'.2 : Int))).cell? ⟨W.heap.size, 1, none⟩ = some (.int .u64 (b.2 : Int)) := (KB.out.1.below K2.out.d).lo
                clear K r1 r0 f1 f0 b1 b2 A1 A2 hqW hne
                generalize ((w'.setCell ⟨q14, 0, none⟩ (.int .u64 (t'.1 : Int))).setCell ⟨q14, 1, none⟩ (.int .u64 (t'.2 : Int))) = w8 at *
                obtain ⟨⟨g1, g0⟩, g3, g2⟩ := K2.out.f
                go_wp2_with (go_at_call 39; refine (PR.out.go _).mono ?_; rintro e w9 ⟨rfl, hb9⟩; have K3 : Hid (Pm wb w9 u11 j T q14 q15 t' p) := K2.out.below hb9; clear hb9 K2 g1 g0 g3 g2 b1' b2'; obtain ⟨⟨g1, g0⟩, g3, g2⟩ := K3.out.f)
                refine ⟨⟨i + 1, hiN, by simp, ?_⟩, by simp [intOf]; omega⟩
                rw [← HT'.out, ← HP'.out]
                exact K3.out.put2 p'
              · rw [if_neg hok] at H2
                subst H2
                have h1 : (ok == (k : Int)) = false := by rw [beq_eq_false_iff_ne]; exact hok
                have h2 : decide (ok = (k : Int)) = false := decide_eq_false hok
                clear SG P2 S2 A1 A2
                obtain ⟨⟨g1, g0⟩, g3, g2⟩ := HJ.out.f
                go_wp2_with (go_at_call 39; refine (PR.out.go _).mono ?_; rintro e w9 ⟨rfl, hb9⟩; have K3 : Hid (Pm wb w9 u11 j T q14 q15 t' p) := HJ.out.below hb9; clear hb9 HJ g1 g0 g3 g2 b1 b2 A0; obtain ⟨⟨g1, g0⟩, g3, g2⟩ := K3.out.f)
                refine ⟨⟨i + 1, hiN, by simp, ?_⟩, by simp [intOf]; omega⟩
                rw [← HT'.out, ← HP'.out]
                exact K3.out.put2 p'
            · obtain rfl : i = L := by omega
              have c1 := HJ.out.e.hi
              have c0 := HJ.out.e.lo
              obtain ⟨t, ht⟩ : ∃ t, t = mkI n z b cl i j := ⟨_, rfl⟩
              rw [← ht] at c1 c0 HJ
              rw [← ht] at HTK
              clear ht
              have hBq : wb.heap.size ≤ wr.heap.size := HJ.out.d.size
              go_wp2_with (at_builtin; refine wpList_append_own _ rfl _ _ 42 rfl wb.heap.size 34 i0 (.agg #[.int .u64 0, .int .u64 0]) 2 16 Try.underlying42 HI.out.1 HI.out.2.1 HI.out.2.2.1 HI.out.2.2.2 rfl (by decide) _ _ _ rfl (own_below HJ.out.own ((Below.refl _ _).alloc (Nat.le_refl _) _)) ⟨wr.heap.size, 0, none⟩ 1 1 [.int .u64 (t.1 : Nat), .int .u64 (t.2 : Nat)] rfl rfl (fun p u hu => by rcases p with _ | _ | p <;> simp at hu <;> subst hu <;> simp [go_sem]) (by intro u hu; simp at hu; rcases hu with rfl | rfl <;> rfl) (by simp only [maxLen]; omega) (by omega) (by simp; omega) ?_; intro v' w7 hown7 hgr7 _)
              refine ⟨⟨y + 1, hyn, by simp, ⟨?_, ?_⟩⟩, by simp [intOf]; omega⟩
              · rw [show k * n + (y + 1) = j + 1 by rw [HJJ.out]; rfl, HLL.out, HTK.out, flat_end]; exact hown7
              · exact (HJ.out.d.alloc hBq _).grown hgr7 (by simp; omega) fun g hg => (HJ.out.own.lt g hg).1
        · obtain rfl : y = n := by omega
          have HN : Hid ((k + 1) * y = k * y + y) := by show _ = _; rw [Nat.add_mul, Nat.one_mul]
          clear HST HSg HPR HF
          go_wp2_with (go_at_call 26; refine (HT2.out _).mono ?_; rintro e w1 ⟨rfl, rfl⟩)
          refine ⟨⟨k + 1, hlt, by simp, ?_⟩, by simp [intOf]; omega⟩
          rw [HN.out]
          exact HO
    · obtain rfl : k = P := by omega
      have h := HO.out.1
      rw [hPn, List.take_of_length_le (by rw [HF.out.1]; exact Nat.le_refl _)] at h
      obtain ⟨a', cap', e', hE⟩ := own_row (es := M) (by rw [HF.out.1]; exact h)
      rw [HF.out.1] at e'
      subst e'
      have HEr := hidC hE
      have HDr : Hid (Below W.heap.size W wr) := KB.out.2.trans (HO.out.2.mono KB.out.2.size)
      clear HO HF h hE HST HSg HPR
      go_wp2_with (go_at_call 26; refine (HT1.out _).mono ?_; rintro e w1 ⟨rfl, rfl⟩)
      refine bodyPost_ret (v := .slice a' N cap') (by simp [results, Try.results22, go_sem, *]) rfl ⟨a', cap', rfl, HEr.out, HDr.out⟩
end Go.Proofs.Ytejoombhcnldmaa

/- The contract of claim.At over the seat's translation. -/
namespace Go.Proofs.Ytejoombhcnldmaa
open Go.RowKit
open Cb
open Tw (pm)

/-- One claim's share of the mask's value. -/
def ceE (z pl ph : List (Nat × Nat)) (o : Stp) : Nat × Nat := pm (wt ph o.k.toNat) (sgn2 o.a z pl o.b.toNat)
/-- The mask's value, of the first so many claims. -/
def ceS (b : Nat × Nat) (z pl ph : List (Nat × Nat)) (cl : List Stp) (i : Nat) : Nat × Nat := xs i fun j => pm (bpow b j) (ceE z pl ph (cl.getD j zst))
theorem lt_ceE (z pl ph : List (Nat × Nat)) (o : Stp) : lt2 (ceE z pl ph o) := lt_pm _ _
theorem lt_ceS (b : Nat × Nat) (z pl ph : List (Nat × Nat)) (cl : List Stp) (i : Nat) : lt2 (ceS b z pl ph cl i) := lt_xs (fun _ => lt_pm _ _) _
theorem lt_sgn2 (k : Int) (p r : List (Nat × Nat)) (s : Nat) : lt2 (sgn2 k p r s) := by rw [sgn2_sum]; exact lt_xs (fun _ => lt_pm _ _) _
theorem of_sgn2 {m : Nat} (hm : m < 8) (k : Int) {p r : List (Nat × Nat)} (op : ofT m p) (or : ofT m r) (s : Nat) : ofE m (sgn2 k p r s) := by
  rw [sgn2_sum]
  exact of_xs hm (f := fun y => pm (sgn k p s y) (wt r y)) (fun y => of_pm hm (of_sgn hm _ op _ _) (Rg.of_wt hm or y)) _
theorem own_wts {w : World} {base : Nat} {T : TypeId} {g P cp : Nat} {ph : List (Nat × Nat)} (h : w.ownsRow base T 2 (.slice (some ⟨g, 0, none⟩) P cp) P (flat (Rg.wts ph P))) : ERow w (some ⟨g, 0, none⟩) (Rg.wts ph P) := by
  obtain ⟨a, cap, e, hE⟩ := own_row (es := Rg.wts ph P) (by rw [Rg.wts_len]; exact h)
  injection e with e1 _ _
  rw [e1]
  exact hE
theorem ERow.dropE {w : World} {g off : Nat} {cs : List (Nat × Nat)} (e : ERow w (some ⟨g, off, none⟩) cs) (j : Nat) : ERow w (some ⟨g, off + j * 2, none⟩) (cs.drop j) := ⟨fun i hi => by
  rw [List.length_drop] at hi
  obtain ⟨b, off', e1, hb, c1, c0⟩ := e.cells (j + i) (by omega)
  injection e1 with e1
  injection e1 with e2 e3
  subst e2 e3
  have hd : (cs.drop j).getD i (0, 0) = cs.getD (j + i) (0, 0) := by simp [List.getD, List.getElem?_drop]
  rw [hd]
  refine ⟨g, off + j * 2, rfl, hb, ?_, ?_⟩
  · rw [← c1]; congr 2; omega
  · rw [← c0]; congr 2; omega⟩
theorem ERow.noneE {w : World} {a : Option Addr} {cs : List (Nat × Nat)} (h : cs.length = 0) : ERow w a cs := ⟨fun i hi => by omega⟩
theorem ERow.takeE {w : World} {a : Option Addr} {cs : List (Nat × Nat)} (e : ERow w a cs) (j : Nat) : ERow w a (cs.take j) := ⟨fun i hi => by
  rw [List.length_take] at hi
  obtain ⟨b, off', e1, hb, c1, c0⟩ := e.cells i (by omega)
  have hd : (cs.take j).getD i (0, 0) = cs.getD i (0, 0) := by
    have : i < j := by omega
    simp [List.getD, this]
  rw [hd]
  exact ⟨b, off', e1, hb, c1, c0⟩⟩
/-- The weights, the sum, the powers. -/
structure Tb (W w : World) (g P : Nat) (ph : List (Nat × Nat)) (qt q ql qb m : Nat) (b t n : Nat × Nat) : Prop where
  o : To W w qt q ql qb m b t n
  w : ERow w (some ⟨g, 0, none⟩) (Rg.wts ph P)
theorem Tb.below {W w w' : World} {g P qt q ql qb m : Nat} {ph : List (Nat × Nat)} {b t n : Nat × Nat} (h : Tb W w g P ph qt q ql qb m b t n) (hb : Below w.heap.size w w') : Tb W w' g P ph qt q ql qb m b t n := ⟨h.o.below hb, h.w.below hb⟩
theorem Tb.drew {W w : World} {g P qt q ql qb m : Nat} {ph : List (Nat × Nat)} {b t n : Nat × Nat} (h : Tb W w g P ph qt q ql qb m b t n) : Tb W w.drew g P ph qt q ql qb m b t n := h.below (Below.refl _ _).drew
theorem Tb.alloc {W w : World} {g P qt q ql qb m : Nat} {ph : List (Nat × Nat)} {b t n : Nat × Nat} (h : Tb W w g P ph qt q ql qb m b t n) (o : Obj) : Tb W (w.alloc o) g P ph qt q ql qb m b t n := h.below ((Below.refl _ _).alloc (Nat.le_refl _) o)
theorem Tb.pow {W w w' : World} {g P qt q ql qb m : Nat} {ph : List (Nat × Nat)} {b t n : Nat × Nat} (h : Tb W w g P ph qt q ql qb m b t n) (hg : g ≠ q) (z : Nat × Nat) (hb : Below w.heap.size ((w.setCell ⟨q, 0, none⟩ (.int .u64 (z.1 : Int))).setCell ⟨q, 1, none⟩ (.int .u64 (z.2 : Int))) w') : Tb W w' g P ph qt q ql qb m b t z :=
  ⟨h.o.pow z hb, (h.w.offC q (fun x y e => by injection e with e; injection e with e1 e2; rw [← e1]; exact hg) _ _).below (by simpa [World.setCell] using hb)⟩
theorem Tb.put {W w : World} {g P qt q ql qb m : Nat} {ph : List (Nat × Nat)} {b t n : Nat × Nat} (h : Tb W w g P ph qt q ql qb m b t n) (hg : g ≠ qt) (hl : qt < ql) (hb : qt < qb) (z : Nat × Nat) : Tb W ((w.setCell ⟨qt, 0, none⟩ (.int .u64 (z.1 : Int))).setCell ⟨qt, 1, none⟩ (.int .u64 (z.2 : Int))) g P ph qt q ql qb m b z n :=
  ⟨h.o.put hl hb z, h.w.offC qt (fun x y e => by injection e with e; injection e with e1 e2; rw [← e1]; exact hg) _ _⟩
theorem Tb.above {W w : World} {g P qt q ql qb m : Nat} {ph : List (Nat × Nat)} {b t n : Nat × Nat} (h : Tb W w g P ph qt q ql qb m b t n) : W.heap.size + 1 < w.heap.size ∧ (qt < w.heap.size ∧ q < w.heap.size ∧ ql < w.heap.size ∧ qb < w.heap.size) := ⟨h.o.r.toEl.lt, h.o.t.toEl.lt, h.o.p.n.toEl.lt, cell_lt h.o.p.l, h.o.p.b.lt⟩
theorem set_far {w : World} {a q i : Nat} {x : Value} (h : a < q) (u v : Value) (hc : w.cell? ⟨a, i, none⟩ = some x) : ((w.setCell ⟨q, 0, none⟩ u).setCell ⟨q, 1, none⟩ v).cell? ⟨a, i, none⟩ = some x := by
  have hne : ¬ q = a := by omega
  simp [World.cell?, World.setCell, Array.getElem?_modify, hne] at hc ⊢
  exact hc
theorem Tb.offB {W w : World} {g P qt q ql qb m b' : Nat} {ph : List (Nat × Nat)} {b t n : Nat × Nat} (h : Tb W w g P ph qt q ql qb m b t n) (hg : g < qt) (h1 : W.heap.size + 1 < b') (h2 : qt < b' ∧ q < b' ∧ ql < b' ∧ qb < b') (u v : Value) : Tb W ((w.setCell ⟨b', 0, none⟩ u).setCell ⟨b', 1, none⟩ v) g P ph qt q ql qb m b t n :=
  ⟨⟨h.o.r.other (by omega) _ _, h.o.t.other (by omega) _ _, ⟨h.o.p.n.other (by omega) _ _, set_far h2.2.2.1 _ _ h.o.p.l, h.o.p.b.keepR (by omega) _ _ _ _, h.o.p.n1, h.o.p.n2⟩, below2 (p := b') h.o.d (by omega) _ _, h.o.n1, h.o.n2⟩, h.w.offC b' (fun x y e => by injection e with e; injection e with e1 e2; omega) _ _⟩
set_option maxHeartbeats 40000000 in
set_option maxRecDepth 100000 in
theorem cmat_c (m cn wn n P L : Nat) (a a2 : Option Addr) (gq oq' : Nat) (cap cap2 cap3 : Nat) (cl : List Stp) (z qs : List (Nat × Nat)) (b : Nat × Nat) (hn : n = 2 ^ wn) (hP : P = 2 ^ cn) (hL : cl.length = L) (lz : ltE z) (lq : ltE qs) (lb : lt2 b) (hql : qs.length = wn + cn) (oq : ofT m qs) (hcap : wn + cn ≤ cap3) (hE : chE (m : Int) (cn : Int) (wn : Int) cl z b = 0) (hcw : ¬ cap3 = wn) (W : World) (hr : ORow W a cl) (hz : ERow W a2 z) (hq : ERow W (some ⟨gq, oq', none⟩) qs) :
    Calls Try.prog 18 #[.int .i64 (m : Int), .int .i64 (cn : Int), .int .i64 (wn : Int), .slice a L cap, .slice a2 wn cap2, .agg #[.int .u64 (b.1 : Int), .int .u64 (b.2 : Int)], .slice (some ⟨gq, oq', none⟩) (wn + cn) cap3] W fun e w' => e = .returned (.tuple #[.agg #[.int .u64 ((ceS b z (qs.take wn) (qs.drop wn) cl L).1 : Int), .int .u64 ((ceS b z (qs.take wn) (qs.drop wn) cl L).2 : Int)], .int .i64 0]) ∧ Below W.heap.size W w' := by
  obtain ⟨m', cn', wn', hm, e1, hcn, e2, hwn, e3, h200, hcl, hzl, oz, ob⟩ := ch_zero hE
  obtain rfl : m = m' := by omega
  obtain rfl : cn = cn' := by omega
  obtain rfl : wn = wn' := by omega
  have hpw : pw (wn : Int) = (n : Int) := by rw [hn]; rfl
  have hn1 : n ≤ 64 := by rw [hn]; exact Nat.le_trans (Nat.pow_le_pow_right (by decide) hwn) (by decide)
  have hP1 : P ≤ 64 := by rw [hP]; exact Nat.le_trans (Nat.pow_le_pow_right (by decide) hcn) (by decide)
  obtain ⟨pl, hpl⟩ : ∃ pl, pl = qs.take wn := ⟨_, rfl⟩
  obtain ⟨ph, hph⟩ : ∃ ph, ph = qs.drop wn := ⟨_, rfl⟩
  rw [← hpl, ← hph]
  have ll : pl.length = wn := by rw [hpl, List.length_take]; omega
  have lh : ph.length = cn := by rw [hph, List.length_drop]; omega
  have lpl : ltE pl := fun e he => lq e (List.mem_of_mem_take (hpl ▸ he))
  have lph : ltE ph := fun e he => lq e (List.mem_of_mem_drop (hph ▸ he))
  have opl : ofT m pl := fun e he => oq e (List.mem_of_mem_take (hpl ▸ he))
  have oph : ofT m ph := fun e he => oq e (List.mem_of_mem_drop (hph ▸ he))
  obtain ⟨S, hS⟩ : ∃ S, S = wn + cn := ⟨_, rfl⟩
  rw [← hS] at hql hcap ⊢
  have HH := hidC (fun (v : World) (hb : Below W.heap.size W v) => cmhind (m : Int) (cn : Int) (wn : Int) a a2 cap cap2 cl z b (by omega) (by omega) lz lb v (hr.below hb) (hz.below hb))
  rw [hE, hL, hzl] at HH
  have hfit : cfE (m : Int) (S : Int) qs = 0 := by
    unfold cfE
    rw [if_pos (by rw [hql]), if_pos (List.all_eq_true.2 fun e he => oq e he)]
  have HF := hidC (fun (v : World) (hb : Below W.heap.size W v) => cmfit (m : Int) (S : Int) (some ⟨gq, oq', none⟩) cap3 qs lq (by omega) v (hq.below hb))
  rw [hfit, hql] at HF
  have e9 : IntKind.i64.wrap ((wn : Int) + (cn : Int)) = (S : Int) := by rw [IntKind.wrap_i64]; omega
  have HWt := hidC (fun (v : World) (aa : Option Addr) (cc : Nat) (h : ERow v aa ph) => cwts m hm aa cc cn P ph lph lh (by omega) hP.symm oph v h)
  have HPS := hidC (fun v => cmpows m b v)
  have HPW := hidC (fun (i q ql qb : Nat) (v : World) (h : Pws v q ql qb m b (bpow b i)) => cmpow m q ql qb b (bpow b i) lb (lt_bpow b i) ob (of_bpow hm ob i) v h)
  have HTA : Hid (∀ (i : Nat) (v : World) (aa : Option Addr) (cc : Nat), i < L → Below W.heap.size W v → ERow v aa pl → Calls Try.prog 48 #[.int .i64 (m : Int), .int .i64 (cl.getD i zst).a, .int .i64 (wn : Int), .int .i64 (cl.getD i zst).b, .slice a2 wn cap2, .slice aa wn cc] v fun e w' => e = .returned (.tuple #[.agg #[.int .u64 ((sgn2 (cl.getD i zst).a z pl (cl.getD i zst).b.toNat).1 : Int), .int .u64 ((sgn2 (cl.getD i zst).a z pl (cl.getD i zst).b.toNat).2 : Int)], .int .i64 0]) ∧ Below v.heap.size v w') := by
    intro i v aa cc hi hb h
    obtain ⟨_, ft⟩ := hcl i (by omega)
    have fs := (ftB_true ft).2.1
    have t := tat_ok m hm (cl.getD i zst).a wn (cl.getD i zst).b.toNat n hwn hpw (by rw [Int.toNat_of_nonneg fs.1]; exact ft) a2 aa cap2 cc z pl lz lpl hzl ll oz opl v (hz.below hb) h
    rw [Int.toNat_of_nonneg fs.1] at t
    exact t
  have HCL : Hid ((∀ i, i < L → 0 ≤ (cl.getD i zst).k ∧ (cl.getD i zst).k < (P : Int)) ∧ ORow W a cl ∧ cl.length = L ∧ m < 8 ∧ ofE m b ∧ lt2 b) := ⟨fun i hi => by have h := (hcl i (by omega)).1; rw [← hP] at h; exact h, hr, hL, hm, ob, lb⟩
  have HSG : Hid (∀ i, lt2 (sgn2 (cl.getD i zst).a z pl (cl.getD i zst).b.toNat) ∧ ofE m (sgn2 (cl.getD i zst).a z pl (cl.getD i zst).b.toNat) ∧ ∀ k, ofE m (wt ph k)) := fun i => ⟨lt_sgn2 _ _ _ _, of_sgn2 hm _ oz opl _, fun k => Rg.of_wt hm oph k⟩
  have HAS : Hid (∀ i, ceS b z pl ph cl (i + 1) = xa (ceS b z pl ph cl i) (pm (bpow b i) (pm (wt ph (cl.getD i zst).k.toNat) (sgn2 (cl.getD i zst).a z pl (cl.getD i zst).b.toNat)))) := fun i => rfl
  have hL1 : L ≤ 200 := by omega
  have HQ0 : Hid (ERow W (some ⟨gq, oq', none⟩) qs) := hq
  have HPP : Hid (pl = qs.take wn ∧ ph = qs.drop wn ∧ qs.length = S ∧ S = wn + cn) := ⟨hpl, hph, hql, hS⟩
  have hcS : wn ≤ S := by omega
  have hwc : wn ≤ cap3 := by omega
  have hcS2 : S - wn = cn := by omega
  clear hE lz lq lb hql oq hr hz hq hcl hzl oz ob h200 hpw lpl lph opl oph ll lh hpl hph hn hP hfit hL hm e1 e2 e3 hS
  go_enter Try.func18, Try.ntmps18
  have KB0 : Hid (El ((W.alloc (Obj.cells #[.int .u64 (b.1 : Int), .int .u64 (b.2 : Int)] 26)).alloc (Obj.cells #[.int .u64 0, .int .u64 0] 26)) W.heap.size b.1 b.2 ∧ Ew ((W.alloc (Obj.cells #[.int .u64 (b.1 : Int), .int .u64 (b.2 : Int)] 26)).alloc (Obj.cells #[.int .u64 0, .int .u64 0] 26)) (W.heap.size + 1) 0 0 ∧ Below W.heap.size W ((W.alloc (Obj.cells #[.int .u64 (b.1 : Int), .int .u64 (b.2 : Int)] 26)).alloc (Obj.cells #[.int .u64 0, .int .u64 0] 26))) := ⟨⟨by simp [go_sem], by simp [go_sem]⟩, by have h := Ew.roomR (W.alloc (Obj.cells #[.int .u64 (b.1 : Int), .int .u64 (b.2 : Int)] 26)) 26; simpa using h, ((Below.refl W.heap.size W).alloc (Nat.le_refl _) _).alloc (by simp) _⟩
  go_wp2_with (first
    | (go_at_call 42; refine (HH.out _ KB0.out.2.2).mono ?_; rintro e w1 ⟨rfl, hb1⟩; have K1 : Hid (El w1 W.heap.size b.1 b.2 ∧ Ew w1 (W.heap.size + 1) 0 0 ∧ Below W.heap.size W w1) := ⟨KB0.out.1.below hb1, KB0.out.2.1.below hb1, KB0.out.2.2.trans (hb1.mono KB0.out.2.2.size)⟩; clear hb1 KB0 HH)
    | (go_at_call 46; refine (HF.out _ K1.out.2.2).mono ?_; rintro e w2 ⟨rfl, hb2⟩; have K2 : Hid (El w2 W.heap.size b.1 b.2 ∧ Ew w2 (W.heap.size + 1) 0 0 ∧ Below W.heap.size W w2) := ⟨K1.out.1.below hb2, K1.out.2.1.below hb2, K1.out.2.2.trans (hb2.mono K1.out.2.2.size)⟩; clear hb2 K1 HF)
    | (go_at_call 47; refine (HWt.out _ _ _ (by rw [HPP.out.2.1]; exact (HQ0.out.below K2.out.2.2).dropE wn)).mono ?_; rintro e w3 ⟨g, cp, rfl, G3, hb3⟩; have K3 : Hid ((El (w3.alloc (Obj.cells #[.int .u64 0, .int .u64 0] 26)) W.heap.size b.1 b.2 ∧ Ew (w3.alloc (Obj.cells #[.int .u64 0, .int .u64 0] 26)) (W.heap.size + 1) 0 0 ∧ Below W.heap.size W (w3.alloc (Obj.cells #[.int .u64 0, .int .u64 0] 26))) ∧ ERow (w3.alloc (Obj.cells #[.int .u64 0, .int .u64 0] 26)) (some ⟨g, 0, none⟩) (Rg.wts ph P) ∧ Ew (w3.alloc (Obj.cells #[.int .u64 0, .int .u64 0] 26)) w3.heap.size 0 0 ∧ g < w3.heap.size ∧ W.heap.size + 1 < w3.heap.size) := ⟨⟨(K2.out.1.below hb3).alloc _, (K2.out.2.1.below hb3).alloc _, (K2.out.2.2.trans (hb3.mono K2.out.2.2.size)).alloc (K2.out.2.2.trans (hb3.mono K2.out.2.2.size)).size _⟩, (own_wts G3).below ((Below.refl _ _).alloc (Nat.le_refl _) _), Ew.roomR w3 _, (G3.lt g rfl).2, (K2.out.2.1.below hb3).toEl.lt⟩; clear hb3 K2 HWt G3; obtain ⟨b1, b0⟩ := K3.out.1.1)
    | (go_at_call 35; refine (HPS.out _).mono ?_; rintro e w4 ⟨q, ql, qb, rfl, PW, hqs, hb4⟩; have K4 : Hid (Tb W w4 g P ph w3.heap.size q ql qb m b (0, 0) (0, 1) ∧ (g < w3.heap.size ∧ w3.heap.size < q ∧ w3.heap.size < ql ∧ w3.heap.size < qb)) := ⟨⟨⟨K3.out.1.2.1.below hb4, K3.out.2.2.1.below hb4, PW, K3.out.1.2.2.trans (hb4.mono K3.out.1.2.2.size), K3.out.2.2.2.2, by have h := hqs.1; simp at h; omega⟩, K3.out.2.1.below hb4⟩, K3.out.2.2.2.1, by have h := hqs.1; simp at h; omega, by have h := hqs.2.1; simp at h; omega, by have h := hqs.2.2; simp at h; omega⟩; clear hb4 PW K3 HPS hqs b1 b0))
  unfold fPow
  have HQ := hidC K4.out.2
  have K5 : Hid (Tb W w4 g P ph w3.heap.size q ql qb m b (ceS b z pl ph cl 0) (bpow b 0)) := K4.out.1
  clear K4
  generalize w3.heap.size = qt at *
  go_loopw [57] (fun u wr => ∃ i : Nat, i ≤ L ∧ u = .int .i64 i ∧ Hid (Tb W wr g P ph qt q ql qb m b (ceS b z pl ph cl i) (bpow b i))) (fun u _ => L - (intOf u).toNat)
  case atStart => exact ⟨0, Nat.zero_le _, rfl, K5⟩
  case round =>
    obtain ⟨i, hi, rfl, HK⟩ := hrel
    clear K5
    by_cases hlt : i < L
    · have i1 : (i : Int) < (L : Int) := by omega
      have i0' : (0 : Int) ≤ (i : Int) := by omega
      obtain ⟨bb, off, rfl, hbb, d0, d1, d2, d3, d4⟩ := HCL.out.2.1.cells i (by rw [HCL.out.2.2.1]; exact hlt)
      have D0 := keepc HK.out.o.d d0
      have D1 := keepc HK.out.o.d d1
      have D2 := keepc HK.out.o.d d2
      have D3 := keepc HK.out.o.d d3
      have D4 := keepc HK.out.o.d d4
      have hkk := HCL.out.1 i hlt
      have hsg := HSG.out i
      have hpl := lt_bpow b i
      have hpo := of_bpow HCL.out.2.2.2.1 HCL.out.2.2.2.2.1 i
      have htl := lt_ceS b z pl ph cl i
      have HN := HAS.out i
      have HB : bpow b (i + 1) = pm (bpow b i) b := rfl
      have HPI := hidC (HPW.out i q ql qb)
      have HTi := hidC (fun (v : World) (aa : Option Addr) (cc : Nat) => HTA.out i v aa cc hlt)
      clear d0 d1 d2 d3 d4 hbb
      generalize sgn2 (cl.getD i zst).a z pl (cl.getD i zst).b.toNat = sg at *
      generalize cl.getD i zst = o at *
      obtain ⟨k, ki, s, v⟩ := o
      dsimp only at *
      obtain ⟨kn, rfl⟩ : ∃ kn : Nat, k = (kn : Int) := ⟨k.toNat, by omega⟩
      rw [Int.toNat_natCast] at HN
      have k1 : (kn : Int) < (P : Int) := hkk.2
      have k0 : (0 : Int) ≤ (kn : Int) := by omega
      have hwl := lt_wt ph kn
      have M1 : Hid (Ret 37 #[.int .i64 (m : Int), .agg #[.int .u64 ((wt ph kn).1 : Int), .int .u64 ((wt ph kn).2 : Int)], .agg #[.int .u64 (sg.1 : Int), .int .u64 (sg.2 : Int)]] (.agg #[.int .u64 ((pm (wt ph kn) sg).1 : Int), .int .u64 ((pm (wt ph kn) sg).2 : Int)])) := by
        have := mul_any (m : Int) (wt ph kn) sg hwl.1 hwl.2 hsg.1.1 hsg.1.2
        rw [mulv_of (hsg.2.2 kn) hsg.2.1] at this
        exact this
      have hso : ofE m (pm (wt ph kn) sg) := of_pm HCL.out.2.2.2.1 (hsg.2.2 kn) hsg.2.1
      have hsl := lt_pm (wt ph kn) sg
      have HWk : Hid ((Rg.wts ph P).getD kn (0, 0) = wt ph kn) := Rg.wts_at ph P (by omega)
      generalize wt ph kn = wk at *
      generalize pm wk sg = sh at *
      have M2 : Hid (Ret 37 #[.int .i64 (m : Int), .agg #[.int .u64 ((bpow b i).1 : Int), .int .u64 ((bpow b i).2 : Int)], .agg #[.int .u64 (sh.1 : Int), .int .u64 (sh.2 : Int)]] (.agg #[.int .u64 ((pm (bpow b i) sh).1 : Int), .int .u64 ((pm (bpow b i) sh).2 : Int)])) := by
        have := mul_any (m : Int) (bpow b i) sh hpl.1 hpl.2 hsl.1 hsl.2
        rw [mulv_of hpo hso] at this
        exact this
      have AD : Hid (Ret 36 #[.agg #[.int .u64 ((ceS b z pl ph cl i).1 : Int), .int .u64 ((ceS b z pl ph cl i).2 : Int)], .agg #[.int .u64 ((pm (bpow b i) sh).1 : Int), .int .u64 ((pm (bpow b i) sh).2 : Int)]] (.agg #[.int .u64 ((xa (ceS b z pl ph cl i) (pm (bpow b i) sh)).1 : Int), .int .u64 ((xa (ceS b z pl ph cl i) (pm (bpow b i) sh)).2 : Int)])) := fun w => add_any _ _ _ _ htl.1 htl.2 (lt_pm _ _).1 (lt_pm _ _).2 w
      rw [← HN] at AD
      rw [← HB] at HPI
      obtain ⟨t', ht'⟩ : ∃ t', t' = ceS b z pl ph cl (i + 1) := ⟨_, rfl⟩
      obtain ⟨n', hn'⟩ : ∃ n', n' = bpow b (i + 1) := ⟨_, rfl⟩
      rw [← ht'] at AD
      rw [← hn'] at HPI
      have HT' : Hid (t' = ceS b z pl ph cl (i + 1) ∧ n' = bpow b (i + 1)) := ⟨ht', hn'⟩
      clear ht' hn' HN HB htl hpl hpo hsl hso hsg hkk hwl
      generalize ceS b z pl ph cl i = t at *
      generalize bpow b i = n0 at *
      generalize pm n0 sh = y at *
      go_upto_region 13 with fail
      have K : Tb W (wr.alloc (Obj.cells #[.int .i64 (kn : Int), .int .i64 ki, .int .i64 s, .int .u64 (v.1 : Int), .int .u64 (v.2 : Int)] 60)) g P ph qt q ql qb m b t n0 := HK.out.alloc _
      have C0 : (wr.alloc (Obj.cells #[.int .i64 (kn : Int), .int .i64 ki, .int .i64 s, .int .u64 (v.1 : Int), .int .u64 (v.2 : Int)] 60)).cell? ⟨wr.heap.size, 0, none⟩ = some (.int .i64 (kn : Int)) := by simp [go_sem]
      have C1 : (wr.alloc (Obj.cells #[.int .i64 (kn : Int), .int .i64 ki, .int .i64 s, .int .u64 (v.1 : Int), .int .u64 (v.2 : Int)] 60)).cell? ⟨wr.heap.size, 1, none⟩ = some (.int .i64 ki) := by simp [go_sem]
      have C2 : (wr.alloc (Obj.cells #[.int .i64 (kn : Int), .int .i64 ki, .int .i64 s, .int .u64 (v.1 : Int), .int .u64 (v.2 : Int)] 60)).cell? ⟨wr.heap.size, 2, none⟩ = some (.int .i64 s) := by simp [go_sem]
      clear HK D0 D1 D2 D3 D4
      generalize (wr.alloc (Obj.cells #[.int .i64 (kn : Int), .int .i64 ki, .int .i64 s, .int .u64 (v.1 : Int), .int .u64 (v.2 : Int)] 60)) = wz at *
      generalize wr.heap.size = qc at *
      go_cut [23, 24] (fun p23 p24 wx => ∃ q23 : Nat, p23 = .pointer (some ⟨q23, 0, none⟩) ∧ p24 = .int .i64 0 ∧ Hid (El wx q23 sg.1 sg.2 ∧ Tb W wx g P ph qt q ql qb m b t n0 ∧ wx.cell? ⟨qc, 0, none⟩ = some (.int .i64 (kn : Int))))
      case first =>
        refine wp_region_noPanic ?_
        refine wp_region_peel (S := fun w => w.cell? ⟨qc, 1, none⟩ = some (.int .i64 ki) ∧ w.cell? ⟨qc, 2, none⟩ = some (.int .i64 s)) 16 (by kernel_rfl) rfl (by kernel_rfl) ?_ (fun hHeld => ?_)
        · exact ⟨C1, C2⟩
        refine wpAnyH_take (i := 0) (oi := _) (v := ?_) rfl (by kernel_rfl) (by kernel_rfl) (by kernel_rfl) (fun _ _ _ h => h) (Or.inl ⟨by rfl, ?_⟩) (by assumption) ?_
        rotate_left
        · ((intro w hSw; (try dsimp only at hSw); go_simp) <;> (try with_reducible rfl))
        show wpAnyH _ _ _ _ _ _ _ (Act.put _ (some 62) _) _
        simp only [Act.put, List.setIfInBounds_toArray, List.set_cons_succ, List.set_cons_zero]
        refine wpAnyH_take (i := 1) (oi := _) (v := ?_) rfl (by kernel_rfl) (by kernel_rfl) (by kernel_rfl) (fun _ _ _ h => h) (Or.inl ⟨by rfl, ?_⟩) (by assumption) ?_
        rotate_left
        · ((intro w hSw; (try dsimp only at hSw); go_simp) <;> (try with_reducible rfl))
        show wpAnyH _ _ _ _ _ _ _ (Act.put _ (some 63) _) _
        simp only [Act.put, List.setIfInBounds_toArray, List.set_cons_succ, List.set_cons_zero]
        refine wpAnyH_take (i := 2) (oi := _) (v := ?_) rfl (by kernel_rfl) (by kernel_rfl) (by kernel_rfl) (fun _ _ _ h => h) (Or.inl ⟨by rfl, ?_⟩) (by assumption) ?_
        rotate_left
        · ((intro w hSw; (try dsimp only at hSw); go_simp) <;> (try with_reducible rfl))
        show wpAnyH _ _ _ _ _ _ _ (Act.put _ (some 64) _) _
        simp only [Act.put, List.setIfInBounds_toArray, List.set_cons_succ, List.set_cons_zero]
        refine wpAnyH_take (i := 3) (oi := _) (v := ?_) rfl (by kernel_rfl) (by kernel_rfl) (by kernel_rfl) (fun _ _ _ h => h) (Or.inl ⟨by rfl, ?_⟩) (by assumption) ?_
        rotate_left
        · ((intro w hSw; (try dsimp only at hSw); go_simp) <;> (try with_reducible rfl))
        show wpAnyH _ _ _ _ _ _ _ (Act.put _ (some 65) _) _
        simp only [Act.put, List.setIfInBounds_toArray, List.set_cons_succ, List.set_cons_zero]
        refine wpAnyH_take (i := 4) (oi := _) (v := ?_) rfl (by kernel_rfl) (by kernel_rfl) (by kernel_rfl) (fun _ _ _ h => h) (Or.inl ⟨by rfl, ?_⟩) (by assumption) ?_
        rotate_left
        · ((intro w hSw; (try dsimp only at hSw); go_simp) <;> (try with_reducible rfl))
        show wpAnyH _ _ _ _ _ _ _ (Act.put _ (some 66) _) _
        simp only [Act.put, List.setIfInBounds_toArray, List.set_cons_succ, List.set_cons_zero]
        refine wpAnyH_take (i := 5) (oi := _) (v := ?_) rfl (by kernel_rfl) (by kernel_rfl) (by kernel_rfl) (fun _ _ _ h => h) (Or.inl ⟨by rfl, ?_⟩) (by assumption) ?_
        rotate_left
        · ((intro w hSw; (try dsimp only at hSw); go_simp) <;> (try with_reducible rfl))
        show wpAnyH _ _ _ _ _ _ _ (Act.put _ (some 67) _) _
        simp only [Act.put, List.setIfInBounds_toArray, List.set_cons_succ, List.set_cons_zero]
        refine wpAnyH_take (i := 6) (oi := _) (v := ?_) rfl (by kernel_rfl) (by kernel_rfl) (by kernel_rfl) (fun _ _ _ h => h) (Or.inl ⟨by rfl, ?_⟩) (by assumption) ?_
        rotate_left
        · ((intro w hSw; (try dsimp only at hSw); go_simp) <;> (try with_reducible rfl))
        show wpAnyH _ _ _ _ _ _ _ (Act.put _ (some 68) _) _
        simp only [Act.put, List.setIfInBounds_toArray, List.set_cons_succ, List.set_cons_zero]
        refine wpAnyH_take (i := 7) (oi := _) (v := ?_) rfl (by kernel_rfl) (by kernel_rfl) (by kernel_rfl) (fun _ _ _ h => h) (Or.inl ⟨by rfl, ?_⟩) (by assumption) ?_
        rotate_left
        · ((intro w hSw; (try dsimp only at hSw); go_simp) <;> (try with_reducible rfl))
        show wpAnyH _ _ _ _ _ _ _ (Act.put _ (some 69) _) _
        simp only [Act.put, List.setIfInBounds_toArray, List.set_cons_succ, List.set_cons_zero]
        refine wpAnyH_take (i := 8) (oi := _) (v := ?_) rfl (by kernel_rfl) (by kernel_rfl) (by kernel_rfl) (fun _ _ _ h => h) (Or.inl ⟨by rfl, ?_⟩) (by assumption) ?_
        rotate_left
        · ((intro w hSw; (try dsimp only at hSw); go_simp) <;> (try with_reducible rfl))
        show wpAnyH _ _ _ _ _ _ _ (Act.put _ (some 70) _) _
        simp only [Act.put, List.setIfInBounds_toArray, List.set_cons_succ, List.set_cons_zero]
        refine wpAnyH_take (i := 9) (oi := _) (v := ?_) rfl (by kernel_rfl) (by kernel_rfl) (by kernel_rfl) (fun _ _ _ h => h) (Or.inl ⟨by rfl, ?_⟩) (by assumption) ?_
        rotate_left
        · ((intro w hSw; (try dsimp only at hSw); go_simp) <;> (try with_reducible rfl))
        show wpAnyH _ _ _ _ _ _ _ (Act.put _ (some 71) _) _
        simp only [Act.put, List.setIfInBounds_toArray, List.set_cons_succ, List.set_cons_zero]
        have K' := K.drew
        have C0' : wz.drew.cell? ⟨qc, 0, none⟩ = some (.int .i64 (kn : Int)) := C0
        have C1' : wz.drew.cell? ⟨qc, 1, none⟩ = some (.int .i64 ki) := C1
        have C2' : wz.drew.cell? ⟨qc, 2, none⟩ = some (.int .i64 s) := C2
        clear K C0 C1 C2
        have K := K'
        have C0 := C0'
        have C1 := C1'
        have C2 := C2'
        clear K' C0' C1' C2'
        generalize wz.drew = wd at *
        refine wpAnyH_ready (rs := [10, 14]) (by kernel_rfl) (by simp) ?_
        refine (AllReadyH.cons (o := _) rfl (fun KK hKK => ?_) (AllReadyH.cons (o := _) rfl (fun KK hKK => ?_) AllReadyH.nil))
        · skip
          go_simp
          (go_at_call 48; refine (HTi.out _ _ _ K.o.d (by rw [HPP.out.1]; exact (HQ0.out.below K.o.d).takeE wn)).mono ?_; rintro e w' ⟨rfl, hb'⟩)
          have K' := K.below hb'
          have C0' := keepc hb' C0
          have C1' := keepc hb' C1
          have C2' := keepc hb' C2
          clear K C0 C1 C2 hb'
          have K := K'
          have C0 := C0'
          have C1 := C1'
          have C2 := C2'
          clear K' C0' C1' C2'
          refine hKK.out _ _ ?_ (fun hHeld => ?_)
          · exact ⟨C1, C2⟩
          clear hKK KK
          try simp only [Act.put]
          refine wpAnyH_take (i := 11) (oi := _) (v := ?_) rfl (by kernel_rfl) (by kernel_rfl) (by kernel_rfl) (fun _ _ _ h => h) (Or.inl ⟨by rfl, ?_⟩) (by assumption) ?_
          rotate_left
          · ((intro w hSw; (try dsimp only at hSw); go_simp) <;> (try with_reducible rfl))
          show wpAnyH _ _ _ _ _ _ _ (Act.put _ (some 61) _) _
          simp only [Act.put, List.setIfInBounds_toArray, List.set_cons_succ, List.set_cons_zero]
          refine wpAnyH_take (i := 12) (oi := _) (v := ?_) rfl (by kernel_rfl) (by kernel_rfl) (by kernel_rfl) (fun _ _ _ h => h) (Or.inl ⟨by rfl, ?_⟩) (by assumption) ?_
          rotate_left
          · ((intro w hSw; (try dsimp only at hSw); go_simp) <;> (try with_reducible rfl))
          show wpAnyH _ _ _ _ _ _ _ (Act.put _ (some 73) _) _
          simp only [Act.put, List.setIfInBounds_toArray, List.set_cons_succ, List.set_cons_zero]
          refine wpAnyH_take (i := 13) (oi := _) (v := ?_) rfl (by kernel_rfl) (by kernel_rfl) (by kernel_rfl) (fun _ _ _ h => h) (Or.inl ⟨by rfl, ?_⟩) (by assumption) ?_
          rotate_left
          · ((intro w hSw; (try dsimp only at hSw); go_simp) <;> (try with_reducible rfl))
          show wpAnyH _ _ _ _ _ _ _ (Act.put _ (some 74) _) _
          simp only [Act.put, List.setIfInBounds_toArray, List.set_cons_succ, List.set_cons_zero]
          refine wpAnyH_ready (rs := [14]) (by kernel_rfl) (by simp) ?_
          refine (AllReadyH.cons (o := _) rfl (fun KK hKK => ?_) AllReadyH.nil)
          go_simp
          have hq3 := K.above
          have hqc : qc < w'.heap.size := cell_lt C0
          have E3 : Ew (w'.alloc (Obj.cells #[.int .u64 0, .int .u64 0] 26)) w'.heap.size 0 0 := Ew.roomR w' _
          have hb' : Below w'.heap.size w' (w'.alloc (Obj.cells #[.int .u64 0, .int .u64 0] 26)) := (Below.refl _ _).alloc (Nat.le_refl _) _
          have K' := K.below hb'
          have C0' := keepc hb' C0
          have C1' := keepc hb' C1
          have C2' := keepc hb' C2
          clear K C0 C1 C2 hb'
          have K := K'
          have C0 := C0'
          have C1 := C1'
          have C2 := C2'
          clear K' C0' C1' C2'
          generalize w'.alloc (Obj.cells #[.int .u64 0, .int .u64 0] 26) = v3 at *
          generalize w'.heap.size = q3 at *
          refine hKK.out _ _ ?_ (fun hHeld => ?_)
          · exact ⟨C1, C2⟩
          clear hKK KK
          try simp only [Act.put]
          refine wpAnyH_ready (rs := [15]) (by kernel_rfl) (by simp) ?_
          refine (AllReadyH.cons (o := _) rfl (fun KK hKK => ?_) AllReadyH.nil)
          have r1 := E3.hi
          have r0 := E3.lo
          have f1 := E3.fhi
          have f0 := E3.flo
          go_simp
          have K' := K.offB (b' := q3) HQ.out.1 hq3.1 hq3.2 (.int .u64 (sg.1 : Int)) (.int .u64 (sg.2 : Int))
          have E3' := E3.set sg.1 sg.2
          have C0' := set_far hqc (.int .u64 (sg.1 : Int)) (.int .u64 (sg.2 : Int)) C0
          have C1' := set_far hqc (.int .u64 (sg.1 : Int)) (.int .u64 (sg.2 : Int)) C1
          have C2' := set_far hqc (.int .u64 (sg.1 : Int)) (.int .u64 (sg.2 : Int)) C2
          clear K E3 C0 C1 C2 r1 r0 f1 f0
          have K := K'
          have E3 := E3'
          have C0 := C0'
          have C1 := C1'
          have C2 := C2'
          clear K' E3' C0' C1' C2'
          refine hKK.out _ _ ?_ (fun hHeld => ?_)
          · exact ⟨C1, C2⟩
          clear hKK KK
          try simp only [Act.put]
          refine wpAnyH_done (by kernel_rfl) ?_ _
          refine peel_last rfl (fun KK hKK => ?_)
          clear hHeld
          go_simp
          refine hKK _ _ ?_
          refine NoPanic.normal ?_
          go_wp2_with fail
          go_meet
          exact ⟨q3, rfl, rfl, ⟨E3.toEl, K, C0⟩⟩
        · skip
          go_simp
          have hq3 := K.above
          have hqc : qc < wd.heap.size := cell_lt C0
          have E3 : Ew (wd.alloc (Obj.cells #[.int .u64 0, .int .u64 0] 26)) wd.heap.size 0 0 := Ew.roomR wd _
          have hb' : Below wd.heap.size wd (wd.alloc (Obj.cells #[.int .u64 0, .int .u64 0] 26)) := (Below.refl _ _).alloc (Nat.le_refl _) _
          have K' := K.below hb'
          have C0' := keepc hb' C0
          have C1' := keepc hb' C1
          have C2' := keepc hb' C2
          clear K C0 C1 C2 hb'
          have K := K'
          have C0 := C0'
          have C1 := C1'
          have C2 := C2'
          clear K' C0' C1' C2'
          generalize wd.alloc (Obj.cells #[.int .u64 0, .int .u64 0] 26) = v3 at *
          generalize wd.heap.size = q3 at *
          refine hKK.out _ _ ?_ (fun hHeld => ?_)
          · exact ⟨C1, C2⟩
          clear hKK KK
          try simp only [Act.put]
          refine wpAnyH_ready (rs := [10]) (by kernel_rfl) (by simp) ?_
          refine (AllReadyH.cons (o := _) rfl (fun KK hKK => ?_) AllReadyH.nil)
          go_simp
          (go_at_call 48; refine (HTi.out _ _ _ K.o.d (by rw [HPP.out.1]; exact (HQ0.out.below K.o.d).takeE wn)).mono ?_; rintro e w' ⟨rfl, hb'⟩)
          have K' := K.below hb'
          have C0' := keepc hb' C0
          have C1' := keepc hb' C1
          have C2' := keepc hb' C2
          have E3' := E3.below hb'
          clear K C0 C1 C2 E3 hb'
          have K := K'
          have C0 := C0'
          have C1 := C1'
          have C2 := C2'
          have E3 := E3'
          clear K' C0' C1' C2' E3'
          refine hKK.out _ _ ?_ (fun hHeld => ?_)
          · exact ⟨C1, C2⟩
          clear hKK KK
          try simp only [Act.put]
          refine wpAnyH_take (i := 11) (oi := _) (v := ?_) rfl (by kernel_rfl) (by kernel_rfl) (by kernel_rfl) (fun _ _ _ h => h) (Or.inl ⟨by rfl, ?_⟩) (by assumption) ?_
          rotate_left
          · ((intro w hSw; (try dsimp only at hSw); go_simp) <;> (try with_reducible rfl))
          show wpAnyH _ _ _ _ _ _ _ (Act.put _ (some 61) _) _
          simp only [Act.put, List.setIfInBounds_toArray, List.set_cons_succ, List.set_cons_zero]
          refine wpAnyH_take (i := 12) (oi := _) (v := ?_) rfl (by kernel_rfl) (by kernel_rfl) (by kernel_rfl) (fun _ _ _ h => h) (Or.inl ⟨by rfl, ?_⟩) (by assumption) ?_
          rotate_left
          · ((intro w hSw; (try dsimp only at hSw); go_simp) <;> (try with_reducible rfl))
          show wpAnyH _ _ _ _ _ _ _ (Act.put _ (some 73) _) _
          simp only [Act.put, List.setIfInBounds_toArray, List.set_cons_succ, List.set_cons_zero]
          refine wpAnyH_take (i := 13) (oi := _) (v := ?_) rfl (by kernel_rfl) (by kernel_rfl) (by kernel_rfl) (fun _ _ _ h => h) (Or.inl ⟨by rfl, ?_⟩) (by assumption) ?_
          rotate_left
          · ((intro w hSw; (try dsimp only at hSw); go_simp) <;> (try with_reducible rfl))
          show wpAnyH _ _ _ _ _ _ _ (Act.put _ (some 74) _) _
          simp only [Act.put, List.setIfInBounds_toArray, List.set_cons_succ, List.set_cons_zero]
          refine wpAnyH_ready (rs := [15]) (by kernel_rfl) (by simp) ?_
          refine (AllReadyH.cons (o := _) rfl (fun KK hKK => ?_) AllReadyH.nil)
          have r1 := E3.hi
          have r0 := E3.lo
          have f1 := E3.fhi
          have f0 := E3.flo
          go_simp
          have K' := K.offB (b' := q3) HQ.out.1 hq3.1 hq3.2 (.int .u64 (sg.1 : Int)) (.int .u64 (sg.2 : Int))
          have E3' := E3.set sg.1 sg.2
          have C0' := set_far hqc (.int .u64 (sg.1 : Int)) (.int .u64 (sg.2 : Int)) C0
          have C1' := set_far hqc (.int .u64 (sg.1 : Int)) (.int .u64 (sg.2 : Int)) C1
          have C2' := set_far hqc (.int .u64 (sg.1 : Int)) (.int .u64 (sg.2 : Int)) C2
          clear K E3 C0 C1 C2 r1 r0 f1 f0
          have K := K'
          have E3 := E3'
          have C0 := C0'
          have C1 := C1'
          have C2 := C2'
          clear K' E3' C0' C1' C2'
          refine hKK.out _ _ ?_ (fun hHeld => ?_)
          · exact ⟨C1, C2⟩
          clear hKK KK
          try simp only [Act.put]
          refine wpAnyH_done (by kernel_rfl) ?_ _
          refine peel_last rfl (fun KK hKK => ?_)
          clear hHeld
          go_simp
          refine hKK _ _ ?_
          refine NoPanic.normal ?_
          go_wp2_with fail
          go_meet
          exact ⟨q3, rfl, rfl, ⟨E3.toEl, K, C0⟩⟩
      case rest =>
        obtain ⟨q23, rfl, rfl, KR⟩ := hcut
        clear K C0 C1 C2 HTi
        obtain ⟨s1, s0⟩ := KR.out.1
        go_upto_region 16 with fail
        have E2 := KR.out.1
        have K := KR.out.2.1
        have C0 := KR.out.2.2
        obtain ⟨b9, o9, e9, hb9, G1, G0⟩ := K.w.cells kn (by rw [Rg.wts_len]; omega)
        injection e9 with e9
        injection e9 with e9a e9b
        subst e9a e9b
        rw [Nat.zero_add, HWk.out] at G1 G0
        clear KR s1 s0 hb9
        obtain ⟨wx, rfl⟩ : ∃ w, w = wc := ⟨_, rfl⟩
        go_cut [25] (fun p25 wx => ∃ q25 : Nat, p25 = .pointer (some ⟨q25, 0, none⟩) ∧ Hid (El wx q25 sh.1 sh.2 ∧ Tb W wx g P ph qt q ql qb m b t n0 ∧ q < q25))
        case first =>
          refine wp_region_noPanic ?_
          refine wp_region_peel (S := fun w => w.cell? ⟨qc, 0, none⟩ = some (.int .i64 (kn : Int)) ∧ (w.cell? ⟨g, kn * 2, none⟩ = some (.int .u64 (wk.1 : Int)) ∧ w.cell? ⟨g, kn * 2 + 1, none⟩ = some (.int .u64 (wk.2 : Int))) ∧ w.cell? ⟨q23, 0, none⟩ = some (.int .u64 (sg.1 : Int)) ∧ w.cell? ⟨q23, 1, none⟩ = some (.int .u64 (sg.2 : Int))) 9 (by kernel_rfl) rfl (by kernel_rfl) ?_ (fun hHeld => ?_)
          · exact ⟨C0, ⟨G1, G0⟩, E2.hi, E2.lo⟩
          refine wpAnyH_take (i := 0) (oi := _) (v := ?_) rfl (by kernel_rfl) (by kernel_rfl) (by kernel_rfl) (fun _ _ _ h => h) (Or.inl ⟨by rfl, ?_⟩) (by assumption) ?_
          rotate_left
          · ((intro w hSw; (try dsimp only at hSw); go_simp) <;> (try with_reducible rfl))
          show wpAnyH _ _ _ _ _ _ _ (Act.put _ (some 79) _) _
          simp only [Act.put, List.setIfInBounds_toArray, List.set_cons_succ, List.set_cons_zero]
          refine wpAnyH_take (i := 1) (oi := _) (v := ?_) rfl (by kernel_rfl) (by kernel_rfl) (by kernel_rfl) (fun _ _ _ h => h) (Or.inl ⟨by rfl, ?_⟩) (by assumption) ?_
          rotate_left
          · ((intro w hSw; (try dsimp only at hSw); go_simp) <;> (try with_reducible rfl))
          show wpAnyH _ _ _ _ _ _ _ (Act.put _ (some 80) _) _
          simp only [Act.put, List.setIfInBounds_toArray, List.set_cons_succ, List.set_cons_zero]
          refine wpAnyH_take (i := 2) (oi := _) (v := ?_) rfl (by kernel_rfl) (by kernel_rfl) (by kernel_rfl) (fun _ _ _ h => h) (Or.inl ⟨by rfl, ?_⟩) (by assumption) ?_
          rotate_left
          · ((intro w hSw; (try dsimp only at hSw); go_simp) <;> (try with_reducible rfl))
          show wpAnyH _ _ _ _ _ _ _ (Act.put _ (some 81) _) _
          simp only [Act.put, List.setIfInBounds_toArray, List.set_cons_succ, List.set_cons_zero]
          refine wpAnyH_take (i := 3) (oi := _) (v := ?_) rfl (by kernel_rfl) (by kernel_rfl) (by kernel_rfl) (fun _ _ _ h => h) (Or.inl ⟨by rfl, ?_⟩) (by assumption) ?_
          rotate_left
          · ((intro w hSw; (try dsimp only at hSw); go_simp) <;> (try with_reducible rfl))
          show wpAnyH _ _ _ _ _ _ _ (Act.put _ (some 82) _) _
          simp only [Act.put, List.setIfInBounds_toArray, List.set_cons_succ, List.set_cons_zero]
          refine wpAnyH_take (i := 4) (oi := _) (v := ?_) rfl (by kernel_rfl) (by kernel_rfl) (by kernel_rfl) (fun _ _ _ h => h) (Or.inl ⟨by rfl, ?_⟩) (by assumption) ?_
          rotate_left
          · ((intro w hSw; (try dsimp only at hSw); go_simp) <;> (try with_reducible rfl))
          show wpAnyH _ _ _ _ _ _ _ (Act.put _ (some 83) _) _
          simp only [Act.put, List.setIfInBounds_toArray, List.set_cons_succ, List.set_cons_zero]
          refine wpAnyH_take (i := 5) (oi := _) (v := ?_) rfl (by kernel_rfl) (by kernel_rfl) (by kernel_rfl) (fun _ _ _ h => h) (Or.inl ⟨by rfl, ?_⟩) (by assumption) ?_
          rotate_left
          · ((intro w hSw; (try dsimp only at hSw); go_simp) <;> (try with_reducible rfl))
          show wpAnyH _ _ _ _ _ _ _ (Act.put _ (some 84) _) _
          simp only [Act.put, List.setIfInBounds_toArray, List.set_cons_succ, List.set_cons_zero]
          refine wpAnyH_take (i := 6) (oi := _) (v := ?_) rfl (by kernel_rfl) (by kernel_rfl) (by kernel_rfl) (fun _ _ _ h => h) (Or.inl ⟨by rfl, ?_⟩) (by assumption) ?_
          rotate_left
          · ((intro w hSw; (try dsimp only at hSw); go_simp) <;> (try with_reducible rfl))
          show wpAnyH _ _ _ _ _ _ _ (Act.put _ (some 85) _) _
          simp only [Act.put, List.setIfInBounds_toArray, List.set_cons_succ, List.set_cons_zero]
          have K' := K.drew
          have E2' := E2.drew
          have C0' : wx.drew.cell? ⟨qc, 0, none⟩ = some (.int .i64 (kn : Int)) := C0
          have G1' : wx.drew.cell? ⟨g, kn * 2, none⟩ = some (.int .u64 (wk.1 : Int)) := G1
          have G0' : wx.drew.cell? ⟨g, kn * 2 + 1, none⟩ = some (.int .u64 (wk.2 : Int)) := G0
          clear K E2 C0 G1 G0
          have K := K'
          have E2 := E2'
          have C0 := C0'
          have G1 := G1'
          have G0 := G0'
          clear K' E2' C0' G1' G0'
          generalize wx.drew = wd at *
          refine wpAnyH_ready (rs := [7, 8]) (by kernel_rfl) (by simp) ?_
          refine (AllReadyH.cons (o := _) rfl (fun KK hKK => ?_) (AllReadyH.cons (o := _) rfl (fun KK hKK => ?_) AllReadyH.nil))
          · skip
            go_simp
            (go_at_call 37; refine (M1.out.go _).mono ?_; rintro e w' ⟨rfl, hb'⟩)
            have K' := K.below hb'
            have E2' := E2.below hb'
            have C0' := keepc hb' C0
            have G1' := keepc hb' G1
            have G0' := keepc hb' G0
            clear K E2 C0 G1 G0 hb'
            have K := K'
            have E2 := E2'
            have C0 := C0'
            have G1 := G1'
            have G0 := G0'
            clear K' E2' C0' G1' G0'
            refine hKK.out _ _ ?_ (fun hHeld => ?_)
            · exact ⟨C0, ⟨G1, G0⟩, E2.hi, E2.lo⟩
            clear hKK KK
            try simp only [Act.put]
            refine wpAnyH_ready (rs := [8]) (by kernel_rfl) (by simp) ?_
            refine (AllReadyH.cons (o := _) rfl (fun KK hKK => ?_) AllReadyH.nil)
            go_simp
            have hq3 := K.above
            have E3 : Ew (w'.alloc (Obj.cells #[.int .u64 0, .int .u64 0] 26)) w'.heap.size 0 0 := Ew.roomR w' _
            have hb' : Below w'.heap.size w' (w'.alloc (Obj.cells #[.int .u64 0, .int .u64 0] 26)) := (Below.refl _ _).alloc (Nat.le_refl _) _
            have K' := K.below hb'
            have E2' := E2.below hb'
            have C0' := keepc hb' C0
            have G1' := keepc hb' G1
            have G0' := keepc hb' G0
            clear K E2 C0 G1 G0 hb'
            have K := K'
            have E2 := E2'
            have C0 := C0'
            have G1 := G1'
            have G0 := G0'
            clear K' E2' C0' G1' G0'
            generalize w'.alloc (Obj.cells #[.int .u64 0, .int .u64 0] 26) = v3 at *
            generalize w'.heap.size = q3 at *
            refine hKK.out _ _ ?_ (fun hHeld => ?_)
            · exact ⟨C0, ⟨G1, G0⟩, E2.hi, E2.lo⟩
            clear hKK KK
            try simp only [Act.put]
            refine wpAnyH_done (by kernel_rfl) ?_ _
            refine peel_last rfl (fun KK hKK => ?_)
            clear hHeld
            have r1 := E3.hi
            have r0 := E3.lo
            have f1 := E3.fhi
            have f0 := E3.flo
            go_simp
            refine hKK _ _ ?_
            refine NoPanic.normal ?_
            have K' := K.offB (b' := q3) HQ.out.1 hq3.1 hq3.2 (.int .u64 (sh.1 : Int)) (.int .u64 (sh.2 : Int))
            have E3' := E3.set sh.1 sh.2
            go_wp2_with fail
            go_meet
            exact ⟨q3, rfl, ⟨E3'.toEl, K', hq3.2.2.1⟩⟩
          · skip
            go_simp
            have hq3 := K.above
            have E3 : Ew (wd.alloc (Obj.cells #[.int .u64 0, .int .u64 0] 26)) wd.heap.size 0 0 := Ew.roomR wd _
            have hb' : Below wd.heap.size wd (wd.alloc (Obj.cells #[.int .u64 0, .int .u64 0] 26)) := (Below.refl _ _).alloc (Nat.le_refl _) _
            have K' := K.below hb'
            have E2' := E2.below hb'
            have C0' := keepc hb' C0
            have G1' := keepc hb' G1
            have G0' := keepc hb' G0
            clear K E2 C0 G1 G0 hb'
            have K := K'
            have E2 := E2'
            have C0 := C0'
            have G1 := G1'
            have G0 := G0'
            clear K' E2' C0' G1' G0'
            generalize wd.alloc (Obj.cells #[.int .u64 0, .int .u64 0] 26) = v3 at *
            generalize wd.heap.size = q3 at *
            refine hKK.out _ _ ?_ (fun hHeld => ?_)
            · exact ⟨C0, ⟨G1, G0⟩, E2.hi, E2.lo⟩
            clear hKK KK
            try simp only [Act.put]
            refine wpAnyH_ready (rs := [7]) (by kernel_rfl) (by simp) ?_
            refine (AllReadyH.cons (o := _) rfl (fun KK hKK => ?_) AllReadyH.nil)
            go_simp
            (go_at_call 37; refine (M1.out.go _).mono ?_; rintro e w' ⟨rfl, hb'⟩)
            have K' := K.below hb'
            have E2' := E2.below hb'
            have C0' := keepc hb' C0
            have G1' := keepc hb' G1
            have G0' := keepc hb' G0
            have E3' := E3.below hb'
            clear K E2 C0 G1 G0 E3 hb'
            have K := K'
            have E2 := E2'
            have C0 := C0'
            have G1 := G1'
            have G0 := G0'
            have E3 := E3'
            clear K' E2' C0' G1' G0' E3'
            refine hKK.out _ _ ?_ (fun hHeld => ?_)
            · exact ⟨C0, ⟨G1, G0⟩, E2.hi, E2.lo⟩
            clear hKK KK
            try simp only [Act.put]
            refine wpAnyH_done (by kernel_rfl) ?_ _
            refine peel_last rfl (fun KK hKK => ?_)
            clear hHeld
            have r1 := E3.hi
            have r0 := E3.lo
            have f1 := E3.fhi
            have f0 := E3.flo
            go_simp
            refine hKK _ _ ?_
            refine NoPanic.normal ?_
            have K' := K.offB (b' := q3) HQ.out.1 hq3.1 hq3.2 (.int .u64 (sh.1 : Int)) (.int .u64 (sh.2 : Int))
            have E3' := E3.set sh.1 sh.2
            go_wp2_with fail
            go_meet
            exact ⟨q3, rfl, ⟨E3'.toEl, K', hq3.2.2.1⟩⟩
        case rest =>
          obtain ⟨q25, rfl, KR⟩ := hcut
          clear K E2 C0 G1 G0 M1
          have VX := KR.out.1
          have K := KR.out.2.1
          have hq25 := KR.out.2.2
          clear KR
          go_upto_region 17 with fail
          obtain ⟨wy, rfl⟩ : ∃ w, w = wc := ⟨_, rfl⟩
          refine wp_region_noPanic ?_
          refine wp_region_peel (S := fun w => (w.cell? ⟨qt, 0, none⟩ = some (.int .u64 (t.1 : Int)) ∧ w.cell? ⟨qt, 1, none⟩ = some (.int .u64 (t.2 : Int))) ∧ w.cell? ⟨q25, 0, none⟩ = some (.int .u64 (sh.1 : Int)) ∧ w.cell? ⟨q25, 1, none⟩ = some (.int .u64 (sh.2 : Int))) 7 (by kernel_rfl) rfl (by kernel_rfl) ?_ (fun hHeld => ?_)
          · exact ⟨⟨K.o.t.hi, K.o.t.lo⟩, VX.hi, VX.lo⟩
          refine wpAnyH_take (i := 0) (oi := _) (v := ?_) rfl (by kernel_rfl) (by kernel_rfl) (by kernel_rfl) (fun _ _ _ h => h) (Or.inl ⟨by rfl, ?_⟩) (by assumption) ?_
          rotate_left
          · ((intro w hSw; (try dsimp only at hSw); go_simp) <;> (try with_reducible rfl))
          show wpAnyH _ _ _ _ _ _ _ (Act.put _ (some 87) _) _
          simp only [Act.put, List.setIfInBounds_toArray, List.set_cons_succ, List.set_cons_zero]
          refine wpAnyH_take (i := 1) (oi := _) (v := ?_) rfl (by kernel_rfl) (by kernel_rfl) (by kernel_rfl) (fun _ _ _ h => h) (Or.inl ⟨by rfl, ?_⟩) (by assumption) ?_
          rotate_left
          · ((intro w hSw; (try dsimp only at hSw); go_simp) <;> (try with_reducible rfl))
          show wpAnyH _ _ _ _ _ _ _ (Act.put _ (some 88) _) _
          simp only [Act.put, List.setIfInBounds_toArray, List.set_cons_succ, List.set_cons_zero]
          refine wpAnyH_take (i := 2) (oi := _) (v := ?_) rfl (by kernel_rfl) (by kernel_rfl) (by kernel_rfl) (fun _ _ _ h => h) (Or.inl ⟨by rfl, ?_⟩) (by assumption) ?_
          rotate_left
          · ((intro w hSw; (try dsimp only at hSw); go_simp) <;> (try with_reducible rfl))
          show wpAnyH _ _ _ _ _ _ _ (Act.put _ (some 89) _) _
          simp only [Act.put, List.setIfInBounds_toArray, List.set_cons_succ, List.set_cons_zero]
          refine wpAnyH_take (i := 4) (oi := _) (v := ?_) rfl (by kernel_rfl) (by kernel_rfl) (by kernel_rfl) (fun _ _ _ h => h) (Or.inl ⟨by rfl, ?_⟩) (by assumption) ?_
          rotate_left
          · ((intro w hSw; (try dsimp only at hSw); go_simp) <;> (try with_reducible rfl))
          show wpAnyH _ _ _ _ _ _ _ (Act.put _ (some 91) _) _
          simp only [Act.put, List.setIfInBounds_toArray, List.set_cons_succ, List.set_cons_zero]
          have K' := K.drew
          have VX' := VX.drew
          clear K VX
          have K := K'
          have VX := VX'
          clear K' VX'
          generalize wy.drew = wd at *
          refine wpAnyH_ready (rs := [3]) (by kernel_rfl) (by simp) ?_
          refine (AllReadyH.cons (o := _) rfl (fun KK hKK => ?_) AllReadyH.nil)
          go_simp
          (go_at_call 60; refine (HPI.out _ K.o.p).mono ?_; rintro e w' ⟨rfl, hb'⟩)
          have K' := K.pow (Nat.ne_of_lt (Nat.lt_trans HQ.out.1 HQ.out.2.1)) n' hb'
          have VX' : El w' q25 sh.1 sh.2 := (VX.keepR (b := q) (fun h => absurd h (by omega)) 0 1 (.int .u64 (n'.1 : Int)) (.int .u64 (n'.2 : Int))).below (by simpa [World.setCell] using hb')
          clear K VX hb'
          have K := K'
          have VX := VX'
          clear K' VX'
          refine hKK.out _ _ ?_ (fun hHeld => ?_)
          · exact ⟨⟨K.o.t.hi, K.o.t.lo⟩, VX.hi, VX.lo⟩
          clear hKK KK
          try simp only [Act.put]
          refine wpAnyH_ready (rs := [5]) (by kernel_rfl) (by simp) ?_
          refine (AllReadyH.cons (o := _) rfl (fun KK hKK => ?_) AllReadyH.nil)
          go_simp
          (go_at_call 37; refine (M2.out.go _).mono ?_; rintro e w' ⟨rfl, hb'⟩)
          have K' := K.below hb'
          have VX' := VX.below hb'
          clear K VX hb'
          have K := K'
          have VX := VX'
          clear K' VX'
          refine hKK.out _ _ ?_ (fun hHeld => ?_)
          · exact ⟨⟨K.o.t.hi, K.o.t.lo⟩, VX.hi, VX.lo⟩
          clear hKK KK
          try simp only [Act.put]
          refine wpAnyH_ready (rs := [6]) (by kernel_rfl) (by simp) ?_
          refine (AllReadyH.cons (o := _) rfl (fun KK hKK => ?_) AllReadyH.nil)
          go_simp
          (go_at_call 36; refine (AD.out.go _).mono ?_; rintro e w' ⟨rfl, hb'⟩)
          have K' := K.below hb'
          have VX' := VX.below hb'
          clear K VX hb'
          have K := K'
          have VX := VX'
          clear K' VX'
          refine hKK.out _ _ ?_ (fun hHeld => ?_)
          · exact ⟨⟨K.o.t.hi, K.o.t.lo⟩, VX.hi, VX.lo⟩
          clear hKK KK
          try simp only [Act.put]
          refine wpAnyH_done (by kernel_rfl) ?_ _
          refine peel_last rfl (fun KK hKK => ?_)
          clear hHeld
          obtain ⟨r1, r0⟩ := K.o.t.toEl
          have f1 := K.o.t.fhi
          have f0 := K.o.t.flo
          go_simp
          refine hKK _ _ ?_
          refine NoPanic.normal ?_
          clear hKK KK
          have K2 : Hid (Tb W ((w'.setCell ⟨qt, 0, none⟩ (.int .u64 (t'.1 : Int))).setCell ⟨qt, 1, none⟩ (.int .u64 (t'.2 : Int))) g P ph qt q ql qb m b t' n') := K.put (Nat.ne_of_lt HQ.out.1) HQ.out.2.2.1 HQ.out.2.2.2 t'
          clear K r1 r0 f1 f0 VX
          go_wp2
          refine ⟨⟨i + 1, hlt, by simp, ?_⟩, by simp [intOf]; omega⟩
          rw [← HT'.out.1, ← HT'.out.2]
          exact K2
    · obtain rfl : i = L := by omega
      obtain ⟨⟨r1, r0⟩, f1, f0⟩ := HK.out.o.r
      obtain ⟨t1, t0⟩ := HK.out.o.t.toEl
      obtain ⟨t, ht⟩ : ∃ t, t = ceS b z pl ph cl i := ⟨_, rfl⟩
      rw [← ht] at t1 t0
      have HTT : Hid (t = ceS b z pl ph cl i) := ht
      clear HPW HTA HCL HSG HAS ht
      go_wp2
      refine bodyPost_ret (v := .tuple #[.agg #[.int .u64 (t.1 : Int), .int .u64 (t.2 : Int)], .int .i64 0]) (by simp [results, Try.results18, go_sem, *]) rfl ⟨by rw [HTT.out], below2 (p := W.heap.size + 1) HK.out.o.d (by omega) _ _⟩
end Go.Proofs.Ytejoombhcnldmaa
