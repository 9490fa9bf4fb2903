/- The contract of turn.Row once more, with where the row lies. -/
import Derived.Test.YtejoombhcnldmaaTuT
namespace Go.Proofs.Ytejoombhcnldmaa
open Go.RowKit
open Cb
open Tw (pm)

set_option maxHeartbeats 20000000 in
set_option maxRecDepth 100000 in
theorem trow_new (m : Nat) (hm : m < 8) (k : Int) (q t n : Nat) (hq : q ≤ 6) (hn : pw (q : Int) = n) (hf : ftB k (q : Int) (t : Int) = true) (a : Option Addr) (cap : Nat) (p : List (Nat × Nat)) (hp : ltE p) (hl : p.length = q) (op : ofT m p) (W : World) (hr : ERow W a p) :
    Calls Try.prog 43 #[.int .i64 (m : Int), .int .i64 k, .int .i64 (q : Int), .int .i64 (t : Int), .slice a q cap] W fun e w' => ∃ g, e = .returned (.tuple #[.slice (some ⟨g, 0, none⟩) n n, .int .i64 0]) ∧ ERow w' (some ⟨g, 0, none⟩) ((List.range n).map (sgn k p t)) ∧ Below W.heap.size W w' ∧ W.heap.size ≤ g := by
  have hn1 := pw_le (w := (q : Int)) (by omega)
  have hp1 := pw_wrap (w := (q : Int)) (by omega)
  rw [hn] at hn1 hp1
  rw [Int.toNat_natCast] at hp1
  have hpow : 2 ^ q = n := by unfold pw at hn; rw [Int.toNat_natCast] at hn; omega
  have HH : Hid (∀ w b, Below W.heap.size W w → w.cell? ⟨b, 0, none⟩ = some (.slice a q cap) → Calls Try.prog 63 #[.int .i64 (m : Int), .int .i64 k, .int .i64 (q : Int), .int .i64 (t : Int), .slice (some ⟨b, 0, none⟩) 1 1] w fun e w' => e = .returned (.int .i64 0) ∧ Below w.heap.size w w') := fun w b hb hc => by
    have := thind1 (m : Int) k q t hf b a cap p hp (by omega) w (hr.below hb) (by rw [hl]; exact hc)
    rw [show hd1 (m : Int) q p = 0 by unfold hd1; rw [if_pos (by omega), if_pos hl, if_pos (List.all_eq_true.2 (fun e he => op e he))]] at this
    exact this
  have H0 := Hid.mkT tstart
  have H1 := Hid.mkT one_any
  have S0 := Hid.mkT sides0
  have S1 := Hid.mkT sides1
  unfold ag2 at S0 S1
  obtain ⟨i0, hi0, hz0, hz1, hz2⟩ := info_car
  have HI : Hid (Try.prog.info? 100 = some i0 ∧ i0.zero = some (.agg #[.int .u64 0, .int .u64 0, .int .u64 0, .int .u64 0]) ∧ i0.size = 4 ∧ i0.bytes = 32) := ⟨hi0, hz0, hz1, hz2⟩
  have HP : Hid (ltE p ∧ p.length = q ∧ ofT m p ∧ ERow W a p ∧ ftB k (q : Int) (t : Int) = true ∧ 2 ^ q = n) := ⟨hp, hl, op, hr, hf, hpow⟩
  clear hi0 hz0 hz1 hz2 hp hl op hr hf hn hpow
  generalize hsA : sd (0, 0) = sA at S0
  generalize hsB : sd (0, 1) = sB at S1
  go_enter Try.func43, Try.ntmps43
  go_wp2_with (first
    | (go_at_call 63; refine (HH.out _ _ (by go_grown) (by simp [go_sem])).mono ?_; rintro e w1 ⟨rfl, hb1⟩; have D1 : Hid (Below W.heap.size W w1) := ((Below.refl _ _).alloc (Nat.le_refl _) _).trans (hb1.mono (by simp)); clear hb1)
    | (at_make; refine wpList_make_one _ rfl _ _ 98 rfl W.heap.size 100 i0 (.agg #[.int .u64 0, .int .u64 0, .int .u64 0, .int .u64 0]) 4 Try.underlying98 HI.out.1 HI.out.2.1 HI.out.2.2.1 .i64 .i64 _ n rfl rfl hp1 (by omega) (by rw [HI.out.2.2.2]; omega) (by simp only [maxLen]; omega) D1.out.size ?_; intro w2 xs2 own2 hgr2; obtain ⟨y0, y1, y2, y3, rfl⟩ := four own2.1; have D2 : Hid (w2.ownsRow W.heap.size 100 4 (.slice (some ⟨w1.heap.size, 0, none⟩) 1 n) 1 [y0, y1, y2, y3] ∧ Below W.heap.size W w2) := ⟨own2, D1.out.grown hgr2 D1.out.size (fun k hk => by cases hk)⟩; have hg1 : W.heap.size ≤ w1.heap.size := D1.out.size; clear own2 hgr2 D1)
    | (go_at_call 64; refine (H0.out.go _).mono ?_; rintro e w3 ⟨rfl, hb3⟩; have D3 : Hid (w3.ownsRow W.heap.size 100 4 (.slice (some ⟨w1.heap.size, 0, none⟩) 1 n) 1 [y0, y1, y2, y3] ∧ Below W.heap.size W w3) := ⟨own_below D2.out.1 hb3, D2.out.2.trans (hb3.mono D2.out.2.size)⟩; clear hb3 D2; obtain ⟨r0, f0⟩ := own_cellC D3.out.1 0 (by decide); obtain ⟨r1, f1⟩ := own_cellC D3.out.1 1 (by decide); obtain ⟨r2, f2⟩ := own_cellC D3.out.1 2 (by decide); obtain ⟨r3, f3⟩ := own_cellC D3.out.1 3 (by decide); simp only [List.getElem?_cons_zero, List.getElem?_cons_succ] at r0 r1 r2 r3)
    | (go_at_call_of 65 (Value.int .u64 1); refine (S1.out.go _).mono ?_; rintro e w6 ⟨rfl, hb6⟩; have D6 : Hid (w6.ownsRow W.heap.size 100 4 (.slice (some ⟨w1.heap.size, 0, none⟩) 1 n) 1 [.int .u64 0, .int .u64 1, .int .u64 0, .int .u64 0] ∧ Below W.heap.size W w6) := ⟨own_below D5.out.1 hb6, D5.out.2.trans (hb6.mono D5.out.2.size)⟩; clear hb6 D5)
    | (go_at_call 65; refine (S0.out.go _).mono ?_; rintro e w4 ⟨rfl, hb4⟩; have D4 : Hid (w4.ownsRow W.heap.size 100 4 (.slice (some ⟨w1.heap.size, 0, none⟩) 1 n) 1 [.int .u64 0, .int .u64 1, .int .u64 0, .int .u64 0] ∧ Below W.heap.size W w4) := ⟨own_below (own_setC (own_setC (own_setC (own_setC D3.out.1 0 _) 1 _) 2 _) 3 _) hb4, ((((D3.out.2.setCell hg1 _).setCell hg1 _).setCell hg1 _).setCell hg1 _).trans (hb4.mono (by have := D3.out.2.size; simp; omega))⟩; clear hb4 D3 r0 r1 r2 r3 f0 f1 f2 f3)
    | (go_at_call 59; refine (H1.out _).mono ?_; rintro e w5 ⟨rfl, hb5⟩; have D5 : Hid (w5.ownsRow W.heap.size 100 4 (.slice (some ⟨w1.heap.size, 0, none⟩) 1 n) 1 [.int .u64 0, .int .u64 1, .int .u64 0, .int .u64 0] ∧ Below W.heap.size W w5) := ⟨own_below D4.out.1 hb5, D4.out.2.trans (hb5.mono D4.out.2.size)⟩; clear hb5 D4))
  have K0 : Hid (Ro W ((w6.alloc (Obj.cells #[.int .u64 ((sA 0).1 : Int), .int .u64 ((sA 0).2 : Int), .int .u64 ((sA 1).1 : Int), .int .u64 ((sA 1).2 : Int)] 99)).alloc (Obj.cells #[.int .u64 ((sB 0).1 : Int), .int .u64 ((sB 0).2 : Int), .int .u64 ((sB 1).1 : Int), .int .u64 ((sB 1).2 : Int)] 99)) (.slice (some ⟨w1.heap.size, 0, none⟩) 1 n) 1 [((0, 1), (0, 0))] w6.heap.size (w6.heap.size + 1) sA sB) := by
    have hb1 := (Below.refl w6.heap.size w6).alloc (Nat.le_refl _) (Obj.cells #[.int .u64 ((sA 0).1 : Int), .int .u64 ((sA 0).2 : Int), .int .u64 ((sA 1).1 : Int), .int .u64 ((sA 1).2 : Int)] 99)
    have hb2 := (Below.refl (w6.alloc (Obj.cells #[.int .u64 ((sA 0).1 : Int), .int .u64 ((sA 0).2 : Int), .int .u64 ((sA 1).1 : Int), .int .u64 ((sA 1).2 : Int)] 99)).heap.size _).alloc (Nat.le_refl _) (Obj.cells #[.int .u64 ((sB 0).1 : Int), .int .u64 ((sB 0).2 : Int), .int .u64 ((sB 1).1 : Int), .int .u64 ((sB 1).2 : Int)] 99)
    refine ⟨own_below (own_below D6.out.1 hb1) hb2, (Bx.new w6 sA).below hb2, ?_, (D6.out.2.trans (hb1.mono D6.out.2.size)).trans (hb2.mono (by have := D6.out.2.size; simp; omega))⟩
    have := Bx.new (w6.alloc (Obj.cells #[.int .u64 ((sA 0).1 : Int), .int .u64 ((sA 0).2 : Int), .int .u64 ((sA 1).1 : Int), .int .u64 ((sA 1).2 : Int)] 99)) sB
    rwa [alloc_size] at this
  clear D6 hg1 HH H0 H1 S0 S1
  have HS : Hid (sd (0, 0) = sA ∧ sd (0, 1) = sB) := ⟨hsA, hsB⟩
  clear hsA hsB
  generalize w6.heap.size + 1 = q15 at *
  generalize w6.heap.size = q14 at *
  obtain ⟨rt, hrt⟩ : ∃ rt, rt = decide (k = 2) := ⟨_, rfl⟩
  have HRT : Hid (rt = decide (k = 2)) := hrt
  clear hrt
  go_loopw [13, 44] (fun s u wr => ∃ (j N : Nat) (L : List ((Nat × Nat) × (Nat × Nat))), j ≤ q ∧ u = .int .i64 j ∧ Hid (N = 2 ^ j ∧ L.length = N ∧ ∀ x, x < N → lC L x = Cj rt p t j x) ∧ Hid (Ro W wr s N L q14 q15 sA sB)) (fun _ u _ => q - (intOf u).toNat)
  case atStart =>
    refine ⟨0, 1, _, Nat.zero_le _, rfl, ⟨rfl, rfl, fun x hx => ?_⟩, K0⟩
    obtain rfl : x = 0 := by omega
    have h := cr_start rt t
    unfold Cj
    rw [List.take_zero, h.1, h.2]
    rfl
  case round =>
    obtain ⟨j, N, L, hj, rfl, HL, HO⟩ := hrel
    clear K0
    by_cases hlt : j < q
    · have hN0 : 0 < N := by rw [HL.out.1]; exact Nat.two_pow_pos _
      have hN : N ≤ 64 := by rw [HL.out.1]; exact Nat.le_trans (Nat.pow_le_pow_right (by decide) (show j ≤ 6 by omega)) (by decide)
      obtain ⟨b0, off, rfl, hb0, c1, c0⟩ := HP.out.2.2.2.1.cells j (by rw [HP.out.2.1]; exact hlt)
      have C1 := keepc HO.out.d c1
      have C0 := keepc HO.out.d c0
      have hx : lt2 (p.getD j (0, 0)) ∧ ofE m (p.getD j (0, 0)) := ⟨HP.out.1.at j, HP.out.2.2.1.el hm j⟩
      have HX : Hid (el p j = p.getD j (0, 0)) := rfl
      obtain ⟨sg, hsg⟩ : ∃ sg, sg = t / 2 ^ j % 2 := ⟨_, rfl⟩
      have hsg2 : sg < 2 := by rw [hsg]; exact Nat.mod_lt _ (by decide)
      have HSG : Hid (sg = t / 2 ^ j % 2) := hsg
      have j1 : (j : Int) < (q : Int) := by omega
      have j0 : (0 : Int) ≤ (j : Int) := by omega
      clear c1 c0 hb0 hsg
      generalize p.getD j (0, 0) = x at *
      have SX := Hid.mkT (tsides x hx.1)
      unfold ag2 at SX
      obtain ⟨sX, hsX⟩ : ∃ sX, sX = sd x := ⟨_, rfl⟩
      rw [← hsX] at SX
      have HSX : Hid (sX = sd x) := hsX
      clear hsX
      obtain ⟨tj, htj⟩ : ∃ tj, tj = t / 2 ^ j := ⟨_, rfl⟩
      have htq : t < 1000 := by
        obtain ⟨_, ⟨_, h⟩, _⟩ := ftB_true HP.out.2.2.2.2.1
        have := pw_le (w := (q : Int)) (by omega)
        omega
      have htj2 : tj < 1000 := by rw [htj]; exact Nat.lt_of_le_of_lt (Nat.div_le_self _ _) htq
      have g1 : (t : Int) / 2 ^ j = (tj : Int) := by rw [htj, show (2 : Int) ^ j = ((2 ^ j : Nat) : Int) by simp]; simp
      have g2 : bits .and .i64 (tj : Int) 1 = (sg : Int) := by rw [nand tj htj2, htj, HSG.out]
      clear htj
      go_upto_region 10 with fail
      go_cut [17, 18] (fun p17 p18 wx => ∃ q18 : Nat, p17 = .int .i64 (sg : Int) ∧ p18 = .pointer (some ⟨q18, 0, none⟩) ∧ Hid (Bx wx q18 sX ∧ Ro W wx u13 N L q14 q15 sA sB))
      case first =>
        have K : Hid (Below wr.heap.size wr wr) := Below.refl _ _
        go_region_held3 (fun w => w.cell? ⟨b0, off + j * 2, none⟩ = some (.int .u64 (x.1 : Int)) ∧ w.cell? ⟨b0, off + j * 2 + 1, none⟩ = some (.int .u64 (x.2 : Int))) (first | (go_keep; done) | exact ⟨keepc ((((K.out.setCell (Nat.le_refl _) _).setCell (Nat.le_refl _) _).setCell (Nat.le_refl _) _).setCell (Nat.le_refl _) _) C1, keepc ((((K.out.setCell (Nat.le_refl _) _).setCell (Nat.le_refl _) _).setCell (Nat.le_refl _) _).setCell (Nat.le_refl _) _) C0⟩) (first | (go_at_call 65; refine (SX.out.go _).mono ?_; rintro e w' ⟨rfl, hb'⟩; have K' : Hid (Below wr.heap.size wr w') := (by first | exact hb' | exact (Below.refl _ _).drew.trans (hb'.mono (by simp)) | exact ((Below.refl _ _).alloc (Nat.le_refl _) _).trans (hb'.mono (by simp)) | exact ((Below.refl _ _).drew.alloc (by simp) _).trans (hb'.mono (by simp)) | exact ((Below.refl _ _).alloc (Nat.le_refl _) _).drew.trans (hb'.mono (by simp))); (first | (have B : w'.rowIs wr.heap.size 99 4 (fun _ => .int .u64 0) := (by first | exact Bz.below (Bz.new wr) hb' | exact Bz.below (Bz.new wr.drew) hb' | exact Bz.below (Bz.below (Bz.new wr) (Below.refl _ _).drew) hb'); have v0 := B.cell (i := 0) (by decide); have v1 := B.cell (i := 1) (by decide); have v2 := B.cell (i := 2) (by decide); have v3 := B.cell (i := 3) (by decide); have f0 := B.frozen 0; have f1 := B.frozen 1; have f2 := B.frozen 2; have f3 := B.frozen 3) | skip); clear hb' K; have K := K'; clear K'; have C1' := keepc K.out C1; have C0' := keepc K.out C0))
        all_goals
          go_wp2_with fail
          go_meet
          first
            | exact ⟨_, rfl, rfl, ⟨Bx.new _ sX, (HO.out.below K.out).alloc _⟩⟩
            | exact ⟨_, rfl, rfl, ⟨Bx.set4 B sX, rowIs_set4_own K.out HO.out _ _ _ _⟩⟩
      case rest =>
        obtain ⟨q18, rfl, rfl, HK⟩ := hcut
        clear HO C1 C0 SX g1 g2 htj2
        obtain ⟨g0, cp0, hu13⟩ : ∃ g cp, u13 = .slice (some ⟨g, 0, none⟩) N cp := by
          rcases HK.out.2.own.2 with ⟨_, h0⟩ | ⟨g, cp, _, e, _⟩
          · omega
          · exact ⟨g, cp, e⟩
        have HK' := HK
        rw [hu13] at HK'
        subst hu13
        clear HK
        go_wp2_with fail
        have HCU := Hid.mkT (fun i b (hi : i < N) hb => Cj_step rt p t j i b (by rw [HP.out.2.1]; exact hlt) (by rw [← HL.out.1]; exact hi) hb)
        have HGD : Hid (∀ i, (lt2 (Cj rt p t j i).1 ∧ ofE m (Cj rt p t j i).1) ∧ lt2 (Cj rt p t j i).2 ∧ ofE m (Cj rt p t j i).2) := fun i => ⟨⟨lt_cr _ _ _ _ _, of_cr hm rt (fun e he => HP.out.2.2.1 e (List.mem_of_mem_take he)) _ _ _⟩, lt_cr _ _ _ _ _, of_cr hm rt (fun e he => HP.out.2.2.1 e (List.mem_of_mem_take he)) _ _ _⟩
        go_loopw [13, 58] (fun s u wr => ∃ (i : Nat) (M : List ((Nat × Nat) × (Nat × Nat))), i ≤ N ∧ u = .int .i64 i ∧ Hid (M.length = N + i ∧ ∀ x, x < N + i → lC M x = Rji rt p t j i x) ∧ Hid (Bx wr q18 sX ∧ Ro W wr s (N + i) M q14 q15 sA sB)) (fun _ u _ => N - (intOf u).toNat)
        case atStart =>
          refine ⟨0, L, Nat.zero_le _, rfl, ⟨HL.out.2.1, fun x hx => ?_⟩, HK'⟩
          unfold Rji
          rw [if_neg (by omega), ← HL.out.1, if_pos (show x < N from hx)]
          exact HL.out.2.2 x hx
        case round =>
          obtain ⟨i, M, hi, rfl, HM, HJ⟩ := hrel
          clear HK'
          by_cases hiN : i < N
          · obtain ⟨g, cp, hu13⟩ : ∃ g cp, u13 = .slice (some ⟨g, 0, none⟩) (N + i) cp := by
              rcases HJ.out.2.own.2 with ⟨_, h0⟩ | ⟨g, cp, _, e, _⟩
              · omega
              · exact ⟨g, cp, e⟩
            subst hu13
            obtain ⟨C, hC⟩ : ∃ C, C = lC M i := ⟨_, rfl⟩
            have HC : Hid (C = Cj rt p t j i) := by
              show _ = _
              rw [hC, HM.out.2 i (by omega)]
              unfold Rji
              rw [if_neg (by omega), ← HL.out.1, if_pos hiN]
            obtain ⟨R0, hR0⟩ : ∃ R, R = (st2 rt sg 0 0 (cf C) (fac x), st2 rt sg 0 1 (cf C) (fac x)) := ⟨_, rfl⟩
            obtain ⟨R1, hR1⟩ : ∃ R, R = (st2 rt sg 1 0 (cf C) (fac x), st2 rt sg 1 1 (cf C) (fac x)) := ⟨_, rfl⟩
            have HR0 : Hid (R0 = Cj rt p t (j + 1) i) := by
              show _ = _
              have := HCU.out i 0 hiN (by decide)
              rw [show i + 2 ^ j * 0 = i by simp, ← HSG.out, ← HC.out, HX.out] at this
              rw [hR0, this]
            have HR1 : Hid (R1 = Cj rt p t (j + 1) (N + i)) := by
              show _ = _
              have := HCU.out i 1 hiN (by decide)
              rw [Nat.mul_one, ← HSG.out, ← HC.out, HX.out, ← HL.out.1, Nat.add_comm i N] at this
              rw [hR1, this]
            have hgd := HGD.out i
            rw [← HC.out] at hgd
            have N0 : Hid (Ret 66 #[.agg #[.int .u64 (C.1.1 : Int), .int .u64 (C.1.2 : Int), .int .u64 (C.2.1 : Int), .int .u64 (C.2.2 : Int)], .int .i64 (m : Int), .int .i64 k, .int .i64 (sg : Int), .agg #[.int .u64 ((sX 0).1 : Int), .int .u64 ((sX 0).2 : Int), .int .u64 ((sX 1).1 : Int), .int .u64 ((sX 1).2 : Int)], .agg #[.int .u64 ((sA 0).1 : Int), .int .u64 ((sA 0).2 : Int), .int .u64 ((sA 1).1 : Int), .int .u64 ((sA 1).2 : Int)]] (.agg #[.int .u64 (R0.1.1 : Int), .int .u64 (R0.1.2 : Int), .int .u64 (R0.2.1 : Int), .int .u64 (R0.2.2 : Int)])) := by
              have := nxt_ok hm k sg 0 hsg2 (by decide) C hgd x hx
              rw [← HSX.out, HS.out.1, ← HRT.out, ← hR0] at this
              exact this
            have N1 : Hid (Ret 66 #[.agg #[.int .u64 (C.1.1 : Int), .int .u64 (C.1.2 : Int), .int .u64 (C.2.1 : Int), .int .u64 (C.2.2 : Int)], .int .i64 (m : Int), .int .i64 k, .int .i64 (sg : Int), .agg #[.int .u64 ((sX 0).1 : Int), .int .u64 ((sX 0).2 : Int), .int .u64 ((sX 1).1 : Int), .int .u64 ((sX 1).2 : Int)], .agg #[.int .u64 ((sB 0).1 : Int), .int .u64 ((sB 0).2 : Int), .int .u64 ((sB 1).1 : Int), .int .u64 ((sB 1).2 : Int)]] (.agg #[.int .u64 (R1.1.1 : Int), .int .u64 (R1.1.2 : Int), .int .u64 (R1.2.1 : Int), .int .u64 (R1.2.2 : Int)])) := by
              have := nxt_ok hm k sg 1 hsg2 (by decide) C hgd x hx
              rw [← HSX.out, HS.out.2, ← HRT.out, ← hR1] at this
              exact this
            have hat := flatC_at M i (by rw [HM.out.1]; omega)
            have hcl : ∀ d, d < 4 → i * 4 + d < (N + i) * 4 := fun d hd => by omega
            rw [show M.getD i ((0, 0), (0, 0)) = C from hC.symm] at hat
            have hgl : g < wr.heap.size := by
              have h := (own_cellC HJ.out.2.own (i * 4) (hcl 0 (by decide))).1
              rw [hat.1] at h
              exact cell_lt h
            have r0 := (own_cellC HJ.out.2.own (i * 4) (hcl 0 (by decide))).1
            have r1 := (own_cellC HJ.out.2.own (i * 4 + 1) (hcl 1 (by decide))).1
            have r2 := (own_cellC HJ.out.2.own (i * 4 + 2) (hcl 2 (by decide))).1
            have r3 := (own_cellC HJ.out.2.own (i * 4 + 3) (hcl 3 (by decide))).1
            rw [hat.1] at r0
            rw [hat.2.1] at r1
            rw [hat.2.2.1] at r2
            rw [hat.2.2.2] at r3
            have HAT := Hid.mkT hat
            have HCL := Hid.mkT hcl
            have HC2 : Hid (C = lC M i) := hC
            have na := own_apartC HJ.out.2.own HJ.out.2.a
            have nb := own_apartC HJ.out.2.own HJ.out.2.b
            have nx := own_apartC HJ.out.2.own HJ.out.1
            have n14 : ¬ q14 = g := fun e => na (by rw [e]; rfl)
            have n15 : ¬ q15 = g := fun e => nb (by rw [e]; rfl)
            have n18 : ¬ q18 = g := fun e => nx (by rw [e]; rfl)
            have n20 : ¬ wr.heap.size = g := by omega
            have i1 : (i : Int) < ((N + i : Nat) : Int) := by omega
            have i1' : (i : Int) < (N : Int) + (i : Int) := by omega
            have i2 : (i : Int) < (N : Int) := by omega
            have i3 : (0 : Int) ≤ (i : Int) := by omega
            have K1 : Hid (Bx (wr.alloc (Obj.cells #[.int .u64 (C.1.1 : Int), .int .u64 (C.1.2 : Int), .int .u64 (C.2.1 : Int), .int .u64 (C.2.2 : Int)] 100)) q18 sX ∧ Ro W (wr.alloc (Obj.cells #[.int .u64 (C.1.1 : Int), .int .u64 (C.1.2 : Int), .int .u64 (C.2.1 : Int), .int .u64 (C.2.2 : Int)] 100)) (.slice (some ⟨g, 0, none⟩) (N + i) cp) (N + i) M q14 q15 sA sB ∧ E2 (wr.alloc (Obj.cells #[.int .u64 (C.1.1 : Int), .int .u64 (C.1.2 : Int), .int .u64 (C.2.1 : Int), .int .u64 (C.2.2 : Int)] 100)) wr.heap.size (cf C)) := ⟨HJ.out.1.below ((Below.refl _ _).alloc (Nat.le_refl _) _), HJ.out.2.alloc _, E2.new wr (cf C) _⟩
            obtain ⟨x1e, x2e, x3e, x4e⟩ := K1.out.1.e2
            obtain ⟨a1e, a2e, a3e, a4e⟩ := K1.out.2.1.a.e2
            clear hR0 hR1 hgd hat hcl hC na nb nx HCU HGD
            go_wp2_with (first
              | (go_at_call_of 66 (Value.int .u64 ((sB 0).1 : Int)); refine (N1.out.go _).mono ?_; rintro e w6 ⟨rfl, hb6⟩; have K6 : Hid (Bx w6 q18 sX ∧ Ro W w6 (.slice (some ⟨g, 0, none⟩) (N + i) cp) (N + i) (M.set i R0) q14 q15 sA sB) := ⟨((((K4.out.1.setC n18 _ _).setC n18 _ _).setC n18 _ _).setC n18 _ _).below hb6, Ro.below ⟨(by have h := own_setC (own_setC (own_setC (own_setC K4.out.2.1.own (i * 4) (.int .u64 (R0.1.1 : Nat))) (i * 4 + 1) (.int .u64 (R0.1.2 : Nat))) (i * 4 + 2) (.int .u64 (R0.2.1 : Nat))) (i * 4 + 3) (.int .u64 (R0.2.2 : Nat)); rw [flatC_set M R0 i (by rw [HM.out.1]; omega)] at h; exact h), (((K4.out.2.1.a.setC n14 _ _).setC n14 _ _).setC n14 _ _).setC n14 _ _, (((K4.out.2.1.b.setC n15 _ _).setC n15 _ _).setC n15 _ _).setC n15 _ _, (((K4.out.2.1.d.setCell hgW _).setCell hgW _).setCell hgW _).setCell hgW _⟩ hb6⟩; clear hb6 K4)
              | (go_at_call 66; refine (N0.out.go _).mono ?_; rintro e w4 ⟨rfl, hb4⟩; have K4 : Hid (Bx w4 q18 sX ∧ Ro W w4 (.slice (some ⟨g, 0, none⟩) (N + i) cp) (N + i) M q14 q15 sA sB ∧ E2 w4 wr.heap.size (cf C)) := ⟨K1.out.1.below hb4, K1.out.2.1.below hb4, K1.out.2.2.below hb4⟩; have hgW : W.heap.size ≤ g := (K4.out.2.1.own.lt g rfl).1; clear hb4 K1 x1e x2e x3e x4e a1e a2e a3e a4e r0 r1 r2 r3; obtain ⟨r0, f0⟩ := own_cellC K4.out.2.1.own (i * 4) (HCL.out 0 (by decide)); obtain ⟨r1, f1⟩ := own_cellC K4.out.2.1.own (i * 4 + 1) (HCL.out 1 (by decide)); obtain ⟨r2, f2⟩ := own_cellC K4.out.2.1.own (i * 4 + 2) (HCL.out 2 (by decide)); obtain ⟨r3, f3⟩ := own_cellC K4.out.2.1.own (i * 4 + 3) (HCL.out 3 (by decide)); rw [HAT.out.1] at r0; rw [HAT.out.2.1] at r1; rw [HAT.out.2.2.1] at r2; rw [HAT.out.2.2.2] at r3; obtain ⟨x1e, x2e, x3e, x4e⟩ := K4.out.1.e2; obtain ⟨b1e, b2e, b3e, b4e⟩ := K4.out.2.1.b.e2; obtain ⟨d1e, d2e, d3e, d4e⟩ : w4.cell? ⟨wr.heap.size, 0, none⟩ = some (.int .u64 (C.1.1 : Int)) ∧ w4.cell? ⟨wr.heap.size, 1, none⟩ = some (.int .u64 (C.1.2 : Int)) ∧ w4.cell? ⟨wr.heap.size, 2, none⟩ = some (.int .u64 (C.2.1 : Int)) ∧ w4.cell? ⟨wr.heap.size, 3, none⟩ = some (.int .u64 (C.2.2 : Int)) := ⟨K4.out.2.2.a1, K4.out.2.2.a0, K4.out.2.2.b1, K4.out.2.2.b0⟩)
              | (at_builtin; refine wpList_append_own _ rfl _ _ 98 rfl W.heap.size 100 i0 (.agg #[.int .u64 0, .int .u64 0, .int .u64 0, .int .u64 0]) 4 32 Try.underlying98 HI.out.1 HI.out.2.1 HI.out.2.2.1 HI.out.2.2.2 rfl (by decide) _ _ _ rfl (own_below K6.out.2.own ((Below.refl _ _).alloc (Nat.le_refl _) _)) ⟨w6.heap.size, 0, none⟩ 1 1 [.int .u64 (R1.1.1 : Nat), .int .u64 (R1.1.2 : Nat), .int .u64 (R1.2.1 : Nat), .int .u64 (R1.2.2 : Nat)] rfl rfl (fun p u hu => by rcases p with _ | _ | _ | _ | p <;> simp at hu <;> subst hu <;> simp [go_sem]) (by intro u hu; simp at hu; rcases hu with rfl | rfl | rfl | rfl <;> rfl) (by simp only [maxLen]; omega) (by omega) (by have := K6.out.2.d.size; simp; omega) ?_; intro v' w7 hown7 hgr7 _))
            refine ⟨⟨i + 1, M.set i R0 ++ [R1], hiN, by simp, ⟨by simp [HM.out.1]; omega, fun x hx => ?_⟩, ⟨(K6.out.1.below ((Below.refl _ _).alloc (Nat.le_refl _) _)).grow (own_below K6.out.2.own ((Below.refl _ _).alloc (Nat.le_refl _) _)) hgr7, ⟨by rw [flatC_snoc]; exact hown7, (K6.out.2.a.below ((Below.refl _ _).alloc (Nat.le_refl _) _)).grow (own_below K6.out.2.own ((Below.refl _ _).alloc (Nat.le_refl _) _)) hgr7, (K6.out.2.b.below ((Below.refl _ _).alloc (Nat.le_refl _) _)).grow (own_below K6.out.2.own ((Below.refl _ _).alloc (Nat.le_refl _) _)) hgr7, (K6.out.2.d.alloc K6.out.2.d.size _).grown hgr7 (by have := K6.out.2.d.size; simp; omega) fun g hg => (K6.out.2.own.lt g hg).1⟩⟩⟩, by simp [intOf]; omega⟩
            rw [lC_snoc (n := N + i) (by simp [HM.out.1])]
            by_cases h1 : x = N + i
            · rw [if_pos h1, HR1.out, h1]
              unfold Rji
              rw [if_neg (by omega), ← HL.out.1, if_neg (by omega)]
            · rw [if_neg h1, if_pos (by omega), lC_set (by rw [HM.out.1]; omega)]
              by_cases h2 : x = i
              · rw [if_pos h2, HR0.out, h2]
                unfold Rji
                rw [if_pos (by omega)]
              · rw [if_neg h2, HM.out.2 x (by omega)]
                unfold Rji
                by_cases h3 : x < i
                · rw [if_pos h3, if_pos (by omega)]
                · rw [if_neg h3, if_neg (show ¬ x < i + 1 by omega)]
          · obtain rfl : i = N := by omega
            clear HCU HGD HS HI
            go_wp2_with fail
            refine ⟨⟨j + 1, i + i, M, hlt, by simp, ⟨by rw [HL.out.1, Nat.pow_succ]; omega, HM.out.1, fun x hx => ?_⟩, HJ.out.2⟩, by simp [intOf]; omega⟩
            rw [HM.out.2 x hx]
            unfold Rji
            by_cases h3 : x < i
            · rw [if_pos h3]
            · rw [if_neg h3, ← HL.out.1, if_neg h3]
    · obtain rfl : j = q := by omega
      obtain rfl : N = n := by rw [HL.out.1]; exact HP.out.2.2.2.2.2
      obtain ⟨wb, rfl⟩ : ∃ wb, wb = wr := ⟨_, rfl⟩
      obtain ⟨g, cp, hu13⟩ : ∃ g cp, u13 = .slice (some ⟨g, 0, none⟩) N cp := by
        rcases HO.out.own.2 with ⟨_, h0⟩ | ⟨g, cp, _, e, _⟩
        · omega
        · exact ⟨g, cp, e⟩
      subst hu13
      obtain ⟨e0, he0, ez0, ez1, ez2⟩ := info_elem
      have HE : Hid (Try.prog.info? 26 = some e0 ∧ e0.zero = some (.agg #[.int .u64 0, .int .u64 0]) ∧ e0.size = 2 ∧ e0.bytes = 16) := ⟨he0, ez0, ez1, ez2⟩
      have HSN : Hid (∀ i, i < N → (if k = 3 then xa (lC L i).1 (lC L i).2 else (lC L i).1) = sgn k p t i) := fun i hi => by
        rw [HL.out.2.2 i hi]
        unfold Cj sgn
        rw [List.take_of_length_le (by rw [HP.out.2.1]; exact Nat.le_refl _), HRT.out]
        by_cases h3 : k = 3
        · rw [if_pos h3, if_pos h3, show decide (k = 2) = false from decide_eq_false (by omega)]
        · rw [if_neg h3, if_neg h3]
      have HGD : Hid (∀ i, i < N → lt2 (lC L i).1 ∧ lt2 (lC L i).2) := fun i hi => by
        rw [HL.out.2.2 i hi]
        exact ⟨lt_cr _ _ _ _ _, lt_cr _ _ _ _ _⟩
      have hNl : N ≤ 64 := by omega
      have hN0 : 0 < N := by omega
      clear he0 ez0 ez1 ez2 HS HI
      go_wp2_with (at_make; refine wpList_make_full _ rfl _ _ 23 rfl 0 26 e0 (.agg #[.int .u64 0, .int .u64 0]) 2 Try.underlying23 HE.out.1 HE.out.2.1 HE.out.2.2.1 .i64 .i64 _ _ N rfl rfl rfl rfl (by rw [HE.out.2.2.2]; omega) (by simp only [maxLen]; omega) (Nat.zero_le _) ?_; intro w8 own8 hgr8)
      have D8 : Hid (Below wb.heap.size wb w8) := (Below.refl _ _).grown hgr8 (Nat.le_refl _) (fun k hk => by cases hk)
      obtain ⟨f0, R0⟩ := own_rowT own8 (rfl : N * 2 = N * 2)
      clear own8 hgr8 HE
      go_loopw [92] (fun u w9 => ∃ (i : Nat) (f : Nat → Value), i ≤ N ∧ u = .int .i64 i ∧ w9.rowIs wb.heap.size 26 (N * 2) f ∧ Hid (∀ x, x < i * 2 → f x = tcell (sgn k p t) x) ∧ Below wb.heap.size wb w9) (fun u _ => N - (intOf u).toNat)
      case atStart => exact ⟨0, f0, Nat.zero_le _, rfl, R0, (fun x hx => by omega), D8.out⟩
      case round =>
        obtain ⟨i, f, hi, rfl, hRr, HF, hD⟩ := hrel
        clear R0 D8
        by_cases hiN : i < N
        · obtain ⟨C, hC⟩ : ∃ C, C = lC L i := ⟨_, rfl⟩
          have hat := flatC_at L i (by rw [HL.out.2.1]; exact hiN)
          rw [show L.getD i ((0, 0), (0, 0)) = C from hC.symm] at hat
          have r0 := (own_cellC HO.out.own (i * 4) (by omega)).1
          have r1 := (own_cellC HO.out.own (i * 4 + 1) (by omega)).1
          have r2 := (own_cellC HO.out.own (i * 4 + 2) (by omega)).1
          have r3 := (own_cellC HO.out.own (i * 4 + 3) (by omega)).1
          rw [hat.1] at r0
          rw [hat.2.1] at r1
          rw [hat.2.2.1] at r2
          rw [hat.2.2.2] at r3
          have q0 := keepc hD r0
          have q1 := keepc hD r1
          have q2 := keepc hD r2
          have q3 := keepc hD r3
          have hsn := HSN.out i hiN
          have hlt2 := HGD.out i hiN
          rw [← hC] at hsn hlt2
          have SG : Hid (Ret 67 #[.agg #[.int .u64 (C.1.1 : Int), .int .u64 (C.1.2 : Int), .int .u64 (C.2.1 : Int), .int .u64 (C.2.2 : Int)], .int .i64 k] (.agg #[.int .u64 ((sgn k p t i).1 : Int), .int .u64 ((sgn k p t i).2 : Int)])) := by
            rw [← hsn]
            exact tsign k (cf C) hlt2.1 hlt2.2
          have HDr : Hid (wr.rowIs wb.heap.size 26 (N * 2) f ∧ Below wb.heap.size wb wr) := ⟨hRr, hD⟩
          have i1 : (i : Int) < (N : Int) := by omega
          have i3 : (0 : Int) ≤ (i : Int) := by omega
          have HSV : Hid (sgn k p t i = sgn k p t i) := rfl
          obtain ⟨z, hz⟩ : ∃ z, z = sgn k p t i := ⟨_, rfl⟩
          rw [← hz] at SG
          have HZ : Hid (z = sgn k p t i) := hz
          clear hRr hD hat r0 r1 r2 r3 hsn hlt2 hC hz HSV
          go_wp2_with (go_at_call 67; refine (SG.out.go _).mono ?_; rintro e w10 ⟨rfl, hb10⟩; have X : Hid (w10.rowIs wb.heap.size 26 (N * 2) f ∧ Below wb.heap.size wb w10) := ⟨HDr.out.1.of_block (hb10.block _ HDr.out.1.lt), HDr.out.2.trans (hb10.mono HDr.out.2.size)⟩; clear hb10 HDr q0 q1 q2 q3; have y1 := X.out.1.cell (i := i * 2) (by omega); have y0 := X.out.1.frozen (i * 2); have y3 := X.out.1.cell (i := i * 2 + 1) (by omega); have y2 := X.out.1.frozen (i * 2 + 1))
          refine ⟨⟨i + 1, _, hiN, by simp, (X.out.1.set (i * 2) _).set (i * 2 + 1) _, fun x hx => ?_, (X.out.2.setCell (by simp) _).setCell (by simp) _⟩, by simp [intOf]; omega⟩
          have hF := HF.out x
          unfold tcell at hF ⊢
          by_cases h1 : x = i * 2 + 1
          · rw [if_pos h1, if_neg (by omega), show x / 2 = i by omega, HZ.out]
          · rw [if_neg h1]
            by_cases h2 : x = i * 2
            · rw [if_pos h2, if_pos (by omega), show x / 2 = i by omega, HZ.out]
            · rw [if_neg h2]; exact hF (by omega)
        · obtain rfl : i = N := by omega
          have HEr : Hid (ERow wr (some ⟨wb.heap.size, 0, none⟩) ((List.range i).map (sgn k p t))) := row_tab (by simp) hRr fun x hx => by
            rw [HF.out x hx]
            unfold tcell
            rw [show el ((List.range i).map (sgn k p t)) (x / 2) = sgn k p t (x / 2) by simp [el, List.getD, show x / 2 < i by omega]]
          have HDD : Hid (Below W.heap.size W wr) := HO.out.d.trans (hD.mono HO.out.d.size)
          have HGE : Hid (W.heap.size ≤ wb.heap.size) := HO.out.d.size
          clear HF HO HSN HGD hRr hD
          go_wp2
          refine bodyPost_ret (v := .tuple #[.slice (some ⟨wb.heap.size, 0, none⟩) i i, .int .i64 0]) (by simp [results, Try.results43, go_sem, *]) rfl ⟨_, rfl, HEr.out, HDD.out, HGE.out⟩
end Go.Proofs.Ytejoombhcnldmaa
