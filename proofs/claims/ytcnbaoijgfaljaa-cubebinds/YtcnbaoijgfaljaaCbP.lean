/- The walk of CubeBinds over the seat's translation: a table that is bound. -/
import Derived.Test.YtcnbaoijgfaljaaCbO
import Derived.Test.YtcnbaoijgfaljaaCbQ
import Derived.Test.YtcnbaoijgfaljaaSmA
namespace Go.Proofs.Ytcnbaoijgfaljaa
open Go.RowKit
open Cb
open Tw (pm)

theorem rev_at (rs : List (Nat × Nat)) (j : Nat) (h : j < rs.length) : rs.reverse.take (j + 1) = rs.reverse.take j ++ [rs.getD (rs.length - 1 - j) (0, 0)] := by
  rw [take_sn _ j (by rw [List.length_reverse]; exact h)]
  congr 2
  simp [List.getD, List.getElem?_reverse h]
set_option maxHeartbeats 40000000 in
set_option maxRecDepth 100000 in
theorem cb_ok (k : Nat) (hk : k < 8) (a ar ap : Option Addr) (c cr cp m : Nat) (t rs ps : List (Nat × Nat)) (ht : ltE t) (hr : ltE rs) (h1 : t.length ≤ 70) (h2 : rs.length ≤ 8) (h3 : ps.length ≤ 8) (hl : t.length = 2 ^ (rs.length + m)) (ot : ofT k t) (or : ofT k rs) (W : World) (hp : ltE ps) (hnr : ar = none → rs.length = 0 ∧ cr = 0) (hnp : ap = none → ps.length = 0 ∧ cp = 0) (hT : ERow W a t) (hR : ERow W ar rs) (hP : ERow W ap ps) :
    Calls Try.prog 8 #[.int .i64 (k : Int), .slice a t.length c, .agg #[.slice ar rs.length cr, .slice ap ps.length cp]] W fun e w' => e = .returned (.bool true) ∧ Below W.heap.size W w' := by
  have AW := awake15
  have hm16 : rs.length + m ≤ 16 := by
    rcases Nat.lt_or_ge 16 (rs.length + m) with h | h
    · have : 2 ^ 17 ≤ 2 ^ (rs.length + m) := Nat.pow_le_pow_right (by decide) h
      omega
    · exact h
  have hE : fiE (k : Int) t rs = 0 := fi_mk hk hm16 hl ot or
  obtain ⟨M, hM⟩ : ∃ M, M = 2 ^ m := ⟨_, rfl⟩
  have HF : Hid (∀ w, Below W.heap.size W w → Calls Try.prog 27 #[.int .i64 (k : Int), .slice a t.length c, .slice ar rs.length cr] w fun e w' => ∃ a' cap', e = .returned (.tuple #[.slice a' M cap', .int .i64 0]) ∧ ERow w' a' (firsts t rs) ∧ Below w.heap.size w w') := fun w hb => by
    rw [hM]; exact cfi_ok k hk a ar c cr m t rs ht hr (by omega) hm16 hl ot or w (hT.below hb) (hR.below hb)
  have HG : Hid (∀ w, Below W.heap.size W w → Calls Try.prog 28 #[.int .i64 (k : Int), .slice a t.length c, .slice ar rs.length cr] w fun e w' => ∃ a' cap', e = .returned (.tuple #[.slice a' M cap', .int .i64 0]) ∧ ERow w' a' (lasts t rs) ∧ Below w.heap.size w w') := fun w hb => by
    rw [hM]; exact cla_ok k hk a ar c cr m t rs ht hr (by omega) hm16 hl ot or w (hT.below hb) (hR.below hb)
  have HR1 : Hid (∀ w, Below W.heap.size W w → Calls Try.prog 18 #[.slice ar rs.length cr] w fun e w' => ∃ a' cap', e = .returned (.slice a' rs.length cap') ∧ ERow w' a' rs ∧ Below w.heap.size w w') := fun w hb => ref_row ar cr rs (by omega) w (hR.below hb)
  have HR2 : Hid (∀ w, Below W.heap.size W w → Calls Try.prog 18 #[.slice a t.length c] w fun e w' => ∃ a' cap', e = .returned (.slice a' t.length cap') ∧ ERow w' a' t ∧ Below w.heap.size w w') := fun w hb => ref_row a c t (by omega) w (hT.below hb)
  have HM : Hid (∀ (w : World) (ax ay : Option Addr) (cx cy : Nat), ERow w ax t → ERow w ay rs → Calls Try.prog 29 #[.int .i64 (k : Int), .slice ax t.length cx, .slice ay rs.length cy] w fun e w' => e = .returned (.int .i64 0) ∧ Below w.heap.size w w') := fun w ax ay cx cy hx hy => by
    rw [← hE]; exact rmay_any (k : Int) ax ay cx cy t rs ht hr (by omega) (by omega) w hx hy
  have g1 : ¬ (70 : Int) < (t.length : Int) := by omega
  have g2 : ¬ (8 : Int) < (rs.length : Int) := by omega
  have g3 : ¬ (8 : Int) < (ps.length : Int) := by omega
  have K0 : Hid (Xb W _ _ _) := Xb.start W ar ap rs.length ps.length cr cp
  have HH : Hid (t.length ≤ 70 ∧ rs.length ≤ 8 ∧ ps.length ≤ 8 ∧ t.length = 2 ^ (rs.length + m) ∧ rs.length + m ≤ 16 ∧ M = 2 ^ m) := ⟨h1, h2, h3, hl, hm16, hM⟩
  have HQ : Hid (ltE t ∧ ltE rs ∧ ofT k t ∧ ofT k rs) := ⟨ht, hr, ot, or⟩
  have HZ : Hid (ltE ps ∧ (ar = none → rs.length = 0 ∧ cr = 0) ∧ (ap = none → ps.length = 0 ∧ cp = 0)) := ⟨hp, hnr, hnp⟩
  clear hp hnr hnp
  have HT : Hid (ERow W a t) := hT
  have HR : Hid (ERow W ar rs) := hR
  have HP : Hid (ERow W ap ps) := hP
  clear hT hR hP ht hr ot or hE h1 h2 h3 hl hm16 hM
  go_enter Try.func8, Try.ntmps8
  go_wp2_with (first | (go_at_call 27; refine (HF.out _ K0.out.d).mono ?_; rintro e w1 ⟨aA, cA, rfl, hA, hb1⟩; have K1 : Hid (Xb W w1 _ _ ∧ ERow w1 aA (firsts t rs)) := ⟨K0.out.below hb1, hA⟩; clear hb1 hA; have x0 := K1.out.1.x0) | (go_at_call 28; refine (HG.out _ K1.out.1.d).mono ?_; rintro e w2 ⟨aB, cB, rfl, hB, hb2⟩; have K2 : Hid (Xb W w2 _ _ ∧ ERow w2 aA (firsts t rs) ∧ ERow w2 aB (lasts t rs)) := ⟨K1.out.1.below hb2, K1.out.2.below hb2, hB⟩; clear hb2 hB x0; have x0 := K2.out.1.x0) | (go_at_call_of 18 (#[.slice ar rs.length cr] : Array Value); refine (HR1.out _ K2.out.1.d).mono ?_; rintro e w3 ⟨ay, cy, rfl, hy, hb3⟩; have K3 : Hid (Xb W w3 _ _ ∧ ERow w3 aA (firsts t rs) ∧ ERow w3 aB (lasts t rs) ∧ ERow w3 ay rs) := ⟨K2.out.1.below hb3, K2.out.2.1.below hb3, K2.out.2.2.below hb3, hy⟩; clear hb3 x0 hy HR1) | (go_at_call 29; refine (HM.out _ ax ay cx cy K4.out.2 K4.out.1.2.2.2).mono ?_; rintro e w5 ⟨rfl, hb5⟩; have K5 : Hid (Xb W w5 _ _ ∧ ERow w5 aA (firsts t rs) ∧ ERow w5 aB (lasts t rs) ∧ ERow w5 ay rs) := ⟨K4.out.1.1.below hb5, K4.out.1.2.1.below hb5, K4.out.1.2.2.1.below hb5, K4.out.1.2.2.2.below hb5⟩; clear hb5) | (go_at_call 18; first | (refine (HR2.out _ K6.out.1.1.d).mono ?_; rintro e w7 ⟨ad, cd, rfl, hx, hb7⟩; have K7 : Hid ((Xb W w7 _ _ ∧ ERow w7 aA (firsts t rs) ∧ ERow w7 aB (lasts t rs) ∧ ERow w7 ay rs) ∧ ERow w7 ac t ∧ ERow w7 ad t) := ⟨⟨K6.out.1.1.below hb7, K6.out.1.2.1.below hb7, K6.out.1.2.2.1.below hb7, K6.out.1.2.2.2.below hb7⟩, K6.out.2.below hb7, hx⟩; clear hb7 hx) | (refine (HR2.out _ K5.out.1.d).mono ?_; rintro e w6 ⟨ac, cc, rfl, hx, hb6⟩; have K6 : Hid ((Xb W w6 _ _ ∧ ERow w6 aA (firsts t rs) ∧ ERow w6 aB (lasts t rs) ∧ ERow w6 ay rs) ∧ ERow w6 ac t) := ⟨⟨K5.out.1.below hb6, K5.out.2.1.below hb6, K5.out.2.2.1.below hb6, K5.out.2.2.2.below hb6⟩, hx⟩; clear hb6 hx) | (refine (HR2.out _ K3.out.1.d).mono ?_; rintro e w4 ⟨ax, cx, rfl, hx, hb4⟩; have K4 : Hid ((Xb W w4 _ _ ∧ ERow w4 aA (firsts t rs) ∧ ERow w4 aB (lasts t rs) ∧ ERow w4 ay rs) ∧ ERow w4 ax t) := ⟨⟨K3.out.1.below hb4, K3.out.2.1.below hb4, K3.out.2.2.1.below hb4, K3.out.2.2.2.below hb4⟩, hx⟩; clear hb4 hx)))
  clear K0 K1 K2 K3 K4 K5 K6 HF HG HR2 HM
  have X0 : Hid (Xb W w7 _ _ ∧ ERow w7 aA (firsts t rs) ∧ ERow w7 aB (lasts t rs) ∧ ERow w7 ay rs) := ⟨K7.out.1.1, K7.out.1.2.1, K7.out.1.2.2.1, K7.out.1.2.2.2⟩
  have hc7 : Hid (ERow w7 ac t ∧ ERow w7 ad t) := K7.out.2
  obtain ⟨i0, hi, hz0, hz1, hz2⟩ := info_elem
  have HI : Hid (Try.prog.info? 25 = some i0 ∧ i0.zero = some (.agg #[.int .u64 0, .int .u64 0]) ∧ i0.size = 2 ∧ i0.bytes = 16) := ⟨hi, hz0, hz1, hz2⟩
  clear K7 hi hz0 hz1 hz2
  go_loopw [13, 14, 15, 16] (fun vc vd vb u wr => ∃ (j n : Nat) (ac' ad' : Option Addr) (cc' cd' : Nat), j ≤ rs.length ∧ u = .int .i64 j ∧ vc = .slice ac' n cc' ∧ vd = .slice ad' n cd' ∧ Hid (n = 2 ^ (rs.length - j + m)) ∧ Hid (ERow wr ac' (firsts t (rs.take j)) ∧ ERow wr ad' (lasts t (rs.take j)) ∧ wr.ownsRow w7.heap.size 25 2 vb j (flat (rs.reverse.take j)) ∧ Below w7.heap.size w7 wr)) (fun _ _ _ u _ => rs.length - (intOf u).toNat)
  case atStart => exact ⟨0, t.length, ac, ad, cc, cd, Nat.zero_le _, rfl, rfl, rfl, (by show _ = _; rw [HH.out.2.2.2.1]; rfl), ⟨by simpa [firsts] using hc7.out.1, by simpa [lasts] using hc7.out.2, ⟨by simp [flat], .inl ⟨rfl, rfl⟩⟩, Below.refl _ _⟩⟩
  case round =>
    obtain ⟨j, n, ac', ad', cc', cd', hj, rfl, rfl, rfl, HN, HS⟩ := hrel
    clear hc7
    by_cases hlt : j < rs.length
    · obtain ⟨n', hn'⟩ : ∃ n', n' = 2 ^ (rs.length - (j + 1) + m) := ⟨_, rfl⟩
      have hn2 : n = 2 * n' := by rw [HN.out, hn', show rs.length - j + m = (rs.length - (j + 1) + m) + 1 by omega, Nat.pow_succ]; omega
      have htl : (rs.take j).length = j := by rw [List.length_take]; omega
      have hs : (firsts t (rs.take j)).length = n := by rw [HN.out]; exact firsts_len _ _ _ (by rw [htl, HH.out.2.2.2.1]; congr 1; omega)
      have hs' : (lasts t (rs.take j)).length = n := by rw [HN.out]; exact lasts_len _ _ _ (by rw [htl, HH.out.2.2.2.1]; congr 1; omega)
      have hn70 : n ≤ 70 := by
        have e1 : n ≤ t.length := by rw [HN.out, HH.out.2.2.2.1]; exact Nat.pow_le_pow_right (by decide) (by omega)
        have := HH.out.1
        omega
      have hx : lt2 (rs.getD j (0, 0)) := HQ.out.2.1.at j
      have HFi : Hid (∀ w, Below wr.heap.size wr w → Calls Try.prog 30 #[.slice ac' n cc', .agg #[.int .u64 ((rs.getD j (0, 0)).1 : Int), .int .u64 ((rs.getD j (0, 0)).2 : Int)]] w fun e w' => ∃ a' cap', e = .returned (.slice a' n' cap') ∧ Fresh w a' ∧ ERow w' a' (firsts t (rs.take (j + 1))) ∧ Below w.heap.size w w') := fun w hb => by
        have := rfirst_any ac' cc' n' (firsts t (rs.take j)) (rs.getD j (0, 0)) (by rw [hs]; exact hn2) (by rw [hs]; omega) (lt_firsts _ _ HQ.out.1) hx w (HS.out.1.below hb)
        rw [hs] at this
        rw [take_sn rs j hlt, firsts_app, firsts_one]
        exact this
      have HLa : Hid (∀ w, Below wr.heap.size wr w → Calls Try.prog 31 #[.slice ad' n cd', .agg #[.int .u64 ((rs.getD j (0, 0)).1 : Int), .int .u64 ((rs.getD j (0, 0)).2 : Int)]] w fun e w' => ∃ a' cap', e = .returned (.slice a' n' cap') ∧ Fresh w a' ∧ ERow w' a' (lasts t (rs.take (j + 1))) ∧ Below w.heap.size w w') := fun w hb => by
        have := rlast_any ad' cd' n' (lasts t (rs.take j)) (rs.getD j (0, 0)) (by rw [hs']; exact hn2) (by rw [hs']; omega) (lt_lasts _ _ HQ.out.1) hx w (HS.out.2.1.below hb)
        rw [hs'] at this
        rw [take_sn rs j hlt, lasts_app, lasts_one, lst1, hs', show n / 2 = n' by omega]
        exact this
      obtain ⟨b, off, rfl, hb, c1, c0⟩ := (X0.out.2.2.2.below HS.out.2.2.2).cells j hlt
      obtain ⟨q, hq⟩ : ∃ q, q = rs.length - 1 - j := ⟨_, rfl⟩
      have hql : q < rs.length := by omega
      have e1 : IntKind.i64.wrap ((rs.length : Int) - 1) = ((rs.length - 1 : Nat) : Int) := by rw [IntKind.wrap_i64]; have := HH.out; omega
      have e2 : IntKind.i64.wrap (((rs.length - 1 : Nat) : Int) - (j : Int)) = (q : Int) := by rw [IntKind.wrap_i64]; have := HH.out; omega
      have e3 : (q : Int) < (rs.length : Int) := by omega
      obtain ⟨br, ofr, rfl, hbr, y1, y0⟩ := HR.out.cells q hql
      have HRV : Hid (rs.reverse.take (j + 1) = rs.reverse.take j ++ [rs.getD q (0, 0)]) := by rw [hq]; exact rev_at rs j hlt
      have HY : Hid (br < W.heap.size ∧ W.cell? ⟨br, ofr + q * 2, none⟩ = some (.int .u64 ((rs.getD q (0, 0)).1 : Int)) ∧ W.cell? ⟨br, ofr + q * 2 + 1, none⟩ = some (.int .u64 ((rs.getD q (0, 0)).2 : Int))) := ⟨hbr, y1, y0⟩
      have HC : Hid (wr.cell? ⟨b, off + j * 2, none⟩ = some (.int .u64 ((rs.getD j (0, 0)).1 : Int)) ∧ wr.cell? ⟨b, off + j * 2 + 1, none⟩ = some (.int .u64 ((rs.getD j (0, 0)).2 : Int))) := ⟨c1, c0⟩
      have HNN : Hid (n' = 2 ^ (rs.length - (j + 1) + m) ∧ rs.length ≤ 8) := ⟨hn', HH.out.2.1⟩
      have HO : Hid (wr.ownsRow w7.heap.size 25 2 u15 j (flat (rs.reverse.take j)) ∧ Below w7.heap.size w7 wr) := ⟨HS.out.2.2.1, HS.out.2.2.2⟩
      clear hn' hn2 hs hs' hn70 hx y1 y0 hbr hq HT HR HP HQ HH HS HN htl AW hb
      generalize rs.getD j (0, 0) = x at *
      generalize rs.getD q (0, 0) = y at *
      generalize rs.length - 1 = L1 at *
      go_wp2_with (first | (go_at_call 30; refine (HFi.out _ (Below.refl _ _)).mono ?_; rintro e w1 ⟨a1, k1, rfl, f1, E1, hb1⟩; have G1 : Hid (Fresh wr a1 ∧ ERow w1 a1 (firsts t (rs.take (j + 1))) ∧ Below wr.heap.size wr w1) := ⟨f1, E1, hb1⟩; clear c1 c0 f1 E1 hb1; have c1 := keepc G1.out.2.2 HC.out.1; have c0 := keepc G1.out.2.2 HC.out.2) | (go_at_call 31; refine (HLa.out _ G1.out.2.2).mono ?_; rintro e w2 ⟨a2, k2, rfl, f2, E2, hb2⟩; have G2 : Hid (Fresh w1 a2 ∧ ERow w2 a2 (lasts t (rs.take (j + 1))) ∧ Below w1.heap.size w1 w2) := ⟨f2, E2, hb2⟩; clear c1 c0 f2 E2 hb2; have GX : Hid (Xb W w2 _ _) := ((X0.out.1.below HO.out.2).below G1.out.2.2).below G2.out.2.2; have x0 := GX.out.x0; have y1 := keepc GX.out.d HY.out.2.1; have y0 := keepc GX.out.d HY.out.2.2) | (at_builtin; refine wpList_append_own _ rfl _ _ 22 rfl w7.heap.size 25 i0 (.agg #[.int .u64 0, .int .u64 0]) 2 16 Try.underlying22 HI.out.1 HI.out.2.1 HI.out.2.2.1 HI.out.2.2.2 rfl (by decide) _ _ _ rfl (own_below (own_below (own_below HO.out.1 G1.out.2.2) G2.out.2.2) ((Below.refl _ _).alloc (Nat.le_refl _) _)) ⟨w2.heap.size, 0, none⟩ 1 1 [.int .u64 (y.1 : Int), .int .u64 (y.2 : Int)] rfl rfl (fun p u hu => by rcases p with _ | _ | p <;> simp at hu <;> subst hu <;> simp [go_sem]) (by intro u hu; simp at hu; rcases hu with rfl | rfl <;> rfl) (by simp only [maxLen]; have := HNN.out.2; omega) (by have := HNN.out.2; omega) (by have h1 := HO.out.2.size; have h2 := G1.out.2.2.size; have h3 := G2.out.2.2.size; simp; omega) ?_; intro v' w' hown' hgr _))
      have hz1 := HO.out.2.size
      have hz2 := G1.out.2.2.size
      have hz3 := G2.out.2.2.size
      refine ⟨⟨j + 1, n', a1, a2, k1, k2, hlt, by simp, rfl, rfl, HNN.out.1, ⟨?_, ?_, ?_, ?_⟩⟩, by simp [intOf]; omega⟩
      · refine ((G1.out.2.1.below G2.out.2.2).below ((Below.refl _ _).alloc (Nat.le_refl _) _)).far hgr fun g o ha hg => ?_
        have h1 := G1.out.1 g o ha
        have h2 := (HO.out.1.lt g hg).2
        omega
      · refine (G2.out.2.1.below ((Below.refl _ _).alloc (Nat.le_refl _) _)).far hgr fun g o ha hg => ?_
        have h1 := G2.out.1 g o ha
        have h2 := (HO.out.1.lt g hg).2
        omega
      · rw [HRV.out, flat_snoc]; exact hown'
      · have d1 := HO.out.2.trans (G1.out.2.2.mono hz1)
        have d2 := d1.trans (G2.out.2.2.mono d1.size)
        exact (d2.alloc d2.size _).grown hgr (by have := d2.size; simp; omega) fun g hg => (HO.out.1.lt g hg).1
    · obtain rfl : j = rs.length := by omega
      have hM : n = M := by rw [HN.out, HH.out.2.2.2.2.2]; congr 1; omega
      subst hM
      have LA : (firsts t rs).length = n := by rw [HH.out.2.2.2.2.2]; exact firsts_len _ _ _ HH.out.2.2.2.1
      have LB : (lasts t rs).length = n := by rw [HH.out.2.2.2.2.2]; exact lasts_len _ _ _ HH.out.2.2.2.1
      have hn70 : n ≤ 70 := by
        have e1 : n ≤ t.length := by rw [HH.out.2.2.2.2.2, HH.out.2.2.2.1]; exact Nat.pow_le_pow_right (by decide) (by omega)
        have := HH.out.1
        omega
      obtain ⟨hC, hDd, hown, hD⟩ := HS.out
      rw [List.take_of_length_le (Nat.le_refl _)] at hC hDd
      have hown' : wr.ownsRow w7.heap.size 25 2 u15 rs.reverse.length (flat rs.reverse) := by
        rw [List.take_of_length_le (by rw [List.length_reverse]; exact Nat.le_refl _)] at hown
        rw [List.length_reverse]; exact hown
      obtain ⟨ab, cb, hv', hBk⟩ := own_row hown'
      have hnb : ab = none → rs.reverse.length = 0 := fun h => by
        rcases Nat.eq_zero_or_pos rs.reverse.length with h0 | h0
        · exact h0
        · obtain ⟨b, off, e, _⟩ := hBk.cells 0 h0
          rw [h] at e; cases e
      rw [List.length_reverse] at hv'
      subst hv'
      have XR : Xb W wr _ _ := X0.out.1.below hD
      have RA : ERow wr aA (firsts t rs) := X0.out.2.1.below hD
      have RB : ERow wr aB (lasts t rs) := X0.out.2.2.1.below hD
      have HSa : Hid (∀ w, Below wr.heap.size wr w → Calls Try.prog 21 #[.slice aA n cA, .slice ac' n cc'] w fun e w' => e = .returned (.bool true) ∧ Below w.heap.size w w') := fun w hb => by
        have := same_rows aA ac' cA cc' (firsts t rs) (by omega) w (RA.below hb) (hC.below hb)
        rw [LA] at this; exact this
      have HSb : Hid (∀ w, Below wr.heap.size wr w → Calls Try.prog 21 #[.slice aB n cB, .slice ad' n cd'] w fun e w' => e = .returned (.bool true) ∧ Below w.heap.size w w') := fun w hb => by
        have := same_rows aB ad' cB cd' (lasts t rs) (by omega) w (RB.below hb) (hDd.below hb)
        rw [LB] at this; exact this
      have lA : ltE (firsts t rs) := lt_firsts _ _ HQ.out.1
      have lB : ltE (lasts t rs) := lt_lasts _ _ HQ.out.1
      have oA : ofT k (firsts t rs) := of_firsts hk _ _ HQ.out.2.2.1 HQ.out.2.2.2
      have oB : ofT k (lasts t rs) := of_lasts hk _ _ HQ.out.2.2.1 HQ.out.2.2.2
      have HXR : Hid (Xb W wr _ _) := XR
      have HB2 : Hid (ERow wr ab rs.reverse ∧ (ab = none → rs.reverse.length = 0)) := ⟨hBk, hnb⟩
      by_cases h0 : atE (k : Int) (firsts t rs) ps = 0
      · obtain ⟨k', hk', hkk, hp16, hl', _, op⟩ := at_zero h0
        obtain rfl : k = k' := by omega
        obtain ⟨u, hu⟩ : ∃ u, firsts (firsts t rs) ps = [u] := List.length_eq_one_iff.1 (firsts_len ps _ 0 (by rw [hl', Nat.add_zero]))
        have hmp : m = ps.length := (Nat.pow_right_inj (a := 2) (by decide)).1 (by rw [← HH.out.2.2.2.2.2, ← LA, hl'])
        have hB' : (lasts t rs).length = 2 ^ ps.length := by rw [LB, ← LA, hl']
        obtain ⟨x, hx⟩ : ∃ x, firsts (lasts t rs) ps = [x] := List.length_eq_one_iff.1 (firsts_len ps _ 0 (by rw [hB', Nat.add_zero]))
        have tl1 : t.length = 2 ^ (rs ++ ps).length := by rw [List.length_append, ← hmp]; exact HH.out.2.2.2.1
        have tl2 : t.length = 2 ^ (ps ++ rs.reverse).length := by rw [List.length_append, List.length_reverse, ← hmp, Nat.add_comm]; exact HH.out.2.2.2.1
        have hv1 : firsts t (rs ++ ps) = [u] := by rw [← first_value, hu]
        have hv2 : firsts t (ps ++ rs.reverse) = [x] := by rw [← last_value t ps rs (by rw [← hmp, Nat.add_comm]; exact HH.out.2.2.2.1), hx]
        have HAu : Hid (∀ w, Below wr.heap.size wr w → Calls Try.prog 32 #[.int .i64 (k : Int), .slice aA n cA, .slice ap ps.length cp] w fun e w' => e = .returned (.tuple #[.agg #[.int .u64 (u.1 : Int), .int .u64 (u.2 : Int)], .int .i64 0]) ∧ Below w.heap.size w w') := fun w hb => by
          have := at_ok k hk aA ap cA cp (firsts t rs) ps lA HZ.out.1 (by omega) hp16 hl' oA op u hu w (RA.below hb) (HP.out.below (XR.d.trans (hb.mono XR.d.size)))
          rw [LA] at this; exact this
        have HAw : Hid (∀ w, Below wr.heap.size wr w → Calls Try.prog 32 #[.int .i64 (k : Int), .slice aB n cB, .slice ap ps.length cp] w fun e w' => e = .returned (.tuple #[.agg #[.int .u64 (x.1 : Int), .int .u64 (x.2 : Int)], .int .i64 0]) ∧ Below w.heap.size w w') := fun w hb => by
          have := at_ok k hk aB ap cB cp (lasts t rs) ps lB HZ.out.1 (by omega) hp16 hB' oB op x hx w (RB.below hb) (HP.out.below (XR.d.trans (hb.mono XR.d.size)))
          rw [LB] at this; exact this
        have HAv : Hid (∀ (w : World) (a' : Option Addr) (cap' : Nat), Below wr.heap.size wr w → ERow w a' (rs ++ ps) → Calls Try.prog 32 #[.int .i64 (k : Int), .slice a t.length c, .slice a' (rs.length + ps.length) cap'] w fun e w' => e = .returned (.tuple #[.agg #[.int .u64 (u.1 : Int), .int .u64 (u.2 : Int)], .int .i64 0]) ∧ Below w.heap.size w w') := fun w a' cap' hb hE => by
          have := at_ok k hk a a' c cap' t (rs ++ ps) HQ.out.1 (fun e he => by rcases List.mem_append.1 he with h | h; exact HQ.out.2.1 e h; exact HZ.out.1 e h) (by have := HH.out.1; omega) (by rw [List.length_append]; have := HH.out; omega) tl1 HQ.out.2.2.1 (fun e he => by rcases List.mem_append.1 he with h | h; exact HQ.out.2.2.2 e h; exact op e h) u hv1 w (HT.out.below (XR.d.trans (hb.mono XR.d.size))) hE
          rw [List.length_append] at this
          exact this
        have HAy : Hid (∀ (w : World) (a' : Option Addr) (cap' : Nat), Below wr.heap.size wr w → ERow w a' (ps ++ rs.reverse) → Calls Try.prog 32 #[.int .i64 (k : Int), .slice a t.length c, .slice a' (ps.length + rs.length) cap'] w fun e w' => e = .returned (.tuple #[.agg #[.int .u64 (x.1 : Int), .int .u64 (x.2 : Int)], .int .i64 0]) ∧ Below w.heap.size w w') := fun w a' cap' hb hE => by
          have := at_ok k hk a a' c cap' t (ps ++ rs.reverse) HQ.out.1 (fun e he => by rcases List.mem_append.1 he with h | h; exact HZ.out.1 e h; exact HQ.out.2.1 e (List.mem_reverse.1 h)) (by have := HH.out.1; omega) (by rw [List.length_append, List.length_reverse]; have := HH.out; omega) tl2 HQ.out.2.2.1 (fun e he => by rcases List.mem_append.1 he with h | h; exact op e h; exact HQ.out.2.2.2 e (List.mem_reverse.1 h)) x hv2 w (HT.out.below (XR.d.trans (hb.mono XR.d.size))) hE
          rw [List.length_append, List.length_reverse] at this
          exact this
        clear hC hDd hown hown' hD RA RB XR hBk hnb lA lB oA oB LA LB hn70 HS HN hl' op hp16 hu hmp hB' hx tl1 tl2 hv1 hv2 h0 HQ X0 HT
        have x1 := HXR.out.x1
        go_wp2_with (first | (go_at_call_of 21 (#[.slice aA n cA, .slice ac' n cc'] : Array Value); refine (HSa.out _ (Below.refl _ _)).mono ?_; rintro e y1 ⟨rfl, hb1⟩; have Y1 : Hid (Below wr.heap.size wr y1) := hb1; clear hb1 x1) | (go_at_call 21; refine (HSb.out _ Y1.out).mono ?_; rintro e y2 ⟨rfl, hb2⟩; have Y2 : Hid (Below wr.heap.size wr y2) := Y1.out.trans (hb2.mono Y1.out.size); clear hb2; have x1 := (HXR.out.below Y2.out).x1) | (go_at_call_of 32 (#[.int .i64 (k : Int), .slice aA n cA, .slice ap ps.length cp] : Array Value); refine (HAu.out _ Y2.out).mono ?_; rintro e y3 ⟨rfl, hb3⟩; have Y3 : Hid (Below wr.heap.size wr (y3.alloc (Obj.cells #[.int .u64 (u.1 : Int), .int .u64 (u.2 : Int)] 25)) ∧ El (y3.alloc (Obj.cells #[.int .u64 (u.1 : Int), .int .u64 (u.2 : Int)] 25)) y3.heap.size u.1 u.2) := ⟨(Y2.out.trans (hb3.mono Y2.out.size)).alloc (Y2.out.trans (hb3.mono Y2.out.size)).size _, El.newQ y3 u _⟩; clear hb3 x1; have x0 := (HXR.out.below Y3.out.1).x0; have x1 := (HXR.out.below Y3.out.1).x1))
        obtain ⟨KU, hKU⟩ : ∃ KU : Hid (El (y3.alloc (Obj.cells #[.int .u64 (u.1 : Int), .int .u64 (u.2 : Int)] 25)) y3.heap.size u.1 u.2 ∧ Below wr.heap.size wr (y3.alloc (Obj.cells #[.int .u64 (u.1 : Int), .int .u64 (u.2 : Int)] 25))), True := ⟨⟨Y3.out.2, Y3.out.1⟩, trivial⟩
        clear hKU Y3 Y2 Y1 HSa HSb HAu
        generalize (y3.alloc (Obj.cells #[.int .u64 (u.1 : Int), .int .u64 (u.2 : Int)] 25)) = w4 at *
        generalize y3.heap.size = qu at *
        have D4 : Hid (Below wr.heap.size wr w4) := KU.out.2
        have XW : Hid (Below W.heap.size W w4) := HXR.out.d.trans (D4.out.mono HXR.out.d.size)
        have HRr : Hid (∀ w, Below w4.heap.size w4 w → ERow w ar rs) := fun w hb => HR.out.below (XW.out.trans (hb.mono XW.out.size))
        have HPp : Hid (∀ w, Below w4.heap.size w4 w → ERow w ap ps) := fun w hb => HP.out.below (XW.out.trans (hb.mono XW.out.size))
        have FX : Hid (∀ w, Below w4.heap.size w4 w → w.cell? ⟨W.heap.size, 0, none⟩ = some (.slice ar rs.length cr) ∧ w.cell? ⟨W.heap.size, 1, none⟩ = some (.slice ap ps.length cp)) := fun w hb => ⟨((HXR.out.below D4.out).below hb).x0, ((HXR.out.below D4.out).below hb).x1⟩
        go_region_held3 (fun w => w.cell? ⟨W.heap.size, 0, none⟩ = some (.slice ar rs.length cr) ∧ w.cell? ⟨W.heap.size, 1, none⟩ = some (.slice ap ps.length cp)) (first | (go_keep; done) | exact f5 | exact f6 | exact f7 | (obtain ⟨g1, g2⟩ := f7; refine ⟨?_, ?_⟩ <;> simp [go_sem, *])) (first | (go_at_call 32; refine (HAv.out _ a6v k6v (by first | exact D4.out.trans (D6v.out.1.mono D4.out.size) | exact (D4.out.trans (D6v.out.1.mono D4.out.size)).alloc (D4.out.trans (D6v.out.1.mono D4.out.size)).size _) (by first | exact D6v.out.2 | exact D6v.out.2.below ((Below.refl _ _).alloc (Nat.le_refl _) _))).mono ?_; rintro e w7v ⟨rfl, hb7⟩; have D7v : Hid (Below w4.heap.size w4 w7v) := (by first | exact D6v.out.1.trans (hb7.mono D6v.out.1.size) | exact (D6v.out.1.alloc D6v.out.1.size _).trans (hb7.mono (D6v.out.1.alloc D6v.out.1.size _).size)); have f7 := FX.out _ D7v.out; (first | (have bx7v := Hid.mk' (bx6v.out.below hb7); obtain ⟨nq1, nq2⟩ := box_ne bx7v.out f7.1; obtain ⟨⟨r1, r0⟩, t1, t0⟩ := bx7v.out) | (have bx7v := Hid.mk' ((Ew.room w6v 25).below hb7); obtain ⟨nq1, nq2⟩ := box_ne bx7v.out f7.1; obtain ⟨⟨r1, r0⟩, t1, t0⟩ := bx7v.out) | skip); clear hb7) | (refine step_app _ (by rfl) _ _ _ (by rfl) w4.heap.size 25 i0 (.agg #[.int .u64 0, .int .u64 0]) 2 16 Try.underlying22 HI.out.1 HI.out.2.1 HI.out.2.2.1 HI.out.2.2.2 rfl (by decide) v1v (0 + rs.length) ([] ++ flat rs) (by rfl) (by first | exact D5v.out.2 | exact D5v.out.2.alloc _) ap ps.length cp (flat ps) (by rfl) (flat_len ps) (fun h => (HZ.out.2.2 h).1) (row_news (HPp.out _ (by first | exact D5v.out.1 | exact D5v.out.1.alloc D5v.out.1.size _))) (cflat_ones ps) (by simp only [maxLen]; have := HH.out; (try simp only [List.length_reverse]); omega) (by have := HH.out; (try simp only [List.length_reverse]); omega) (by have := D5v.out.1.size; first | omega | (simp; done) | (simp; omega)) ?_; intro v2 w6v own2 gr2 at2; obtain ⟨a6v, k6v, rfl, E6⟩ := own_two rfl rfl own2; have D6v : Hid (Below w4.heap.size w4 w6v ∧ ERow w6v a6v (rs ++ ps)) := ⟨Below.grown (B := w4.heap.size) (by first | exact D5v.out.1 | exact D5v.out.1.alloc D5v.out.1.size _) gr2 (by have := D5v.out.1.size; first | omega | (simp; done) | (simp; omega)) (fun g hg => (D5v.out.2.lt g hg).1), E6⟩; have f6 := FX.out _ D6v.out.1; (first | (have bx6v := (Hid.mk' (Ew.far gr2 bx5v.out.1 bx5v.out.2))) | (have bx6v := (Hid.mk' (Ew.far gr2 (Ew.room w5v 25) (own_ne D5v.out.2)))) | skip); clear own2 gr2 at2 E6) | (refine step_app _ (by rfl) _ _ _ (by rfl) w4.heap.size 25 i0 (.agg #[.int .u64 0, .int .u64 0]) 2 16 Try.underlying22 HI.out.1 HI.out.2.1 HI.out.2.2.1 HI.out.2.2.2 rfl (by decide) (.slice (some ⟨w4.heap.size, 0, none⟩) 0 0) 0 [] (by rfl) (by first | exact (World.ownsRow_made w4 #[] 0 (Nat.le_refl _) (by decide) rfl).drew | exact ((World.ownsRow_made w4 #[] 0 (Nat.le_refl _) (by decide) rfl).alloc _).drew | exact World.ownsRow_made _ #[] 0 (by first | omega | (simp; done) | (simp; omega)) (by decide) rfl | exact (World.ownsRow_made _ #[] 0 (by first | omega | (simp; done) | (simp; omega)) (by decide) rfl).alloc _ | (simpa using World.ownsRow_made (base := w4.heap.size) (e := 25) (size := 2) _ #[] 0 (by first | omega | (simp; done) | (simp; omega)) (by decide) rfl)) ar rs.length cr (flat rs) (by rfl) (flat_len rs) (fun h => (HZ.out.2.1 h).1) (row_news (HRr.out _ (by go_grown))) (cflat_ones rs) (by simp only [maxLen]; have := HH.out; (try simp only [List.length_reverse]); omega) (by have := HH.out; (try simp only [List.length_reverse]); omega) (by first | omega | (simp; done) | (simp; omega)) ?_; intro v1v w5v own1 gr1 at1; have D5v : Hid (Below w4.heap.size w4 w5v ∧ w5v.ownsRow w4.heap.size 25 2 v1v (0 + rs.length) ([] ++ flat rs)) := ⟨Below.grown (B := w4.heap.size) (by go_grown) gr1 (by first | omega | (simp; done) | (simp; omega)) (fun g hg => by simp [Value.ownBlock] at hg; omega), own1⟩; have f5 := FX.out _ D5v.out.1; (first | ((obtain bx5v : Hid (Ew w5v (w4.heap.size + 1) 0 0 ∧ v1v.ownBlock ≠ some (w4.heap.size + 1))); (focus (refine ⟨Ew.far gr1 ⟨⟨?_, ?_⟩, ?_, ?_⟩ ?_, ?_⟩ <;> first | (simp [go_sem]; done) | (unfold Value.ownBlock; simp; done) | (intro h; rcases at1 with h' | h' <;> rw [h'] at h <;> simp [Value.ownBlock] at h <;> omega))); rename_i bx5v) | skip); clear own1 gr1 at1) | (refine step_app _ (by rfl) _ _ _ (by rfl) w4.heap.size 25 i0 (.agg #[.int .u64 0, .int .u64 0]) 2 16 Try.underlying22 HI.out.1 HI.out.2.1 HI.out.2.2.1 HI.out.2.2.2 rfl (by decide) (.slice (some ⟨w4.heap.size + 1, 0, none⟩) 0 0) 0 [] (by rfl) (by first | (have h := (World.ownsRow_made (base := w4.heap.size) (e := 25) (size := 2) (w4.alloc (Obj.cells #[.int .u64 0, .int .u64 0] 25)) #[] 0 (by simp) (by decide) rfl).drew; simpa using h) | exact World.ownsRow_made _ #[] 0 (by first | omega | (simp; done) | (simp; omega)) (by decide) rfl | exact (World.ownsRow_made _ #[] 0 (by first | omega | (simp; done) | (simp; omega)) (by decide) rfl).alloc _ | (simpa using World.ownsRow_made (base := w4.heap.size) (e := 25) (size := 2) _ #[] 0 (by first | omega | (simp; done) | (simp; omega)) (by decide) rfl)) ar rs.length cr (flat rs) (by rfl) (flat_len rs) (fun h => (HZ.out.2.1 h).1) (row_news (HRr.out _ (by go_grown))) (cflat_ones rs) (by simp only [maxLen]; have := HH.out; (try simp only [List.length_reverse]); omega) (by have := HH.out; (try simp only [List.length_reverse]); omega) (by first | omega | (simp; done) | (simp; omega)) ?_; intro v1v w5v own1 gr1 at1; have D5v : Hid (Below w4.heap.size w4 w5v ∧ w5v.ownsRow w4.heap.size 25 2 v1v (0 + rs.length) ([] ++ flat rs)) := ⟨Below.grown (B := w4.heap.size) (by go_grown) gr1 (by first | omega | (simp; done) | (simp; omega)) (fun g hg => by simp [Value.ownBlock] at hg; omega), own1⟩; have f5 := FX.out _ D5v.out.1; (first | ((obtain bx5v : Hid (Ew w5v (w4.heap.size) 0 0 ∧ v1v.ownBlock ≠ some (w4.heap.size))); (focus (refine ⟨Ew.far gr1 ⟨⟨?_, ?_⟩, ?_, ?_⟩ ?_, ?_⟩ <;> first | (simp [go_sem]; done) | (unfold Value.ownBlock; simp; done) | (intro h; rcases at1 with h' | h' <;> rw [h'] at h <;> simp [Value.ownBlock] at h <;> omega))); rename_i bx5v) | skip); clear own1 gr1 at1))
        all_goals
          (first
            | (obtain ⟨qv, hqv, bqv⟩ := name_box bx7v.out
               rw [← hqv]
               have hge : w4.heap.size ≤ qv := by have h5 := D5v.out.1.size; have h6 := D6v.out.1.size; omega
               have KV := Hid.mk' (box_end1 D7v.out bqv hge u)
               clear bqv hge hqv bx7v r1 r0 t1 t0 nq1 nq2
               generalize ((w7v.setCell ⟨qv, 0, none⟩ (.int .u64 (u.1 : Int))).setCell ⟨qv, 1, none⟩ (.int .u64 (u.2 : Int))) = wv at *)
            | (obtain ⟨qv, hqv⟩ := name_size w7v
               have KV := Hid.mk' (box_end2 D7v.out u 25)
               rw [← hqv] at KV ⊢
               clear hqv
               generalize (w7v.alloc (Obj.cells #[.int .u64 (u.1 : Int), .int .u64 (u.2 : Int)] 25)) = wv at *))
          have D4v : Hid (Below wr.heap.size wr wv) := D4.out.trans (KV.out.2.mono D4.out.size)
          have KU2 : Hid (El wv qu u.1 u.2) := ⟨upcN KV.out.2 KU.out.1.hi KU.out.1.lt, upcN KV.out.2 KU.out.1.lo KU.out.1.lt⟩
          have x1' := (FX.out _ KV.out.2).2
          clear f5 f6 f7 D5v D6v D7v
          go_upto_region 26 with (first | (go_at_call 32; refine (HAw.out _ D4v.out).mono ?_; rintro e y8 ⟨rfl, hb8⟩; have K8 : Hid ((El (y8.alloc (Obj.cells #[.int .u64 (x.1 : Int), .int .u64 (x.2 : Int)] 25)) qu u.1 u.2 ∧ El (y8.alloc (Obj.cells #[.int .u64 (x.1 : Int), .int .u64 (x.2 : Int)] 25)) qv u.1 u.2) ∧ El (y8.alloc (Obj.cells #[.int .u64 (x.1 : Int), .int .u64 (x.2 : Int)] 25)) y8.heap.size x.1 x.2 ∧ Below wr.heap.size wr (y8.alloc (Obj.cells #[.int .u64 (x.1 : Int), .int .u64 (x.2 : Int)] 25))) := ⟨⟨(KU2.out.below hb8).alloc _, (KV.out.1.below hb8).alloc _⟩, El.newQ y8 x _, (D4v.out.trans (hb8.mono D4v.out.size)).alloc (D4v.out.trans (hb8.mono D4v.out.size)).size _⟩; clear hb8 x1'))
          generalize (y8.alloc (Obj.cells #[.int .u64 (x.1 : Int), .int .u64 (x.2 : Int)] 25)) = wq at *
          generalize y8.heap.size = qw at *
          have DQ : Hid (Below wr.heap.size wr wq) := K8.out.2.2
          have XQ : Hid (Below W.heap.size W wq) := HXR.out.d.trans (DQ.out.mono HXR.out.d.size)
          have HPq : Hid (∀ w, Below wq.heap.size wq w → ERow w ap ps) := fun w hb => HP.out.below (XQ.out.trans (hb.mono XQ.out.size))
          have HBq : Hid (∀ w, Below wq.heap.size wq w → ERow w ab rs.reverse) := fun w hb => HB2.out.1.below (DQ.out.trans (hb.mono DQ.out.size))
          have xq := (HXR.out.below DQ.out).x1
          have xl : W.heap.size < wq.heap.size := cell_lt xq
          go_wp2_with (first | (go_at_call 32; refine (HAy.out _ a6y k6y (DQ.out.trans (D6y.out.1.mono DQ.out.size)) D6y.out.2).mono ?_; rintro e w7y ⟨rfl, hb7⟩; have KY := Hid.mk' (box_end2 (D6y.out.1.trans (hb7.mono D6y.out.1.size)) x 25); clear hb7) | (at_builtin; refine wpList_app _ rfl _ _ 22 rfl wq.heap.size 25 i0 (.agg #[.int .u64 0, .int .u64 0]) 2 16 Try.underlying22 HI.out.1 HI.out.2.1 HI.out.2.2.1 HI.out.2.2.2 rfl (by decide) v1y (0 + ps.length) ([] ++ flat ps) rfl D5y.out.2 ab rs.length cb (flat rs.reverse) rfl (by rw [flat_len, List.length_reverse]) (fun h => by rw [← List.length_reverse]; exact HB2.out.2 h) (row_news (HBq.out _ D5y.out.1)) (cflat_ones rs.reverse) (by simp only [maxLen]; have := HH.out; omega) (by have := HH.out; omega) D5y.out.1.size ?_; intro v2 w6y own2 gr2; obtain ⟨a6y, k6y, rfl, E6⟩ := own_two rfl List.length_reverse own2; have D6y : Hid (Below wq.heap.size wq w6y ∧ ERow w6y a6y (ps ++ rs.reverse)) := ⟨D5y.out.1.grown gr2 D5y.out.1.size (fun g hg => (D5y.out.2.lt g hg).1), E6⟩; clear own2 gr2 E6) | (at_builtin; refine wpList_app _ rfl _ _ 22 rfl wq.heap.size 25 i0 (.agg #[.int .u64 0, .int .u64 0]) 2 16 Try.underlying22 HI.out.1 HI.out.2.1 HI.out.2.2.1 HI.out.2.2.2 rfl (by decide) (.slice (some ⟨wq.heap.size, 0, none⟩) 0 0) 0 [] (by rfl) (by first | exact World.ownsRow_made wq #[] 0 (Nat.le_refl _) (by decide) rfl | (simpa using World.ownsRow_made (base := wq.heap.size) (e := 25) (size := 2) wq #[] 0 (Nat.le_refl _) (by decide) rfl)) ap ps.length cp (flat ps) (by rfl) (flat_len ps) (fun h => (HZ.out.2.2 h).1) (row_news (HPq.out _ ((Below.refl _ _).alloc (Nat.le_refl _) _))) (cflat_ones ps) (by simp only [maxLen]; have := HH.out; omega) (by have := HH.out; omega) (by simp) ?_; intro v1y w5y own1 gr1; have D5y : Hid (Below wq.heap.size wq w5y ∧ w5y.ownsRow wq.heap.size 25 2 v1y (0 + ps.length) ([] ++ flat ps)) := ⟨((Below.refl _ _).alloc (Nat.le_refl _) _).grown gr1 (by simp) (fun g hg => by simp [Value.ownBlock] at hg; omega), own1⟩; clear own1 gr1))
          generalize (w7y.alloc (Obj.cells #[.int .u64 (x.1 : Int), .int .u64 (x.2 : Int)] 25)) = wy at *
          generalize w7y.heap.size = qy at *
          have KF : Us wr wy qu qv qw qy u u x x := ⟨⟨upcN KY.out.2 K8.out.1.1.hi K8.out.1.1.lt, upcN KY.out.2 K8.out.1.1.lo K8.out.1.1.lt⟩, ⟨upcN KY.out.2 K8.out.1.2.hi K8.out.1.2.lt, upcN KY.out.2 K8.out.1.2.lo K8.out.1.2.lt⟩, ⟨upcN KY.out.2 K8.out.2.1.hi K8.out.2.1.lt, upcN KY.out.2 K8.out.2.1.lo K8.out.2.1.lt⟩, KY.out.1, DQ.out.trans (KY.out.2.mono DQ.out.size)⟩
          refine (AW.go _).mono ?_
          rintro e w9 ⟨rfl, hb9⟩
          have KG : Hid (Us wr w9 qu qv qw qy u u x x) := KF.below hb9
          clear KF hb9 KY K8 KU2 KV
          obtain ⟨f1, f2, f3, f4, f5, f6, f7, f8⟩ := KG.out.facts
          go_wp2
          go_ret
          exact ⟨rfl, HXR.out.d.trans (KG.out.d.mono HXR.out.d.size)⟩
      · have HAe : Hid (∀ w, Below wr.heap.size wr w → Calls Try.prog 32 #[.int .i64 (k : Int), .slice aA n cA, .slice ap ps.length cp] w fun e w' => e = .returned (.tuple #[.agg #[.int .u64 0, .int .u64 0], .int .i64 (atE (k : Int) (firsts t rs) ps)]) ∧ Below w.heap.size w w') := fun w hb => by
          have := at_err (k : Int) aA ap cA cp (firsts t rs) ps lA HZ.out.1 (by omega) (by have := HH.out; omega) _ rfl h0 w (RA.below hb) (HP.out.below (XR.d.trans (hb.mono XR.d.size)))
          rw [LA] at this; exact this
        have hE0 : (atE (k : Int) (firsts t rs) ps != 0) = true := by simp [h0]
        clear hC hDd hown hown' hD RA RB XR hBk hnb lA lB oA oB LA LB hn70 HS HN h0 HQ X0 HT
        generalize atE (k : Int) (firsts t rs) ps = E at *
        have x1 := HXR.out.x1
        go_wp2_with (first | (go_at_call_of 21 (#[.slice aA n cA, .slice ac' n cc'] : Array Value); refine (HSa.out _ (Below.refl _ _)).mono ?_; rintro e y1 ⟨rfl, hb1⟩; have Y1 : Hid (Below wr.heap.size wr y1) := hb1; clear hb1 x1) | (go_at_call 21; refine (HSb.out _ Y1.out).mono ?_; rintro e y2 ⟨rfl, hb2⟩; have Y2 : Hid (Below wr.heap.size wr y2) := Y1.out.trans (hb2.mono Y1.out.size); clear hb2; have x1 := (HXR.out.below Y2.out).x1) | (go_at_call 32; refine (HAe.out _ Y2.out).mono ?_; rintro e y3 ⟨rfl, hb3⟩; have Y3 : Hid (Below wr.heap.size wr (y3.alloc (Obj.cells #[.int .u64 0, .int .u64 0] 25))) := (Y2.out.trans (hb3.mono Y2.out.size)).alloc (Y2.out.trans (hb3.mono Y2.out.size)).size _; clear hb3 x1) | (go_at_call 26; refine (AW.go _).mono ?_; rintro e y4 ⟨rfl, hb4⟩; have Y4 := Y3.out.trans (hb4.mono Y3.out.size)))
        go_ret
        exact ⟨rfl, HXR.out.d.trans (Y4.mono HXR.out.d.size)⟩
end Go.Proofs.Ytcnbaoijgfaljaa
