/- The contract of claim.At over the seat's translation: one column, nothing behind it. -/
import Derived.Test.YtejoombhcnldmaaPCoB
namespace Go.Proofs.Ytejoombhcnldmaa
open Go.RowKit
open Cb
open Tw (pm)

set_option maxHeartbeats 40000000 in
set_option maxRecDepth 100000 in
theorem cmat_b (m cn wn n P L : Nat) (a a2 : Option Addr) (a3 : Option Addr) (cap cap2 : Nat) (cl : List Stp) (z qs : List (Nat × Nat)) (b : Nat × Nat) (hn : n = 2 ^ wn) (hP : P = 2 ^ cn) (hL : cl.length = L) (lz : ltE z) (lq : ltE qs) (lb : lt2 b) (hql : qs.length = wn + cn) (oq : ofT m qs) (hcap : wn + cn ≤ wn) (hE : chE (m : Int) (cn : Int) (wn : Int) cl z b = 0)  (W : World) (hr : ORow W a cl) (hz : ERow W a2 z) (hq : ERow W a3 qs) :
    Calls Try.prog 18 #[.int .i64 (m : Int), .int .i64 (cn : Int), .int .i64 (wn : Int), .slice a L cap, .slice a2 wn cap2, .agg #[.int .u64 (b.1 : Int), .int .u64 (b.2 : Int)], .slice a3 (wn + cn) wn] W fun e w' => e = .returned (.tuple #[.agg #[.int .u64 ((ceS b z (qs.take wn) (qs.drop wn) cl L).1 : Int), .int .u64 ((ceS b z (qs.take wn) (qs.drop wn) cl L).2 : Int)], .int .i64 0]) ∧ Below W.heap.size W w' := by
  obtain ⟨m', cn', wn', hm, e1, hcn, e2, hwn, e3, h200, hcl, hzl, oz, ob⟩ := ch_zero hE
  obtain rfl : m = m' := by omega
  obtain rfl : cn = cn' := by omega
  obtain rfl : wn = wn' := by omega
  have hpw : pw (wn : Int) = (n : Int) := by rw [hn]; rfl
  have hn1 : n ≤ 64 := by rw [hn]; exact Nat.le_trans (Nat.pow_le_pow_right (by decide) hwn) (by decide)
  have hP1 : P ≤ 64 := by rw [hP]; exact Nat.le_trans (Nat.pow_le_pow_right (by decide) hcn) (by decide)
  obtain ⟨pl, hpl⟩ : ∃ pl, pl = qs.take wn := ⟨_, rfl⟩
  obtain ⟨ph, hph⟩ : ∃ ph, ph = qs.drop wn := ⟨_, rfl⟩
  rw [← hpl, ← hph]
  have ll : pl.length = wn := by rw [hpl, List.length_take]; omega
  have lh : ph.length = cn := by rw [hph, List.length_drop]; omega
  have lpl : ltE pl := fun e he => lq e (List.mem_of_mem_take (hpl ▸ he))
  have lph : ltE ph := fun e he => lq e (List.mem_of_mem_drop (hph ▸ he))
  have opl : ofT m pl := fun e he => oq e (List.mem_of_mem_take (hpl ▸ he))
  have oph : ofT m ph := fun e he => oq e (List.mem_of_mem_drop (hph ▸ he))
  have HC0 : Hid (cn = 0) := by show _ = _; omega
  obtain ⟨S, hS⟩ : ∃ S, S = wn + cn := ⟨_, rfl⟩
  rw [← hS] at hql hcap ⊢
  have HH := hidC (fun (v : World) (hb : Below W.heap.size W v) => cmhind (m : Int) (cn : Int) (wn : Int) a a2 cap cap2 cl z b (by omega) (by omega) lz lb v (hr.below hb) (hz.below hb))
  rw [hE, hL, hzl] at HH
  have hfit : cfE (m : Int) (S : Int) qs = 0 := by
    unfold cfE
    rw [if_pos (by rw [hql]), if_pos (List.all_eq_true.2 fun e he => oq e he)]
  have HF := hidC (fun (v : World) (hb : Below W.heap.size W v) => cmfit (m : Int) (S : Int) a3 wn qs lq (by omega) v (hq.below hb))
  rw [hfit, hql] at HF
  have e9 : IntKind.i64.wrap ((wn : Int) + (cn : Int)) = (S : Int) := by rw [IntKind.wrap_i64]; omega
  have HWt := hidC (fun (v : World) (aa : Option Addr) (cc : Nat) (h : ERow v aa ph) => cwts m hm aa cc cn P ph lph lh (by omega) hP.symm oph v h)
  have HPS := hidC (fun v => cmpows m b v)
  have HPW := hidC (fun (i q ql qb : Nat) (v : World) (h : Pws v q ql qb m b (bpow b i)) => cmpow m q ql qb b (bpow b i) lb (lt_bpow b i) ob (of_bpow hm ob i) v h)
  have HTA : Hid (∀ (i : Nat) (v : World) (aa : Option Addr) (cc : Nat), i < L → Below W.heap.size W v → ERow v aa pl → Calls Try.prog 48 #[.int .i64 (m : Int), .int .i64 (cl.getD i zst).a, .int .i64 (wn : Int), .int .i64 (cl.getD i zst).b, .slice a2 wn cap2, .slice aa wn cc] v fun e w' => e = .returned (.tuple #[.agg #[.int .u64 ((sgn2 (cl.getD i zst).a z pl (cl.getD i zst).b.toNat).1 : Int), .int .u64 ((sgn2 (cl.getD i zst).a z pl (cl.getD i zst).b.toNat).2 : Int)], .int .i64 0]) ∧ Below v.heap.size v w') := by
    intro i v aa cc hi hb h
    obtain ⟨_, ft⟩ := hcl i (by omega)
    have fs := (ftB_true ft).2.1
    have t := tat_ok m hm (cl.getD i zst).a wn (cl.getD i zst).b.toNat n hwn hpw (by rw [Int.toNat_of_nonneg fs.1]; exact ft) a2 aa cap2 cc z pl lz lpl hzl ll oz opl v (hz.below hb) h
    rw [Int.toNat_of_nonneg fs.1] at t
    exact t
  have HCL : Hid ((∀ i, i < L → 0 ≤ (cl.getD i zst).k ∧ (cl.getD i zst).k < (P : Int)) ∧ ORow W a cl ∧ cl.length = L ∧ m < 8 ∧ ofE m b ∧ lt2 b) := ⟨fun i hi => by have h := (hcl i (by omega)).1; rw [← hP] at h; exact h, hr, hL, hm, ob, lb⟩
  have HSG : Hid (∀ i, lt2 (sgn2 (cl.getD i zst).a z pl (cl.getD i zst).b.toNat) ∧ ofE m (sgn2 (cl.getD i zst).a z pl (cl.getD i zst).b.toNat) ∧ ∀ k, ofE m (wt ph k)) := fun i => ⟨lt_sgn2 _ _ _ _, of_sgn2 hm _ oz opl _, fun k => Rg.of_wt hm oph k⟩
  have HAS : Hid (∀ i, ceS b z pl ph cl (i + 1) = xa (ceS b z pl ph cl i) (pm (bpow b i) (pm (wt ph (cl.getD i zst).k.toNat) (sgn2 (cl.getD i zst).a z pl (cl.getD i zst).b.toNat)))) := fun i => rfl
  have hL1 : L ≤ 200 := by omega
  have HQ0 : Hid (ERow W a3 qs) := hq
  have HPP : Hid (pl = qs.take wn ∧ ph = qs.drop wn ∧ qs.length = S ∧ S = wn + cn) := ⟨hpl, hph, hql, hS⟩
  have hcS : wn ≤ S := by omega
  have hwc : wn ≤ wn := by omega
  have hcS2 : S - wn = cn := by omega
  clear hE lz lq lb hql oq hr hz hq hcl hzl oz ob h200 hpw lpl lph opl oph ll lh hpl hph hn hP hfit hL hm e1 e2 e3 hS
  go_enter Try.func18, Try.ntmps18
  have KB0 : Hid (El ((W.alloc (Obj.cells #[.int .u64 (b.1 : Int), .int .u64 (b.2 : Int)] 26)).alloc (Obj.cells #[.int .u64 0, .int .u64 0] 26)) W.heap.size b.1 b.2 ∧ Ew ((W.alloc (Obj.cells #[.int .u64 (b.1 : Int), .int .u64 (b.2 : Int)] 26)).alloc (Obj.cells #[.int .u64 0, .int .u64 0] 26)) (W.heap.size + 1) 0 0 ∧ Below W.heap.size W ((W.alloc (Obj.cells #[.int .u64 (b.1 : Int), .int .u64 (b.2 : Int)] 26)).alloc (Obj.cells #[.int .u64 0, .int .u64 0] 26))) := ⟨⟨by simp [go_sem], by simp [go_sem]⟩, by have h := Ew.roomR (W.alloc (Obj.cells #[.int .u64 (b.1 : Int), .int .u64 (b.2 : Int)] 26)) 26; simpa using h, ((Below.refl W.heap.size W).alloc (Nat.le_refl _) _).alloc (by simp) _⟩
  go_wp2_with (first
    | (go_at_call 42; refine (HH.out _ KB0.out.2.2).mono ?_; rintro e w1 ⟨rfl, hb1⟩; have K1 : Hid (El w1 W.heap.size b.1 b.2 ∧ Ew w1 (W.heap.size + 1) 0 0 ∧ Below W.heap.size W w1) := ⟨KB0.out.1.below hb1, KB0.out.2.1.below hb1, KB0.out.2.2.trans (hb1.mono KB0.out.2.2.size)⟩; clear hb1 KB0 HH)
    | (go_at_call 46; refine (HF.out _ K1.out.2.2).mono ?_; rintro e w2 ⟨rfl, hb2⟩; have K2 : Hid (El w2 W.heap.size b.1 b.2 ∧ Ew w2 (W.heap.size + 1) 0 0 ∧ Below W.heap.size W w2) := ⟨K1.out.1.below hb2, K1.out.2.1.below hb2, K1.out.2.2.trans (hb2.mono K1.out.2.2.size)⟩; clear hb2 K1 HF)
    | (go_at_call 47; refine (HWt.out _ _ _ (ERow.noneE (by rw [HPP.out.2.1, List.length_drop]; have := HPP.out.2.2.1; have := HPP.out.2.2.2; have := HC0.out; omega))).mono ?_; rintro e w3 ⟨g, cp, rfl, G3, hb3⟩; have K3 : Hid ((El (w3.alloc (Obj.cells #[.int .u64 0, .int .u64 0] 26)) W.heap.size b.1 b.2 ∧ Ew (w3.alloc (Obj.cells #[.int .u64 0, .int .u64 0] 26)) (W.heap.size + 1) 0 0 ∧ Below W.heap.size W (w3.alloc (Obj.cells #[.int .u64 0, .int .u64 0] 26))) ∧ ERow (w3.alloc (Obj.cells #[.int .u64 0, .int .u64 0] 26)) (some ⟨g, 0, none⟩) (Rg.wts ph P) ∧ Ew (w3.alloc (Obj.cells #[.int .u64 0, .int .u64 0] 26)) w3.heap.size 0 0 ∧ g < w3.heap.size ∧ W.heap.size + 1 < w3.heap.size) := ⟨⟨(K2.out.1.below hb3).alloc _, (K2.out.2.1.below hb3).alloc _, (K2.out.2.2.trans (hb3.mono K2.out.2.2.size)).alloc (K2.out.2.2.trans (hb3.mono K2.out.2.2.size)).size _⟩, (own_wts G3).below ((Below.refl _ _).alloc (Nat.le_refl _) _), Ew.roomR w3 _, (G3.lt g rfl).2, (K2.out.2.1.below hb3).toEl.lt⟩; clear hb3 K2 HWt G3; obtain ⟨b1, b0⟩ := K3.out.1.1)
    | (go_at_call 35; refine (HPS.out _).mono ?_; rintro e w4 ⟨q, ql, qb, rfl, PW, hqs, hb4⟩; have K4 : Hid (Tb W w4 g P ph w3.heap.size q ql qb m b (0, 0) (0, 1) ∧ (g < w3.heap.size ∧ w3.heap.size < q ∧ w3.heap.size < ql ∧ w3.heap.size < qb)) := ⟨⟨⟨K3.out.1.2.1.below hb4, K3.out.2.2.1.below hb4, PW, K3.out.1.2.2.trans (hb4.mono K3.out.1.2.2.size), K3.out.2.2.2.2, by have h := hqs.1; simp at h; omega⟩, K3.out.2.1.below hb4⟩, K3.out.2.2.2.1, by have h := hqs.1; simp at h; omega, by have h := hqs.2.1; simp at h; omega, by have h := hqs.2.2; simp at h; omega⟩; clear hb4 PW K3 HPS hqs b1 b0))
  unfold fPow
  have HQ := hidC K4.out.2
  have K5 : Hid (Tb W w4 g P ph w3.heap.size q ql qb m b (ceS b z pl ph cl 0) (bpow b 0)) := K4.out.1
  clear K4
  generalize w3.heap.size = qt at *
  go_loopw [57] (fun u wr => ∃ i : Nat, i ≤ L ∧ u = .int .i64 i ∧ Hid (Tb W wr g P ph qt q ql qb m b (ceS b z pl ph cl i) (bpow b i))) (fun u _ => L - (intOf u).toNat)
  case atStart => exact ⟨0, Nat.zero_le _, rfl, K5⟩
  case round =>
    obtain ⟨i, hi, rfl, HK⟩ := hrel
    clear K5
    by_cases hlt : i < L
    · have i1 : (i : Int) < (L : Int) := by omega
      have i0' : (0 : Int) ≤ (i : Int) := by omega
      obtain ⟨bb, off, rfl, hbb, d0, d1, d2, d3, d4⟩ := HCL.out.2.1.cells i (by rw [HCL.out.2.2.1]; exact hlt)
      have D0 := keepc HK.out.o.d d0
      have D1 := keepc HK.out.o.d d1
      have D2 := keepc HK.out.o.d d2
      have D3 := keepc HK.out.o.d d3
      have D4 := keepc HK.out.o.d d4
      have hkk := HCL.out.1 i hlt
      have hsg := HSG.out i
      have hpl := lt_bpow b i
      have hpo := of_bpow HCL.out.2.2.2.1 HCL.out.2.2.2.2.1 i
      have htl := lt_ceS b z pl ph cl i
      have HN := HAS.out i
      have HB : bpow b (i + 1) = pm (bpow b i) b := rfl
      have HPI := hidC (HPW.out i q ql qb)
      have HTi := hidC (fun (v : World) (aa : Option Addr) (cc : Nat) => HTA.out i v aa cc hlt)
      clear d0 d1 d2 d3 d4 hbb
      generalize sgn2 (cl.getD i zst).a z pl (cl.getD i zst).b.toNat = sg at *
      generalize cl.getD i zst = o at *
      obtain ⟨k, ki, s, v⟩ := o
      dsimp only at *
      obtain ⟨kn, rfl⟩ : ∃ kn : Nat, k = (kn : Int) := ⟨k.toNat, by omega⟩
      rw [Int.toNat_natCast] at HN
      have k1 : (kn : Int) < (P : Int) := hkk.2
      have k0 : (0 : Int) ≤ (kn : Int) := by omega
      have hwl := lt_wt ph kn
      have M1 : Hid (Ret 37 #[.int .i64 (m : Int), .agg #[.int .u64 ((wt ph kn).1 : Int), .int .u64 ((wt ph kn).2 : Int)], .agg #[.int .u64 (sg.1 : Int), .int .u64 (sg.2 : Int)]] (.agg #[.int .u64 ((pm (wt ph kn) sg).1 : Int), .int .u64 ((pm (wt ph kn) sg).2 : Int)])) := by
        have := mul_any (m : Int) (wt ph kn) sg hwl.1 hwl.2 hsg.1.1 hsg.1.2
        rw [mulv_of (hsg.2.2 kn) hsg.2.1] at this
        exact this
      have hso : ofE m (pm (wt ph kn) sg) := of_pm HCL.out.2.2.2.1 (hsg.2.2 kn) hsg.2.1
      have hsl := lt_pm (wt ph kn) sg
      have HWk : Hid ((Rg.wts ph P).getD kn (0, 0) = wt ph kn) := Rg.wts_at ph P (by omega)
      generalize wt ph kn = wk at *
      generalize pm wk sg = sh at *
      have M2 : Hid (Ret 37 #[.int .i64 (m : Int), .agg #[.int .u64 ((bpow b i).1 : Int), .int .u64 ((bpow b i).2 : Int)], .agg #[.int .u64 (sh.1 : Int), .int .u64 (sh.2 : Int)]] (.agg #[.int .u64 ((pm (bpow b i) sh).1 : Int), .int .u64 ((pm (bpow b i) sh).2 : Int)])) := by
        have := mul_any (m : Int) (bpow b i) sh hpl.1 hpl.2 hsl.1 hsl.2
        rw [mulv_of hpo hso] at this
        exact this
      have AD : Hid (Ret 36 #[.agg #[.int .u64 ((ceS b z pl ph cl i).1 : Int), .int .u64 ((ceS b z pl ph cl i).2 : Int)], .agg #[.int .u64 ((pm (bpow b i) sh).1 : Int), .int .u64 ((pm (bpow b i) sh).2 : Int)]] (.agg #[.int .u64 ((xa (ceS b z pl ph cl i) (pm (bpow b i) sh)).1 : Int), .int .u64 ((xa (ceS b z pl ph cl i) (pm (bpow b i) sh)).2 : Int)])) := fun w => add_any _ _ _ _ htl.1 htl.2 (lt_pm _ _).1 (lt_pm _ _).2 w
      rw [← HN] at AD
      rw [← HB] at HPI
      obtain ⟨t', ht'⟩ : ∃ t', t' = ceS b z pl ph cl (i + 1) := ⟨_, rfl⟩
      obtain ⟨n', hn'⟩ : ∃ n', n' = bpow b (i + 1) := ⟨_, rfl⟩
      rw [← ht'] at AD
      rw [← hn'] at HPI
      have HT' : Hid (t' = ceS b z pl ph cl (i + 1) ∧ n' = bpow b (i + 1)) := ⟨ht', hn'⟩
      clear ht' hn' HN HB htl hpl hpo hsl hso hsg hkk hwl
      generalize ceS b z pl ph cl i = t at *
      generalize bpow b i = n0 at *
      generalize pm n0 sh = y at *
      go_upto_region 13 with fail
      have K : Tb W (wr.alloc (Obj.cells #[.int .i64 (kn : Int), .int .i64 ki, .int .i64 s, .int .u64 (v.1 : Int), .int .u64 (v.2 : Int)] 60)) g P ph qt q ql qb m b t n0 := HK.out.alloc _
      have C0 : (wr.alloc (Obj.cells #[.int .i64 (kn : Int), .int .i64 ki, .int .i64 s, .int .u64 (v.1 : Int), .int .u64 (v.2 : Int)] 60)).cell? ⟨wr.heap.size, 0, none⟩ = some (.int .i64 (kn : Int)) := by simp [go_sem]
      have C1 : (wr.alloc (Obj.cells #[.int .i64 (kn : Int), .int .i64 ki, .int .i64 s, .int .u64 (v.1 : Int), .int .u64 (v.2 : Int)] 60)).cell? ⟨wr.heap.size, 1, none⟩ = some (.int .i64 ki) := by simp [go_sem]
      have C2 : (wr.alloc (Obj.cells #[.int .i64 (kn : Int), .int .i64 ki, .int .i64 s, .int .u64 (v.1 : Int), .int .u64 (v.2 : Int)] 60)).cell? ⟨wr.heap.size, 2, none⟩ = some (.int .i64 s) := by simp [go_sem]
      clear HK D0 D1 D2 D3 D4
      generalize (wr.alloc (Obj.cells #[.int .i64 (kn : Int), .int .i64 ki, .int .i64 s, .int .u64 (v.1 : Int), .int .u64 (v.2 : Int)] 60)) = wz at *
      generalize wr.heap.size = qc at *
      go_cut [23, 24] (fun p23 p24 wx => ∃ q23 : Nat, p23 = .pointer (some ⟨q23, 0, none⟩) ∧ p24 = .int .i64 0 ∧ Hid (El wx q23 sg.1 sg.2 ∧ Tb W wx g P ph qt q ql qb m b t n0 ∧ wx.cell? ⟨qc, 0, none⟩ = some (.int .i64 (kn : Int))))
      case first =>
        refine wp_region_noPanic ?_
        refine wp_region_peel (S := fun w => w.cell? ⟨qc, 1, none⟩ = some (.int .i64 ki) ∧ w.cell? ⟨qc, 2, none⟩ = some (.int .i64 s)) 16 (by kernel_rfl) rfl (by kernel_rfl) ?_ (fun hHeld => ?_)
        · exact ⟨C1, C2⟩
        refine wpAnyH_take (i := 0) (oi := _) (v := ?_) rfl (by kernel_rfl) (by kernel_rfl) (by kernel_rfl) (fun _ _ _ h => h) (Or.inl ⟨by rfl, ?_⟩) (by assumption) ?_
        rotate_left
        · ((intro w hSw; (try dsimp only at hSw); go_simp) <;> (try with_reducible rfl))
        show wpAnyH _ _ _ _ _ _ _ (Act.put _ (some 62) _) _
        simp only [Act.put, List.setIfInBounds_toArray, List.set_cons_succ, List.set_cons_zero]
        refine wpAnyH_take (i := 1) (oi := _) (v := ?_) rfl (by kernel_rfl) (by kernel_rfl) (by kernel_rfl) (fun _ _ _ h => h) (Or.inl ⟨by rfl, ?_⟩) (by assumption) ?_
        rotate_left
        · ((intro w hSw; (try dsimp only at hSw); go_simp) <;> (try with_reducible rfl))
        show wpAnyH _ _ _ _ _ _ _ (Act.put _ (some 63) _) _
        simp only [Act.put, List.setIfInBounds_toArray, List.set_cons_succ, List.set_cons_zero]
        refine wpAnyH_take (i := 2) (oi := _) (v := ?_) rfl (by kernel_rfl) (by kernel_rfl) (by kernel_rfl) (fun _ _ _ h => h) (Or.inl ⟨by rfl, ?_⟩) (by assumption) ?_
        rotate_left
        · ((intro w hSw; (try dsimp only at hSw); go_simp) <;> (try with_reducible rfl))
        show wpAnyH _ _ _ _ _ _ _ (Act.put _ (some 64) _) _
        simp only [Act.put, List.setIfInBounds_toArray, List.set_cons_succ, List.set_cons_zero]
        refine wpAnyH_take (i := 3) (oi := _) (v := ?_) rfl (by kernel_rfl) (by kernel_rfl) (by kernel_rfl) (fun _ _ _ h => h) (Or.inl ⟨by rfl, ?_⟩) (by assumption) ?_
        rotate_left
        · ((intro w hSw; (try dsimp only at hSw); go_simp) <;> (try with_reducible rfl))
        show wpAnyH _ _ _ _ _ _ _ (Act.put _ (some 65) _) _
        simp only [Act.put, List.setIfInBounds_toArray, List.set_cons_succ, List.set_cons_zero]
        refine wpAnyH_take (i := 4) (oi := _) (v := ?_) rfl (by kernel_rfl) (by kernel_rfl) (by kernel_rfl) (fun _ _ _ h => h) (Or.inl ⟨by rfl, ?_⟩) (by assumption) ?_
        rotate_left
        · ((intro w hSw; (try dsimp only at hSw); go_simp) <;> (try with_reducible rfl))
        show wpAnyH _ _ _ _ _ _ _ (Act.put _ (some 66) _) _
        simp only [Act.put, List.setIfInBounds_toArray, List.set_cons_succ, List.set_cons_zero]
        refine wpAnyH_take (i := 5) (oi := _) (v := ?_) rfl (by kernel_rfl) (by kernel_rfl) (by kernel_rfl) (fun _ _ _ h => h) (Or.inl ⟨by rfl, ?_⟩) (by assumption) ?_
        rotate_left
        · ((intro w hSw; (try dsimp only at hSw); go_simp) <;> (try with_reducible rfl))
        show wpAnyH _ _ _ _ _ _ _ (Act.put _ (some 67) _) _
        simp only [Act.put, List.setIfInBounds_toArray, List.set_cons_succ, List.set_cons_zero]
        refine wpAnyH_take (i := 6) (oi := _) (v := ?_) rfl (by kernel_rfl) (by kernel_rfl) (by kernel_rfl) (fun _ _ _ h => h) (Or.inl ⟨by rfl, ?_⟩) (by assumption) ?_
        rotate_left
        · ((intro w hSw; (try dsimp only at hSw); go_simp) <;> (try with_reducible rfl))
        show wpAnyH _ _ _ _ _ _ _ (Act.put _ (some 68) _) _
        simp only [Act.put, List.setIfInBounds_toArray, List.set_cons_succ, List.set_cons_zero]
        refine wpAnyH_take (i := 7) (oi := _) (v := ?_) rfl (by kernel_rfl) (by kernel_rfl) (by kernel_rfl) (fun _ _ _ h => h) (Or.inl ⟨by rfl, ?_⟩) (by assumption) ?_
        rotate_left
        · ((intro w hSw; (try dsimp only at hSw); go_simp) <;> (try with_reducible rfl))
        show wpAnyH _ _ _ _ _ _ _ (Act.put _ (some 69) _) _
        simp only [Act.put, List.setIfInBounds_toArray, List.set_cons_succ, List.set_cons_zero]
        refine wpAnyH_take (i := 8) (oi := _) (v := ?_) rfl (by kernel_rfl) (by kernel_rfl) (by kernel_rfl) (fun _ _ _ h => h) (Or.inl ⟨by rfl, ?_⟩) (by assumption) ?_
        rotate_left
        · ((intro w hSw; (try dsimp only at hSw); go_simp) <;> (try with_reducible rfl))
        show wpAnyH _ _ _ _ _ _ _ (Act.put _ (some 70) _) _
        simp only [Act.put, List.setIfInBounds_toArray, List.set_cons_succ, List.set_cons_zero]
        refine wpAnyH_take (i := 9) (oi := _) (v := ?_) rfl (by kernel_rfl) (by kernel_rfl) (by kernel_rfl) (fun _ _ _ h => h) (Or.inl ⟨by rfl, ?_⟩) (by assumption) ?_
        rotate_left
        · ((intro w hSw; (try dsimp only at hSw); go_simp) <;> (try with_reducible rfl))
        show wpAnyH _ _ _ _ _ _ _ (Act.put _ (some 71) _) _
        simp only [Act.put, List.setIfInBounds_toArray, List.set_cons_succ, List.set_cons_zero]
        have K' := K.drew
        have C0' : wz.drew.cell? ⟨qc, 0, none⟩ = some (.int .i64 (kn : Int)) := C0
        have C1' : wz.drew.cell? ⟨qc, 1, none⟩ = some (.int .i64 ki) := C1
        have C2' : wz.drew.cell? ⟨qc, 2, none⟩ = some (.int .i64 s) := C2
        clear K C0 C1 C2
        have K := K'
        have C0 := C0'
        have C1 := C1'
        have C2 := C2'
        clear K' C0' C1' C2'
        generalize wz.drew = wd at *
        refine wpAnyH_ready (rs := [10, 14]) (by kernel_rfl) (by simp) ?_
        refine (AllReadyH.cons (o := _) rfl (fun KK hKK => ?_) (AllReadyH.cons (o := _) rfl (fun KK hKK => ?_) AllReadyH.nil))
        · skip
          go_simp
          (go_at_call 48; refine (HTi.out _ _ _ K.o.d (by rw [HPP.out.1]; exact (HQ0.out.below K.o.d).takeE wn)).mono ?_; rintro e w' ⟨rfl, hb'⟩)
          have K' := K.below hb'
          have C0' := keepc hb' C0
          have C1' := keepc hb' C1
          have C2' := keepc hb' C2
          clear K C0 C1 C2 hb'
          have K := K'
          have C0 := C0'
          have C1 := C1'
          have C2 := C2'
          clear K' C0' C1' C2'
          refine hKK.out _ _ ?_ (fun hHeld => ?_)
          · exact ⟨C1, C2⟩
          clear hKK KK
          try simp only [Act.put]
          refine wpAnyH_take (i := 11) (oi := _) (v := ?_) rfl (by kernel_rfl) (by kernel_rfl) (by kernel_rfl) (fun _ _ _ h => h) (Or.inl ⟨by rfl, ?_⟩) (by assumption) ?_
          rotate_left
          · ((intro w hSw; (try dsimp only at hSw); go_simp) <;> (try with_reducible rfl))
          show wpAnyH _ _ _ _ _ _ _ (Act.put _ (some 61) _) _
          simp only [Act.put, List.setIfInBounds_toArray, List.set_cons_succ, List.set_cons_zero]
          refine wpAnyH_take (i := 12) (oi := _) (v := ?_) rfl (by kernel_rfl) (by kernel_rfl) (by kernel_rfl) (fun _ _ _ h => h) (Or.inl ⟨by rfl, ?_⟩) (by assumption) ?_
          rotate_left
          · ((intro w hSw; (try dsimp only at hSw); go_simp) <;> (try with_reducible rfl))
          show wpAnyH _ _ _ _ _ _ _ (Act.put _ (some 73) _) _
          simp only [Act.put, List.setIfInBounds_toArray, List.set_cons_succ, List.set_cons_zero]
          refine wpAnyH_take (i := 13) (oi := _) (v := ?_) rfl (by kernel_rfl) (by kernel_rfl) (by kernel_rfl) (fun _ _ _ h => h) (Or.inl ⟨by rfl, ?_⟩) (by assumption) ?_
          rotate_left
          · ((intro w hSw; (try dsimp only at hSw); go_simp) <;> (try with_reducible rfl))
          show wpAnyH _ _ _ _ _ _ _ (Act.put _ (some 74) _) _
          simp only [Act.put, List.setIfInBounds_toArray, List.set_cons_succ, List.set_cons_zero]
          refine wpAnyH_ready (rs := [14]) (by kernel_rfl) (by simp) ?_
          refine (AllReadyH.cons (o := _) rfl (fun KK hKK => ?_) AllReadyH.nil)
          go_simp
          have hq3 := K.above
          have hqc : qc < w'.heap.size := cell_lt C0
          have E3 : Ew (w'.alloc (Obj.cells #[.int .u64 0, .int .u64 0] 26)) w'.heap.size 0 0 := Ew.roomR w' _
          have hb' : Below w'.heap.size w' (w'.alloc (Obj.cells #[.int .u64 0, .int .u64 0] 26)) := (Below.refl _ _).alloc (Nat.le_refl _) _
          have K' := K.below hb'
          have C0' := keepc hb' C0
          have C1' := keepc hb' C1
          have C2' := keepc hb' C2
          clear K C0 C1 C2 hb'
          have K := K'
          have C0 := C0'
          have C1 := C1'
          have C2 := C2'
          clear K' C0' C1' C2'
          generalize w'.alloc (Obj.cells #[.int .u64 0, .int .u64 0] 26) = v3 at *
          generalize w'.heap.size = q3 at *
          refine hKK.out _ _ ?_ (fun hHeld => ?_)
          · exact ⟨C1, C2⟩
          clear hKK KK
          try simp only [Act.put]
          refine wpAnyH_ready (rs := [15]) (by kernel_rfl) (by simp) ?_
          refine (AllReadyH.cons (o := _) rfl (fun KK hKK => ?_) AllReadyH.nil)
          have r1 := E3.hi
          have r0 := E3.lo
          have f1 := E3.fhi
          have f0 := E3.flo
          go_simp
          have K' := K.offB (b' := q3) HQ.out.1 hq3.1 hq3.2 (.int .u64 (sg.1 : Int)) (.int .u64 (sg.2 : Int))
          have E3' := E3.set sg.1 sg.2
          have C0' := set_far hqc (.int .u64 (sg.1 : Int)) (.int .u64 (sg.2 : Int)) C0
          have C1' := set_far hqc (.int .u64 (sg.1 : Int)) (.int .u64 (sg.2 : Int)) C1
          have C2' := set_far hqc (.int .u64 (sg.1 : Int)) (.int .u64 (sg.2 : Int)) C2
          clear K E3 C0 C1 C2 r1 r0 f1 f0
          have K := K'
          have E3 := E3'
          have C0 := C0'
          have C1 := C1'
          have C2 := C2'
          clear K' E3' C0' C1' C2'
          refine hKK.out _ _ ?_ (fun hHeld => ?_)
          · exact ⟨C1, C2⟩
          clear hKK KK
          try simp only [Act.put]
          refine wpAnyH_done (by kernel_rfl) ?_ _
          refine peel_last rfl (fun KK hKK => ?_)
          clear hHeld
          go_simp
          refine hKK _ _ ?_
          refine NoPanic.normal ?_
          go_wp2_with fail
          go_meet
          exact ⟨q3, rfl, rfl, ⟨E3.toEl, K, C0⟩⟩
        · skip
          go_simp
          have hq3 := K.above
          have hqc : qc < wd.heap.size := cell_lt C0
          have E3 : Ew (wd.alloc (Obj.cells #[.int .u64 0, .int .u64 0] 26)) wd.heap.size 0 0 := Ew.roomR wd _
          have hb' : Below wd.heap.size wd (wd.alloc (Obj.cells #[.int .u64 0, .int .u64 0] 26)) := (Below.refl _ _).alloc (Nat.le_refl _) _
          have K' := K.below hb'
          have C0' := keepc hb' C0
          have C1' := keepc hb' C1
          have C2' := keepc hb' C2
          clear K C0 C1 C2 hb'
          have K := K'
          have C0 := C0'
          have C1 := C1'
          have C2 := C2'
          clear K' C0' C1' C2'
          generalize wd.alloc (Obj.cells #[.int .u64 0, .int .u64 0] 26) = v3 at *
          generalize wd.heap.size = q3 at *
          refine hKK.out _ _ ?_ (fun hHeld => ?_)
          · exact ⟨C1, C2⟩
          clear hKK KK
          try simp only [Act.put]
          refine wpAnyH_ready (rs := [10]) (by kernel_rfl) (by simp) ?_
          refine (AllReadyH.cons (o := _) rfl (fun KK hKK => ?_) AllReadyH.nil)
          go_simp
          (go_at_call 48; refine (HTi.out _ _ _ K.o.d (by rw [HPP.out.1]; exact (HQ0.out.below K.o.d).takeE wn)).mono ?_; rintro e w' ⟨rfl, hb'⟩)
          have K' := K.below hb'
          have C0' := keepc hb' C0
          have C1' := keepc hb' C1
          have C2' := keepc hb' C2
          have E3' := E3.below hb'
          clear K C0 C1 C2 E3 hb'
          have K := K'
          have C0 := C0'
          have C1 := C1'
          have C2 := C2'
          have E3 := E3'
          clear K' C0' C1' C2' E3'
          refine hKK.out _ _ ?_ (fun hHeld => ?_)
          · exact ⟨C1, C2⟩
          clear hKK KK
          try simp only [Act.put]
          refine wpAnyH_take (i := 11) (oi := _) (v := ?_) rfl (by kernel_rfl) (by kernel_rfl) (by kernel_rfl) (fun _ _ _ h => h) (Or.inl ⟨by rfl, ?_⟩) (by assumption) ?_
          rotate_left
          · ((intro w hSw; (try dsimp only at hSw); go_simp) <;> (try with_reducible rfl))
          show wpAnyH _ _ _ _ _ _ _ (Act.put _ (some 61) _) _
          simp only [Act.put, List.setIfInBounds_toArray, List.set_cons_succ, List.set_cons_zero]
          refine wpAnyH_take (i := 12) (oi := _) (v := ?_) rfl (by kernel_rfl) (by kernel_rfl) (by kernel_rfl) (fun _ _ _ h => h) (Or.inl ⟨by rfl, ?_⟩) (by assumption) ?_
          rotate_left
          · ((intro w hSw; (try dsimp only at hSw); go_simp) <;> (try with_reducible rfl))
          show wpAnyH _ _ _ _ _ _ _ (Act.put _ (some 73) _) _
          simp only [Act.put, List.setIfInBounds_toArray, List.set_cons_succ, List.set_cons_zero]
          refine wpAnyH_take (i := 13) (oi := _) (v := ?_) rfl (by kernel_rfl) (by kernel_rfl) (by kernel_rfl) (fun _ _ _ h => h) (Or.inl ⟨by rfl, ?_⟩) (by assumption) ?_
          rotate_left
          · ((intro w hSw; (try dsimp only at hSw); go_simp) <;> (try with_reducible rfl))
          show wpAnyH _ _ _ _ _ _ _ (Act.put _ (some 74) _) _
          simp only [Act.put, List.setIfInBounds_toArray, List.set_cons_succ, List.set_cons_zero]
          refine wpAnyH_ready (rs := [15]) (by kernel_rfl) (by simp) ?_
          refine (AllReadyH.cons (o := _) rfl (fun KK hKK => ?_) AllReadyH.nil)
          have r1 := E3.hi
          have r0 := E3.lo
          have f1 := E3.fhi
          have f0 := E3.flo
          go_simp
          have K' := K.offB (b' := q3) HQ.out.1 hq3.1 hq3.2 (.int .u64 (sg.1 : Int)) (.int .u64 (sg.2 : Int))
          have E3' := E3.set sg.1 sg.2
          have C0' := set_far hqc (.int .u64 (sg.1 : Int)) (.int .u64 (sg.2 : Int)) C0
          have C1' := set_far hqc (.int .u64 (sg.1 : Int)) (.int .u64 (sg.2 : Int)) C1
          have C2' := set_far hqc (.int .u64 (sg.1 : Int)) (.int .u64 (sg.2 : Int)) C2
          clear K E3 C0 C1 C2 r1 r0 f1 f0
          have K := K'
          have E3 := E3'
          have C0 := C0'
          have C1 := C1'
          have C2 := C2'
          clear K' E3' C0' C1' C2'
          refine hKK.out _ _ ?_ (fun hHeld => ?_)
          · exact ⟨C1, C2⟩
          clear hKK KK
          try simp only [Act.put]
          refine wpAnyH_done (by kernel_rfl) ?_ _
          refine peel_last rfl (fun KK hKK => ?_)
          clear hHeld
          go_simp
          refine hKK _ _ ?_
          refine NoPanic.normal ?_
          go_wp2_with fail
          go_meet
          exact ⟨q3, rfl, rfl, ⟨E3.toEl, K, C0⟩⟩
      case rest =>
        obtain ⟨q23, rfl, rfl, KR⟩ := hcut
        clear K C0 C1 C2 HTi
        obtain ⟨s1, s0⟩ := KR.out.1
        go_upto_region 16 with fail
        have E2 := KR.out.1
        have K := KR.out.2.1
        have C0 := KR.out.2.2
        obtain ⟨b9, o9, e9, hb9, G1, G0⟩ := K.w.cells kn (by rw [Rg.wts_len]; omega)
        injection e9 with e9
        injection e9 with e9a e9b
        subst e9a e9b
        rw [Nat.zero_add, HWk.out] at G1 G0
        clear KR s1 s0 hb9
        obtain ⟨wx, rfl⟩ : ∃ w, w = wc := ⟨_, rfl⟩
        go_cut [25] (fun p25 wx => ∃ q25 : Nat, p25 = .pointer (some ⟨q25, 0, none⟩) ∧ Hid (El wx q25 sh.1 sh.2 ∧ Tb W wx g P ph qt q ql qb m b t n0 ∧ q < q25))
        case first =>
          refine wp_region_noPanic ?_
          refine wp_region_peel (S := fun w => w.cell? ⟨qc, 0, none⟩ = some (.int .i64 (kn : Int)) ∧ (w.cell? ⟨g, kn * 2, none⟩ = some (.int .u64 (wk.1 : Int)) ∧ w.cell? ⟨g, kn * 2 + 1, none⟩ = some (.int .u64 (wk.2 : Int))) ∧ w.cell? ⟨q23, 0, none⟩ = some (.int .u64 (sg.1 : Int)) ∧ w.cell? ⟨q23, 1, none⟩ = some (.int .u64 (sg.2 : Int))) 9 (by kernel_rfl) rfl (by kernel_rfl) ?_ (fun hHeld => ?_)
          · exact ⟨C0, ⟨G1, G0⟩, E2.hi, E2.lo⟩
          refine wpAnyH_take (i := 0) (oi := _) (v := ?_) rfl (by kernel_rfl) (by kernel_rfl) (by kernel_rfl) (fun _ _ _ h => h) (Or.inl ⟨by rfl, ?_⟩) (by assumption) ?_
          rotate_left
          · ((intro w hSw; (try dsimp only at hSw); go_simp) <;> (try with_reducible rfl))
          show wpAnyH _ _ _ _ _ _ _ (Act.put _ (some 79) _) _
          simp only [Act.put, List.setIfInBounds_toArray, List.set_cons_succ, List.set_cons_zero]
          refine wpAnyH_take (i := 1) (oi := _) (v := ?_) rfl (by kernel_rfl) (by kernel_rfl) (by kernel_rfl) (fun _ _ _ h => h) (Or.inl ⟨by rfl, ?_⟩) (by assumption) ?_
          rotate_left
          · ((intro w hSw; (try dsimp only at hSw); go_simp) <;> (try with_reducible rfl))
          show wpAnyH _ _ _ _ _ _ _ (Act.put _ (some 80) _) _
          simp only [Act.put, List.setIfInBounds_toArray, List.set_cons_succ, List.set_cons_zero]
          refine wpAnyH_take (i := 2) (oi := _) (v := ?_) rfl (by kernel_rfl) (by kernel_rfl) (by kernel_rfl) (fun _ _ _ h => h) (Or.inl ⟨by rfl, ?_⟩) (by assumption) ?_
          rotate_left
          · ((intro w hSw; (try dsimp only at hSw); go_simp) <;> (try with_reducible rfl))
          show wpAnyH _ _ _ _ _ _ _ (Act.put _ (some 81) _) _
          simp only [Act.put, List.setIfInBounds_toArray, List.set_cons_succ, List.set_cons_zero]
          refine wpAnyH_take (i := 3) (oi := _) (v := ?_) rfl (by kernel_rfl) (by kernel_rfl) (by kernel_rfl) (fun _ _ _ h => h) (Or.inl ⟨by rfl, ?_⟩) (by assumption) ?_
          rotate_left
          · ((intro w hSw; (try dsimp only at hSw); go_simp) <;> (try with_reducible rfl))
          show wpAnyH _ _ _ _ _ _ _ (Act.put _ (some 82) _) _
          simp only [Act.put, List.setIfInBounds_toArray, List.set_cons_succ, List.set_cons_zero]
          refine wpAnyH_take (i := 4) (oi := _) (v := ?_) rfl (by kernel_rfl) (by kernel_rfl) (by kernel_rfl) (fun _ _ _ h => h) (Or.inl ⟨by rfl, ?_⟩) (by assumption) ?_
          rotate_left
          · ((intro w hSw; (try dsimp only at hSw); go_simp) <;> (try with_reducible rfl))
          show wpAnyH _ _ _ _ _ _ _ (Act.put _ (some 83) _) _
          simp only [Act.put, List.setIfInBounds_toArray, List.set_cons_succ, List.set_cons_zero]
          refine wpAnyH_take (i := 5) (oi := _) (v := ?_) rfl (by kernel_rfl) (by kernel_rfl) (by kernel_rfl) (fun _ _ _ h => h) (Or.inl ⟨by rfl, ?_⟩) (by assumption) ?_
          rotate_left
          · ((intro w hSw; (try dsimp only at hSw); go_simp) <;> (try with_reducible rfl))
          show wpAnyH _ _ _ _ _ _ _ (Act.put _ (some 84) _) _
          simp only [Act.put, List.setIfInBounds_toArray, List.set_cons_succ, List.set_cons_zero]
          refine wpAnyH_take (i := 6) (oi := _) (v := ?_) rfl (by kernel_rfl) (by kernel_rfl) (by kernel_rfl) (fun _ _ _ h => h) (Or.inl ⟨by rfl, ?_⟩) (by assumption) ?_
          rotate_left
          · ((intro w hSw; (try dsimp only at hSw); go_simp) <;> (try with_reducible rfl))
          show wpAnyH _ _ _ _ _ _ _ (Act.put _ (some 85) _) _
          simp only [Act.put, List.setIfInBounds_toArray, List.set_cons_succ, List.set_cons_zero]
          have K' := K.drew
          have E2' := E2.drew
          have C0' : wx.drew.cell? ⟨qc, 0, none⟩ = some (.int .i64 (kn : Int)) := C0
          have G1' : wx.drew.cell? ⟨g, kn * 2, none⟩ = some (.int .u64 (wk.1 : Int)) := G1
          have G0' : wx.drew.cell? ⟨g, kn * 2 + 1, none⟩ = some (.int .u64 (wk.2 : Int)) := G0
          clear K E2 C0 G1 G0
          have K := K'
          have E2 := E2'
          have C0 := C0'
          have G1 := G1'
          have G0 := G0'
          clear K' E2' C0' G1' G0'
          generalize wx.drew = wd at *
          refine wpAnyH_ready (rs := [7, 8]) (by kernel_rfl) (by simp) ?_
          refine (AllReadyH.cons (o := _) rfl (fun KK hKK => ?_) (AllReadyH.cons (o := _) rfl (fun KK hKK => ?_) AllReadyH.nil))
          · skip
            go_simp
            (go_at_call 37; refine (M1.out.go _).mono ?_; rintro e w' ⟨rfl, hb'⟩)
            have K' := K.below hb'
            have E2' := E2.below hb'
            have C0' := keepc hb' C0
            have G1' := keepc hb' G1
            have G0' := keepc hb' G0
            clear K E2 C0 G1 G0 hb'
            have K := K'
            have E2 := E2'
            have C0 := C0'
            have G1 := G1'
            have G0 := G0'
            clear K' E2' C0' G1' G0'
            refine hKK.out _ _ ?_ (fun hHeld => ?_)
            · exact ⟨C0, ⟨G1, G0⟩, E2.hi, E2.lo⟩
            clear hKK KK
            try simp only [Act.put]
            refine wpAnyH_ready (rs := [8]) (by kernel_rfl) (by simp) ?_
            refine (AllReadyH.cons (o := _) rfl (fun KK hKK => ?_) AllReadyH.nil)
            go_simp
            have hq3 := K.above
            have E3 : Ew (w'.alloc (Obj.cells #[.int .u64 0, .int .u64 0] 26)) w'.heap.size 0 0 := Ew.roomR w' _
            have hb' : Below w'.heap.size w' (w'.alloc (Obj.cells #[.int .u64 0, .int .u64 0] 26)) := (Below.refl _ _).alloc (Nat.le_refl _) _
            have K' := K.below hb'
            have E2' := E2.below hb'
            have C0' := keepc hb' C0
            have G1' := keepc hb' G1
            have G0' := keepc hb' G0
            clear K E2 C0 G1 G0 hb'
            have K := K'
            have E2 := E2'
            have C0 := C0'
            have G1 := G1'
            have G0 := G0'
            clear K' E2' C0' G1' G0'
            generalize w'.alloc (Obj.cells #[.int .u64 0, .int .u64 0] 26) = v3 at *
            generalize w'.heap.size = q3 at *
            refine hKK.out _ _ ?_ (fun hHeld => ?_)
            · exact ⟨C0, ⟨G1, G0⟩, E2.hi, E2.lo⟩
            clear hKK KK
            try simp only [Act.put]
            refine wpAnyH_done (by kernel_rfl) ?_ _
            refine peel_last rfl (fun KK hKK => ?_)
            clear hHeld
            have r1 := E3.hi
            have r0 := E3.lo
            have f1 := E3.fhi
            have f0 := E3.flo
            go_simp
            refine hKK _ _ ?_
            refine NoPanic.normal ?_
            have K' := K.offB (b' := q3) HQ.out.1 hq3.1 hq3.2 (.int .u64 (sh.1 : Int)) (.int .u64 (sh.2 : Int))
            have E3' := E3.set sh.1 sh.2
            go_wp2_with fail
            go_meet
            exact ⟨q3, rfl, ⟨E3'.toEl, K', hq3.2.2.1⟩⟩
          · skip
            go_simp
            have hq3 := K.above
            have E3 : Ew (wd.alloc (Obj.cells #[.int .u64 0, .int .u64 0] 26)) wd.heap.size 0 0 := Ew.roomR wd _
            have hb' : Below wd.heap.size wd (wd.alloc (Obj.cells #[.int .u64 0, .int .u64 0] 26)) := (Below.refl _ _).alloc (Nat.le_refl _) _
            have K' := K.below hb'
            have E2' := E2.below hb'
            have C0' := keepc hb' C0
            have G1' := keepc hb' G1
            have G0' := keepc hb' G0
            clear K E2 C0 G1 G0 hb'
            have K := K'
            have E2 := E2'
            have C0 := C0'
            have G1 := G1'
            have G0 := G0'
            clear K' E2' C0' G1' G0'
            generalize wd.alloc (Obj.cells #[.int .u64 0, .int .u64 0] 26) = v3 at *
            generalize wd.heap.size = q3 at *
            refine hKK.out _ _ ?_ (fun hHeld => ?_)
            · exact ⟨C0, ⟨G1, G0⟩, E2.hi, E2.lo⟩
            clear hKK KK
            try simp only [Act.put]
            refine wpAnyH_ready (rs := [7]) (by kernel_rfl) (by simp) ?_
            refine (AllReadyH.cons (o := _) rfl (fun KK hKK => ?_) AllReadyH.nil)
            go_simp
            (go_at_call 37; refine (M1.out.go _).mono ?_; rintro e w' ⟨rfl, hb'⟩)
            have K' := K.below hb'
            have E2' := E2.below hb'
            have C0' := keepc hb' C0
            have G1' := keepc hb' G1
            have G0' := keepc hb' G0
            have E3' := E3.below hb'
            clear K E2 C0 G1 G0 E3 hb'
            have K := K'
            have E2 := E2'
            have C0 := C0'
            have G1 := G1'
            have G0 := G0'
            have E3 := E3'
            clear K' E2' C0' G1' G0' E3'
            refine hKK.out _ _ ?_ (fun hHeld => ?_)
            · exact ⟨C0, ⟨G1, G0⟩, E2.hi, E2.lo⟩
            clear hKK KK
            try simp only [Act.put]
            refine wpAnyH_done (by kernel_rfl) ?_ _
            refine peel_last rfl (fun KK hKK => ?_)
            clear hHeld
            have r1 := E3.hi
            have r0 := E3.lo
            have f1 := E3.fhi
            have f0 := E3.flo
            go_simp
            refine hKK _ _ ?_
            refine NoPanic.normal ?_
            have K' := K.offB (b' := q3) HQ.out.1 hq3.1 hq3.2 (.int .u64 (sh.1 : Int)) (.int .u64 (sh.2 : Int))
            have E3' := E3.set sh.1 sh.2
            go_wp2_with fail
            go_meet
            exact ⟨q3, rfl, ⟨E3'.toEl, K', hq3.2.2.1⟩⟩
        case rest =>
          obtain ⟨q25, rfl, KR⟩ := hcut
          clear K E2 C0 G1 G0 M1
          have VX := KR.out.1
          have K := KR.out.2.1
          have hq25 := KR.out.2.2
          clear KR
          go_upto_region 17 with fail
          obtain ⟨wy, rfl⟩ : ∃ w, w = wc := ⟨_, rfl⟩
          refine wp_region_noPanic ?_
          refine wp_region_peel (S := fun w => (w.cell? ⟨qt, 0, none⟩ = some (.int .u64 (t.1 : Int)) ∧ w.cell? ⟨qt, 1, none⟩ = some (.int .u64 (t.2 : Int))) ∧ w.cell? ⟨q25, 0, none⟩ = some (.int .u64 (sh.1 : Int)) ∧ w.cell? ⟨q25, 1, none⟩ = some (.int .u64 (sh.2 : Int))) 7 (by kernel_rfl) rfl (by kernel_rfl) ?_ (fun hHeld => ?_)
          · exact ⟨⟨K.o.t.hi, K.o.t.lo⟩, VX.hi, VX.lo⟩
          refine wpAnyH_take (i := 0) (oi := _) (v := ?_) rfl (by kernel_rfl) (by kernel_rfl) (by kernel_rfl) (fun _ _ _ h => h) (Or.inl ⟨by rfl, ?_⟩) (by assumption) ?_
          rotate_left
          · ((intro w hSw; (try dsimp only at hSw); go_simp) <;> (try with_reducible rfl))
          show wpAnyH _ _ _ _ _ _ _ (Act.put _ (some 87) _) _
          simp only [Act.put, List.setIfInBounds_toArray, List.set_cons_succ, List.set_cons_zero]
          refine wpAnyH_take (i := 1) (oi := _) (v := ?_) rfl (by kernel_rfl) (by kernel_rfl) (by kernel_rfl) (fun _ _ _ h => h) (Or.inl ⟨by rfl, ?_⟩) (by assumption) ?_
          rotate_left
          · ((intro w hSw; (try dsimp only at hSw); go_simp) <;> (try with_reducible rfl))
          show wpAnyH _ _ _ _ _ _ _ (Act.put _ (some 88) _) _
          simp only [Act.put, List.setIfInBounds_toArray, List.set_cons_succ, List.set_cons_zero]
          refine wpAnyH_take (i := 2) (oi := _) (v := ?_) rfl (by kernel_rfl) (by kernel_rfl) (by kernel_rfl) (fun _ _ _ h => h) (Or.inl ⟨by rfl, ?_⟩) (by assumption) ?_
          rotate_left
          · ((intro w hSw; (try dsimp only at hSw); go_simp) <;> (try with_reducible rfl))
          show wpAnyH _ _ _ _ _ _ _ (Act.put _ (some 89) _) _
          simp only [Act.put, List.setIfInBounds_toArray, List.set_cons_succ, List.set_cons_zero]
          refine wpAnyH_take (i := 4) (oi := _) (v := ?_) rfl (by kernel_rfl) (by kernel_rfl) (by kernel_rfl) (fun _ _ _ h => h) (Or.inl ⟨by rfl, ?_⟩) (by assumption) ?_
          rotate_left
          · ((intro w hSw; (try dsimp only at hSw); go_simp) <;> (try with_reducible rfl))
          show wpAnyH _ _ _ _ _ _ _ (Act.put _ (some 91) _) _
          simp only [Act.put, List.setIfInBounds_toArray, List.set_cons_succ, List.set_cons_zero]
          have K' := K.drew
          have VX' := VX.drew
          clear K VX
          have K := K'
          have VX := VX'
          clear K' VX'
          generalize wy.drew = wd at *
          refine wpAnyH_ready (rs := [3]) (by kernel_rfl) (by simp) ?_
          refine (AllReadyH.cons (o := _) rfl (fun KK hKK => ?_) AllReadyH.nil)
          go_simp
          (go_at_call 60; refine (HPI.out _ K.o.p).mono ?_; rintro e w' ⟨rfl, hb'⟩)
          have K' := K.pow (Nat.ne_of_lt (Nat.lt_trans HQ.out.1 HQ.out.2.1)) n' hb'
          have VX' : El w' q25 sh.1 sh.2 := (VX.keepR (b := q) (fun h => absurd h (by omega)) 0 1 (.int .u64 (n'.1 : Int)) (.int .u64 (n'.2 : Int))).below (by simpa [World.setCell] using hb')
          clear K VX hb'
          have K := K'
          have VX := VX'
          clear K' VX'
          refine hKK.out _ _ ?_ (fun hHeld => ?_)
          · exact ⟨⟨K.o.t.hi, K.o.t.lo⟩, VX.hi, VX.lo⟩
          clear hKK KK
          try simp only [Act.put]
          refine wpAnyH_ready (rs := [5]) (by kernel_rfl) (by simp) ?_
          refine (AllReadyH.cons (o := _) rfl (fun KK hKK => ?_) AllReadyH.nil)
          go_simp
          (go_at_call 37; refine (M2.out.go _).mono ?_; rintro e w' ⟨rfl, hb'⟩)
          have K' := K.below hb'
          have VX' := VX.below hb'
          clear K VX hb'
          have K := K'
          have VX := VX'
          clear K' VX'
          refine hKK.out _ _ ?_ (fun hHeld => ?_)
          · exact ⟨⟨K.o.t.hi, K.o.t.lo⟩, VX.hi, VX.lo⟩
          clear hKK KK
          try simp only [Act.put]
          refine wpAnyH_ready (rs := [6]) (by kernel_rfl) (by simp) ?_
          refine (AllReadyH.cons (o := _) rfl (fun KK hKK => ?_) AllReadyH.nil)
          go_simp
          (go_at_call 36; refine (AD.out.go _).mono ?_; rintro e w' ⟨rfl, hb'⟩)
          have K' := K.below hb'
          have VX' := VX.below hb'
          clear K VX hb'
          have K := K'
          have VX := VX'
          clear K' VX'
          refine hKK.out _ _ ?_ (fun hHeld => ?_)
          · exact ⟨⟨K.o.t.hi, K.o.t.lo⟩, VX.hi, VX.lo⟩
          clear hKK KK
          try simp only [Act.put]
          refine wpAnyH_done (by kernel_rfl) ?_ _
          refine peel_last rfl (fun KK hKK => ?_)
          clear hHeld
          obtain ⟨r1, r0⟩ := K.o.t.toEl
          have f1 := K.o.t.fhi
          have f0 := K.o.t.flo
          go_simp
          refine hKK _ _ ?_
          refine NoPanic.normal ?_
          clear hKK KK
          have K2 : Hid (Tb W ((w'.setCell ⟨qt, 0, none⟩ (.int .u64 (t'.1 : Int))).setCell ⟨qt, 1, none⟩ (.int .u64 (t'.2 : Int))) g P ph qt q ql qb m b t' n') := K.put (Nat.ne_of_lt HQ.out.1) HQ.out.2.2.1 HQ.out.2.2.2 t'
          clear K r1 r0 f1 f0 VX
          go_wp2
          refine ⟨⟨i + 1, hlt, by simp, ?_⟩, by simp [intOf]; omega⟩
          rw [← HT'.out.1, ← HT'.out.2]
          exact K2
    · obtain rfl : i = L := by omega
      obtain ⟨⟨r1, r0⟩, f1, f0⟩ := HK.out.o.r
      obtain ⟨t1, t0⟩ := HK.out.o.t.toEl
      obtain ⟨t, ht⟩ : ∃ t, t = ceS b z pl ph cl i := ⟨_, rfl⟩
      rw [← ht] at t1 t0
      have HTT : Hid (t = ceS b z pl ph cl i) := ht
      clear HPW HTA HCL HSG HAS ht
      go_wp2
      refine bodyPost_ret (v := .tuple #[.agg #[.int .u64 (t.1 : Int), .int .u64 (t.2 : Int)], .int .i64 0]) (by simp [results, Try.results18, go_sem, *]) rfl ⟨by rw [HTT.out], below2 (p := W.heap.size + 1) HK.out.o.d (by omega) _ _⟩
end Go.Proofs.Ytejoombhcnldmaa

/- The contract of claim.At over the seat's translation: one column of one element. -/
namespace Go.Proofs.Ytejoombhcnldmaa
open Go.RowKit
open Cb
open Tw (pm)

set_option maxHeartbeats 40000000 in
set_option maxRecDepth 100000 in
theorem cmat_z (m cn wn n P L : Nat) (a a2 : Option Addr) (x3 : Addr) (cap cap2 cap3 : Nat) (cl : List Stp) (z qs : List (Nat × Nat)) (b : Nat × Nat) (hn : n = 2 ^ wn) (hP : P = 2 ^ cn) (hL : cl.length = L) (lz : ltE z) (lq : ltE qs) (lb : lt2 b) (hql : qs.length = wn + cn) (oq : ofT m qs) (hcap : wn + cn ≤ cap3) (hE : chE (m : Int) (cn : Int) (wn : Int) cl z b = 0) (hcw : ¬ cap3 = wn) (hw0 : wn = 0) (hc0 : cn = 0) (W : World) (hr : ORow W a cl) (hz : ERow W a2 z) (hq : ERow W (some x3) qs) :
    Calls Try.prog 18 #[.int .i64 (m : Int), .int .i64 (cn : Int), .int .i64 (wn : Int), .slice a L cap, .slice a2 wn cap2, .agg #[.int .u64 (b.1 : Int), .int .u64 (b.2 : Int)], .slice (some x3) (wn + cn) cap3] W fun e w' => e = .returned (.tuple #[.agg #[.int .u64 ((ceS b z (qs.take wn) (qs.drop wn) cl L).1 : Int), .int .u64 ((ceS b z (qs.take wn) (qs.drop wn) cl L).2 : Int)], .int .i64 0]) ∧ Below W.heap.size W w' := by
  obtain ⟨m', cn', wn', hm, e1, hcn, e2, hwn, e3, h200, hcl, hzl, oz, ob⟩ := ch_zero hE
  obtain rfl : m = m' := by omega
  obtain rfl : cn = cn' := by omega
  obtain rfl : wn = wn' := by omega
  have hpw : pw (wn : Int) = (n : Int) := by rw [hn]; rfl
  have hn1 : n ≤ 64 := by rw [hn]; exact Nat.le_trans (Nat.pow_le_pow_right (by decide) hwn) (by decide)
  have hP1 : P ≤ 64 := by rw [hP]; exact Nat.le_trans (Nat.pow_le_pow_right (by decide) hcn) (by decide)
  obtain ⟨pl, hpl⟩ : ∃ pl, pl = qs.take wn := ⟨_, rfl⟩
  obtain ⟨ph, hph⟩ : ∃ ph, ph = qs.drop wn := ⟨_, rfl⟩
  rw [← hpl, ← hph]
  have ll : pl.length = wn := by rw [hpl, List.length_take]; omega
  have lh : ph.length = cn := by rw [hph, List.length_drop]; omega
  have lpl : ltE pl := fun e he => lq e (List.mem_of_mem_take (hpl ▸ he))
  have lph : ltE ph := fun e he => lq e (List.mem_of_mem_drop (hph ▸ he))
  have opl : ofT m pl := fun e he => oq e (List.mem_of_mem_take (hpl ▸ he))
  have oph : ofT m ph := fun e he => oq e (List.mem_of_mem_drop (hph ▸ he))
  obtain ⟨S, hS⟩ : ∃ S, S = wn + cn := ⟨_, rfl⟩
  rw [← hS] at hql hcap ⊢
  have HC0 : Hid (cn = 0) := hc0
  have HW0 : Hid (wn = 0) := hw0
  clear hc0 hw0
  have HH := hidC (fun (v : World) (hb : Below W.heap.size W v) => cmhind (m : Int) (cn : Int) (wn : Int) a a2 cap cap2 cl z b (by omega) (by omega) lz lb v (hr.below hb) (hz.below hb))
  rw [hE, hL, hzl] at HH
  have hfit : cfE (m : Int) (S : Int) qs = 0 := by
    unfold cfE
    rw [if_pos (by rw [hql]), if_pos (List.all_eq_true.2 fun e he => oq e he)]
  have HF := hidC (fun (v : World) (hb : Below W.heap.size W v) => cmfit (m : Int) (S : Int) (some x3) cap3 qs lq (by omega) v (hq.below hb))
  rw [hfit, hql] at HF
  have e9 : IntKind.i64.wrap ((wn : Int) + (cn : Int)) = (S : Int) := by rw [IntKind.wrap_i64]; omega
  have HWt := hidC (fun (v : World) (aa : Option Addr) (cc : Nat) (h : ERow v aa ph) => cwts m hm aa cc cn P ph lph lh (by omega) hP.symm oph v h)
  have HPS := hidC (fun v => cmpows m b v)
  have HPW := hidC (fun (i q ql qb : Nat) (v : World) (h : Pws v q ql qb m b (bpow b i)) => cmpow m q ql qb b (bpow b i) lb (lt_bpow b i) ob (of_bpow hm ob i) v h)
  have HTA : Hid (∀ (i : Nat) (v : World) (aa : Option Addr) (cc : Nat), i < L → Below W.heap.size W v → ERow v aa pl → Calls Try.prog 48 #[.int .i64 (m : Int), .int .i64 (cl.getD i zst).a, .int .i64 (wn : Int), .int .i64 (cl.getD i zst).b, .slice a2 wn cap2, .slice aa wn cc] v fun e w' => e = .returned (.tuple #[.agg #[.int .u64 ((sgn2 (cl.getD i zst).a z pl (cl.getD i zst).b.toNat).1 : Int), .int .u64 ((sgn2 (cl.getD i zst).a z pl (cl.getD i zst).b.toNat).2 : Int)], .int .i64 0]) ∧ Below v.heap.size v w') := by
    intro i v aa cc hi hb h
    obtain ⟨_, ft⟩ := hcl i (by omega)
    have fs := (ftB_true ft).2.1
    have t := tat_ok m hm (cl.getD i zst).a wn (cl.getD i zst).b.toNat n hwn hpw (by rw [Int.toNat_of_nonneg fs.1]; exact ft) a2 aa cap2 cc z pl lz lpl hzl ll oz opl v (hz.below hb) h
    rw [Int.toNat_of_nonneg fs.1] at t
    exact t
  have HCL : Hid ((∀ i, i < L → 0 ≤ (cl.getD i zst).k ∧ (cl.getD i zst).k < (P : Int)) ∧ ORow W a cl ∧ cl.length = L ∧ m < 8 ∧ ofE m b ∧ lt2 b) := ⟨fun i hi => by have h := (hcl i (by omega)).1; rw [← hP] at h; exact h, hr, hL, hm, ob, lb⟩
  have HSG : Hid (∀ i, lt2 (sgn2 (cl.getD i zst).a z pl (cl.getD i zst).b.toNat) ∧ ofE m (sgn2 (cl.getD i zst).a z pl (cl.getD i zst).b.toNat) ∧ ∀ k, ofE m (wt ph k)) := fun i => ⟨lt_sgn2 _ _ _ _, of_sgn2 hm _ oz opl _, fun k => Rg.of_wt hm oph k⟩
  have HAS : Hid (∀ i, ceS b z pl ph cl (i + 1) = xa (ceS b z pl ph cl i) (pm (bpow b i) (pm (wt ph (cl.getD i zst).k.toNat) (sgn2 (cl.getD i zst).a z pl (cl.getD i zst).b.toNat)))) := fun i => rfl
  have hL1 : L ≤ 200 := by omega
  have HQ0 : Hid (ERow W (some x3) qs) := hq
  have HPP : Hid (pl = qs.take wn ∧ ph = qs.drop wn ∧ qs.length = S ∧ S = wn + cn) := ⟨hpl, hph, hql, hS⟩
  have hcS : wn ≤ S := by omega
  have hwc : wn ≤ cap3 := by omega
  have hcS2 : S - wn = cn := by omega
  clear hE lz lq lb hql oq hr hz hq hcl hzl oz ob h200 hpw lpl lph opl oph ll lh hpl hph hn hP hfit hL hm e1 e2 e3 hS
  go_enter Try.func18, Try.ntmps18
  have KB0 : Hid (El ((W.alloc (Obj.cells #[.int .u64 (b.1 : Int), .int .u64 (b.2 : Int)] 26)).alloc (Obj.cells #[.int .u64 0, .int .u64 0] 26)) W.heap.size b.1 b.2 ∧ Ew ((W.alloc (Obj.cells #[.int .u64 (b.1 : Int), .int .u64 (b.2 : Int)] 26)).alloc (Obj.cells #[.int .u64 0, .int .u64 0] 26)) (W.heap.size + 1) 0 0 ∧ Below W.heap.size W ((W.alloc (Obj.cells #[.int .u64 (b.1 : Int), .int .u64 (b.2 : Int)] 26)).alloc (Obj.cells #[.int .u64 0, .int .u64 0] 26))) := ⟨⟨by simp [go_sem], by simp [go_sem]⟩, by have h := Ew.roomR (W.alloc (Obj.cells #[.int .u64 (b.1 : Int), .int .u64 (b.2 : Int)] 26)) 26; simpa using h, ((Below.refl W.heap.size W).alloc (Nat.le_refl _) _).alloc (by simp) _⟩
  go_wp2_with (first
    | (go_at_call 42; refine (HH.out _ KB0.out.2.2).mono ?_; rintro e w1 ⟨rfl, hb1⟩; have K1 : Hid (El w1 W.heap.size b.1 b.2 ∧ Ew w1 (W.heap.size + 1) 0 0 ∧ Below W.heap.size W w1) := ⟨KB0.out.1.below hb1, KB0.out.2.1.below hb1, KB0.out.2.2.trans (hb1.mono KB0.out.2.2.size)⟩; clear hb1 KB0 HH)
    | (go_at_call 46; refine (HF.out _ K1.out.2.2).mono ?_; rintro e w2 ⟨rfl, hb2⟩; have K2 : Hid (El w2 W.heap.size b.1 b.2 ∧ Ew w2 (W.heap.size + 1) 0 0 ∧ Below W.heap.size W w2) := ⟨K1.out.1.below hb2, K1.out.2.1.below hb2, K1.out.2.2.trans (hb2.mono K1.out.2.2.size)⟩; clear hb2 K1 HF)
    | (go_at_call 47; refine (HWt.out _ _ _ (ERow.noneE (by rw [HPP.out.2.1, List.length_drop]; have := HPP.out.2.2.1; have := HPP.out.2.2.2; have := HC0.out; omega))).mono ?_; rintro e w3 ⟨g, cp, rfl, G3, hb3⟩; have K3 : Hid ((El (w3.alloc (Obj.cells #[.int .u64 0, .int .u64 0] 26)) W.heap.size b.1 b.2 ∧ Ew (w3.alloc (Obj.cells #[.int .u64 0, .int .u64 0] 26)) (W.heap.size + 1) 0 0 ∧ Below W.heap.size W (w3.alloc (Obj.cells #[.int .u64 0, .int .u64 0] 26))) ∧ ERow (w3.alloc (Obj.cells #[.int .u64 0, .int .u64 0] 26)) (some ⟨g, 0, none⟩) (Rg.wts ph P) ∧ Ew (w3.alloc (Obj.cells #[.int .u64 0, .int .u64 0] 26)) w3.heap.size 0 0 ∧ g < w3.heap.size ∧ W.heap.size + 1 < w3.heap.size) := ⟨⟨(K2.out.1.below hb3).alloc _, (K2.out.2.1.below hb3).alloc _, (K2.out.2.2.trans (hb3.mono K2.out.2.2.size)).alloc (K2.out.2.2.trans (hb3.mono K2.out.2.2.size)).size _⟩, (own_wts G3).below ((Below.refl _ _).alloc (Nat.le_refl _) _), Ew.roomR w3 _, (G3.lt g rfl).2, (K2.out.2.1.below hb3).toEl.lt⟩; clear hb3 K2 HWt G3; obtain ⟨b1, b0⟩ := K3.out.1.1)
    | (go_at_call 35; refine (HPS.out _).mono ?_; rintro e w4 ⟨q, ql, qb, rfl, PW, hqs, hb4⟩; have K4 : Hid (Tb W w4 g P ph w3.heap.size q ql qb m b (0, 0) (0, 1) ∧ (g < w3.heap.size ∧ w3.heap.size < q ∧ w3.heap.size < ql ∧ w3.heap.size < qb)) := ⟨⟨⟨K3.out.1.2.1.below hb4, K3.out.2.2.1.below hb4, PW, K3.out.1.2.2.trans (hb4.mono K3.out.1.2.2.size), K3.out.2.2.2.2, by have h := hqs.1; simp at h; omega⟩, K3.out.2.1.below hb4⟩, K3.out.2.2.2.1, by have h := hqs.1; simp at h; omega, by have h := hqs.2.1; simp at h; omega, by have h := hqs.2.2; simp at h; omega⟩; clear hb4 PW K3 HPS hqs b1 b0))
  unfold fPow
  have HQ := hidC K4.out.2
  have K5 : Hid (Tb W w4 g P ph w3.heap.size q ql qb m b (ceS b z pl ph cl 0) (bpow b 0)) := K4.out.1
  clear K4
  generalize w3.heap.size = qt at *
  go_loopw [57] (fun u wr => ∃ i : Nat, i ≤ L ∧ u = .int .i64 i ∧ Hid (Tb W wr g P ph qt q ql qb m b (ceS b z pl ph cl i) (bpow b i))) (fun u _ => L - (intOf u).toNat)
  case atStart => exact ⟨0, Nat.zero_le _, rfl, K5⟩
  case round =>
    obtain ⟨i, hi, rfl, HK⟩ := hrel
    clear K5
    by_cases hlt : i < L
    · have i1 : (i : Int) < (L : Int) := by omega
      have i0' : (0 : Int) ≤ (i : Int) := by omega
      obtain ⟨bb, off, rfl, hbb, d0, d1, d2, d3, d4⟩ := HCL.out.2.1.cells i (by rw [HCL.out.2.2.1]; exact hlt)
      have D0 := keepc HK.out.o.d d0
      have D1 := keepc HK.out.o.d d1
      have D2 := keepc HK.out.o.d d2
      have D3 := keepc HK.out.o.d d3
      have D4 := keepc HK.out.o.d d4
      have hkk := HCL.out.1 i hlt
      have hsg := HSG.out i
      have hpl := lt_bpow b i
      have hpo := of_bpow HCL.out.2.2.2.1 HCL.out.2.2.2.2.1 i
      have htl := lt_ceS b z pl ph cl i
      have HN := HAS.out i
      have HB : bpow b (i + 1) = pm (bpow b i) b := rfl
      have HPI := hidC (HPW.out i q ql qb)
      have HTi := hidC (fun (v : World) (aa : Option Addr) (cc : Nat) => HTA.out i v aa cc hlt)
      clear d0 d1 d2 d3 d4 hbb
      generalize sgn2 (cl.getD i zst).a z pl (cl.getD i zst).b.toNat = sg at *
      generalize cl.getD i zst = o at *
      obtain ⟨k, ki, s, v⟩ := o
      dsimp only at *
      obtain ⟨kn, rfl⟩ : ∃ kn : Nat, k = (kn : Int) := ⟨k.toNat, by omega⟩
      rw [Int.toNat_natCast] at HN
      have k1 : (kn : Int) < (P : Int) := hkk.2
      have k0 : (0 : Int) ≤ (kn : Int) := by omega
      have hwl := lt_wt ph kn
      have M1 : Hid (Ret 37 #[.int .i64 (m : Int), .agg #[.int .u64 ((wt ph kn).1 : Int), .int .u64 ((wt ph kn).2 : Int)], .agg #[.int .u64 (sg.1 : Int), .int .u64 (sg.2 : Int)]] (.agg #[.int .u64 ((pm (wt ph kn) sg).1 : Int), .int .u64 ((pm (wt ph kn) sg).2 : Int)])) := by
        have := mul_any (m : Int) (wt ph kn) sg hwl.1 hwl.2 hsg.1.1 hsg.1.2
        rw [mulv_of (hsg.2.2 kn) hsg.2.1] at this
        exact this
      have hso : ofE m (pm (wt ph kn) sg) := of_pm HCL.out.2.2.2.1 (hsg.2.2 kn) hsg.2.1
      have hsl := lt_pm (wt ph kn) sg
      have HWk : Hid ((Rg.wts ph P).getD kn (0, 0) = wt ph kn) := Rg.wts_at ph P (by omega)
      generalize wt ph kn = wk at *
      generalize pm wk sg = sh at *
      have M2 : Hid (Ret 37 #[.int .i64 (m : Int), .agg #[.int .u64 ((bpow b i).1 : Int), .int .u64 ((bpow b i).2 : Int)], .agg #[.int .u64 (sh.1 : Int), .int .u64 (sh.2 : Int)]] (.agg #[.int .u64 ((pm (bpow b i) sh).1 : Int), .int .u64 ((pm (bpow b i) sh).2 : Int)])) := by
        have := mul_any (m : Int) (bpow b i) sh hpl.1 hpl.2 hsl.1 hsl.2
        rw [mulv_of hpo hso] at this
        exact this
      have AD : Hid (Ret 36 #[.agg #[.int .u64 ((ceS b z pl ph cl i).1 : Int), .int .u64 ((ceS b z pl ph cl i).2 : Int)], .agg #[.int .u64 ((pm (bpow b i) sh).1 : Int), .int .u64 ((pm (bpow b i) sh).2 : Int)]] (.agg #[.int .u64 ((xa (ceS b z pl ph cl i) (pm (bpow b i) sh)).1 : Int), .int .u64 ((xa (ceS b z pl ph cl i) (pm (bpow b i) sh)).2 : Int)])) := fun w => add_any _ _ _ _ htl.1 htl.2 (lt_pm _ _).1 (lt_pm _ _).2 w
      rw [← HN] at AD
      rw [← HB] at HPI
      obtain ⟨t', ht'⟩ : ∃ t', t' = ceS b z pl ph cl (i + 1) := ⟨_, rfl⟩
      obtain ⟨n', hn'⟩ : ∃ n', n' = bpow b (i + 1) := ⟨_, rfl⟩
      rw [← ht'] at AD
      rw [← hn'] at HPI
      have HT' : Hid (t' = ceS b z pl ph cl (i + 1) ∧ n' = bpow b (i + 1)) := ⟨ht', hn'⟩
      clear ht' hn' HN HB htl hpl hpo hsl hso hsg hkk hwl
      generalize ceS b z pl ph cl i = t at *
      generalize bpow b i = n0 at *
      generalize pm n0 sh = y at *
      go_upto_region 13 with fail
      have K : Tb W (wr.alloc (Obj.cells #[.int .i64 (kn : Int), .int .i64 ki, .int .i64 s, .int .u64 (v.1 : Int), .int .u64 (v.2 : Int)] 60)) g P ph qt q ql qb m b t n0 := HK.out.alloc _
      have C0 : (wr.alloc (Obj.cells #[.int .i64 (kn : Int), .int .i64 ki, .int .i64 s, .int .u64 (v.1 : Int), .int .u64 (v.2 : Int)] 60)).cell? ⟨wr.heap.size, 0, none⟩ = some (.int .i64 (kn : Int)) := by simp [go_sem]
      have C1 : (wr.alloc (Obj.cells #[.int .i64 (kn : Int), .int .i64 ki, .int .i64 s, .int .u64 (v.1 : Int), .int .u64 (v.2 : Int)] 60)).cell? ⟨wr.heap.size, 1, none⟩ = some (.int .i64 ki) := by simp [go_sem]
      have C2 : (wr.alloc (Obj.cells #[.int .i64 (kn : Int), .int .i64 ki, .int .i64 s, .int .u64 (v.1 : Int), .int .u64 (v.2 : Int)] 60)).cell? ⟨wr.heap.size, 2, none⟩ = some (.int .i64 s) := by simp [go_sem]
      clear HK D0 D1 D2 D3 D4
      generalize (wr.alloc (Obj.cells #[.int .i64 (kn : Int), .int .i64 ki, .int .i64 s, .int .u64 (v.1 : Int), .int .u64 (v.2 : Int)] 60)) = wz at *
      generalize wr.heap.size = qc at *
      go_cut [23, 24] (fun p23 p24 wx => ∃ q23 : Nat, p23 = .pointer (some ⟨q23, 0, none⟩) ∧ p24 = .int .i64 0 ∧ Hid (El wx q23 sg.1 sg.2 ∧ Tb W wx g P ph qt q ql qb m b t n0 ∧ wx.cell? ⟨qc, 0, none⟩ = some (.int .i64 (kn : Int))))
      case first =>
        refine wp_region_noPanic ?_
        refine wp_region_peel (S := fun w => w.cell? ⟨qc, 1, none⟩ = some (.int .i64 ki) ∧ w.cell? ⟨qc, 2, none⟩ = some (.int .i64 s)) 16 (by kernel_rfl) rfl (by kernel_rfl) ?_ (fun hHeld => ?_)
        · exact ⟨C1, C2⟩
        refine wpAnyH_take (i := 0) (oi := _) (v := ?_) rfl (by kernel_rfl) (by kernel_rfl) (by kernel_rfl) (fun _ _ _ h => h) (Or.inl ⟨by rfl, ?_⟩) (by assumption) ?_
        rotate_left
        · ((intro w hSw; (try dsimp only at hSw); go_simp) <;> (try with_reducible rfl))
        show wpAnyH _ _ _ _ _ _ _ (Act.put _ (some 62) _) _
        simp only [Act.put, List.setIfInBounds_toArray, List.set_cons_succ, List.set_cons_zero]
        refine wpAnyH_take (i := 1) (oi := _) (v := ?_) rfl (by kernel_rfl) (by kernel_rfl) (by kernel_rfl) (fun _ _ _ h => h) (Or.inl ⟨by rfl, ?_⟩) (by assumption) ?_
        rotate_left
        · ((intro w hSw; (try dsimp only at hSw); go_simp) <;> (try with_reducible rfl))
        show wpAnyH _ _ _ _ _ _ _ (Act.put _ (some 63) _) _
        simp only [Act.put, List.setIfInBounds_toArray, List.set_cons_succ, List.set_cons_zero]
        refine wpAnyH_take (i := 2) (oi := _) (v := ?_) rfl (by kernel_rfl) (by kernel_rfl) (by kernel_rfl) (fun _ _ _ h => h) (Or.inl ⟨by rfl, ?_⟩) (by assumption) ?_
        rotate_left
        · ((intro w hSw; (try dsimp only at hSw); go_simp) <;> (try with_reducible rfl))
        show wpAnyH _ _ _ _ _ _ _ (Act.put _ (some 64) _) _
        simp only [Act.put, List.setIfInBounds_toArray, List.set_cons_succ, List.set_cons_zero]
        refine wpAnyH_take (i := 3) (oi := _) (v := ?_) rfl (by kernel_rfl) (by kernel_rfl) (by kernel_rfl) (fun _ _ _ h => h) (Or.inl ⟨by rfl, ?_⟩) (by assumption) ?_
        rotate_left
        · ((intro w hSw; (try dsimp only at hSw); go_simp) <;> (try with_reducible rfl))
        show wpAnyH _ _ _ _ _ _ _ (Act.put _ (some 65) _) _
        simp only [Act.put, List.setIfInBounds_toArray, List.set_cons_succ, List.set_cons_zero]
        refine wpAnyH_take (i := 4) (oi := _) (v := ?_) rfl (by kernel_rfl) (by kernel_rfl) (by kernel_rfl) (fun _ _ _ h => h) (Or.inl ⟨by rfl, ?_⟩) (by assumption) ?_
        rotate_left
        · ((intro w hSw; (try dsimp only at hSw); go_simp) <;> (try with_reducible rfl))
        show wpAnyH _ _ _ _ _ _ _ (Act.put _ (some 66) _) _
        simp only [Act.put, List.setIfInBounds_toArray, List.set_cons_succ, List.set_cons_zero]
        refine wpAnyH_take (i := 5) (oi := _) (v := ?_) rfl (by kernel_rfl) (by kernel_rfl) (by kernel_rfl) (fun _ _ _ h => h) (Or.inl ⟨by rfl, ?_⟩) (by assumption) ?_
        rotate_left
        · ((intro w hSw; (try dsimp only at hSw); go_simp) <;> (try with_reducible rfl))
        show wpAnyH _ _ _ _ _ _ _ (Act.put _ (some 67) _) _
        simp only [Act.put, List.setIfInBounds_toArray, List.set_cons_succ, List.set_cons_zero]
        refine wpAnyH_take (i := 6) (oi := _) (v := ?_) rfl (by kernel_rfl) (by kernel_rfl) (by kernel_rfl) (fun _ _ _ h => h) (Or.inl ⟨by rfl, ?_⟩) (by assumption) ?_
        rotate_left
        · ((intro w hSw; (try dsimp only at hSw); go_simp) <;> (try with_reducible rfl))
        show wpAnyH _ _ _ _ _ _ _ (Act.put _ (some 68) _) _
        simp only [Act.put, List.setIfInBounds_toArray, List.set_cons_succ, List.set_cons_zero]
        refine wpAnyH_take (i := 7) (oi := _) (v := ?_) rfl (by kernel_rfl) (by kernel_rfl) (by kernel_rfl) (fun _ _ _ h => h) (Or.inl ⟨by rfl, ?_⟩) (by assumption) ?_
        rotate_left
        · ((intro w hSw; (try dsimp only at hSw); go_simp) <;> (try with_reducible rfl))
        show wpAnyH _ _ _ _ _ _ _ (Act.put _ (some 69) _) _
        simp only [Act.put, List.setIfInBounds_toArray, List.set_cons_succ, List.set_cons_zero]
        refine wpAnyH_take (i := 8) (oi := _) (v := ?_) rfl (by kernel_rfl) (by kernel_rfl) (by kernel_rfl) (fun _ _ _ h => h) (Or.inl ⟨by rfl, ?_⟩) (by assumption) ?_
        rotate_left
        · ((intro w hSw; (try dsimp only at hSw); go_simp) <;> (try with_reducible rfl))
        show wpAnyH _ _ _ _ _ _ _ (Act.put _ (some 70) _) _
        simp only [Act.put, List.setIfInBounds_toArray, List.set_cons_succ, List.set_cons_zero]
        refine wpAnyH_take (i := 9) (oi := _) (v := ?_) rfl (by kernel_rfl) (by kernel_rfl) (by kernel_rfl) (fun _ _ _ h => h) (Or.inl ⟨by rfl, ?_⟩) (by assumption) ?_
        rotate_left
        · ((intro w hSw; (try dsimp only at hSw); go_simp) <;> (try with_reducible rfl))
        show wpAnyH _ _ _ _ _ _ _ (Act.put _ (some 71) _) _
        simp only [Act.put, List.setIfInBounds_toArray, List.set_cons_succ, List.set_cons_zero]
        have K' := K.drew
        have C0' : wz.drew.cell? ⟨qc, 0, none⟩ = some (.int .i64 (kn : Int)) := C0
        have C1' : wz.drew.cell? ⟨qc, 1, none⟩ = some (.int .i64 ki) := C1
        have C2' : wz.drew.cell? ⟨qc, 2, none⟩ = some (.int .i64 s) := C2
        clear K C0 C1 C2
        have K := K'
        have C0 := C0'
        have C1 := C1'
        have C2 := C2'
        clear K' C0' C1' C2'
        generalize wz.drew = wd at *
        refine wpAnyH_ready (rs := [10, 14]) (by kernel_rfl) (by simp) ?_
        refine (AllReadyH.cons (o := _) rfl (fun KK hKK => ?_) (AllReadyH.cons (o := _) rfl (fun KK hKK => ?_) AllReadyH.nil))
        · skip
          go_simp
          (go_at_call 48; refine (HTi.out _ _ _ K.o.d (ERow.noneE (by rw [HPP.out.1, List.length_take]; have := HPP.out.2.2.1; have := HPP.out.2.2.2; have := HW0.out; omega))).mono ?_; rintro e w' ⟨rfl, hb'⟩)
          have K' := K.below hb'
          have C0' := keepc hb' C0
          have C1' := keepc hb' C1
          have C2' := keepc hb' C2
          clear K C0 C1 C2 hb'
          have K := K'
          have C0 := C0'
          have C1 := C1'
          have C2 := C2'
          clear K' C0' C1' C2'
          refine hKK.out _ _ ?_ (fun hHeld => ?_)
          · exact ⟨C1, C2⟩
          clear hKK KK
          try simp only [Act.put]
          refine wpAnyH_take (i := 11) (oi := _) (v := ?_) rfl (by kernel_rfl) (by kernel_rfl) (by kernel_rfl) (fun _ _ _ h => h) (Or.inl ⟨by rfl, ?_⟩) (by assumption) ?_
          rotate_left
          · ((intro w hSw; (try dsimp only at hSw); go_simp) <;> (try with_reducible rfl))
          show wpAnyH _ _ _ _ _ _ _ (Act.put _ (some 61) _) _
          simp only [Act.put, List.setIfInBounds_toArray, List.set_cons_succ, List.set_cons_zero]
          refine wpAnyH_take (i := 12) (oi := _) (v := ?_) rfl (by kernel_rfl) (by kernel_rfl) (by kernel_rfl) (fun _ _ _ h => h) (Or.inl ⟨by rfl, ?_⟩) (by assumption) ?_
          rotate_left
          · ((intro w hSw; (try dsimp only at hSw); go_simp) <;> (try with_reducible rfl))
          show wpAnyH _ _ _ _ _ _ _ (Act.put _ (some 73) _) _
          simp only [Act.put, List.setIfInBounds_toArray, List.set_cons_succ, List.set_cons_zero]
          refine wpAnyH_take (i := 13) (oi := _) (v := ?_) rfl (by kernel_rfl) (by kernel_rfl) (by kernel_rfl) (fun _ _ _ h => h) (Or.inl ⟨by rfl, ?_⟩) (by assumption) ?_
          rotate_left
          · ((intro w hSw; (try dsimp only at hSw); go_simp) <;> (try with_reducible rfl))
          show wpAnyH _ _ _ _ _ _ _ (Act.put _ (some 74) _) _
          simp only [Act.put, List.setIfInBounds_toArray, List.set_cons_succ, List.set_cons_zero]
          refine wpAnyH_ready (rs := [14]) (by kernel_rfl) (by simp) ?_
          refine (AllReadyH.cons (o := _) rfl (fun KK hKK => ?_) AllReadyH.nil)
          go_simp
          have hq3 := K.above
          have hqc : qc < w'.heap.size := cell_lt C0
          have E3 : Ew (w'.alloc (Obj.cells #[.int .u64 0, .int .u64 0] 26)) w'.heap.size 0 0 := Ew.roomR w' _
          have hb' : Below w'.heap.size w' (w'.alloc (Obj.cells #[.int .u64 0, .int .u64 0] 26)) := (Below.refl _ _).alloc (Nat.le_refl _) _
          have K' := K.below hb'
          have C0' := keepc hb' C0
          have C1' := keepc hb' C1
          have C2' := keepc hb' C2
          clear K C0 C1 C2 hb'
          have K := K'
          have C0 := C0'
          have C1 := C1'
          have C2 := C2'
          clear K' C0' C1' C2'
          generalize w'.alloc (Obj.cells #[.int .u64 0, .int .u64 0] 26) = v3 at *
          generalize w'.heap.size = q3 at *
          refine hKK.out _ _ ?_ (fun hHeld => ?_)
          · exact ⟨C1, C2⟩
          clear hKK KK
          try simp only [Act.put]
          refine wpAnyH_ready (rs := [15]) (by kernel_rfl) (by simp) ?_
          refine (AllReadyH.cons (o := _) rfl (fun KK hKK => ?_) AllReadyH.nil)
          have r1 := E3.hi
          have r0 := E3.lo
          have f1 := E3.fhi
          have f0 := E3.flo
          go_simp
          have K' := K.offB (b' := q3) HQ.out.1 hq3.1 hq3.2 (.int .u64 (sg.1 : Int)) (.int .u64 (sg.2 : Int))
          have E3' := E3.set sg.1 sg.2
          have C0' := set_far hqc (.int .u64 (sg.1 : Int)) (.int .u64 (sg.2 : Int)) C0
          have C1' := set_far hqc (.int .u64 (sg.1 : Int)) (.int .u64 (sg.2 : Int)) C1
          have C2' := set_far hqc (.int .u64 (sg.1 : Int)) (.int .u64 (sg.2 : Int)) C2
          clear K E3 C0 C1 C2 r1 r0 f1 f0
          have K := K'
          have E3 := E3'
          have C0 := C0'
          have C1 := C1'
          have C2 := C2'
          clear K' E3' C0' C1' C2'
          refine hKK.out _ _ ?_ (fun hHeld => ?_)
          · exact ⟨C1, C2⟩
          clear hKK KK
          try simp only [Act.put]
          refine wpAnyH_done (by kernel_rfl) ?_ _
          refine peel_last rfl (fun KK hKK => ?_)
          clear hHeld
          go_simp
          refine hKK _ _ ?_
          refine NoPanic.normal ?_
          go_wp2_with fail
          go_meet
          exact ⟨q3, rfl, rfl, ⟨E3.toEl, K, C0⟩⟩
        · skip
          go_simp
          have hq3 := K.above
          have hqc : qc < wd.heap.size := cell_lt C0
          have E3 : Ew (wd.alloc (Obj.cells #[.int .u64 0, .int .u64 0] 26)) wd.heap.size 0 0 := Ew.roomR wd _
          have hb' : Below wd.heap.size wd (wd.alloc (Obj.cells #[.int .u64 0, .int .u64 0] 26)) := (Below.refl _ _).alloc (Nat.le_refl _) _
          have K' := K.below hb'
          have C0' := keepc hb' C0
          have C1' := keepc hb' C1
          have C2' := keepc hb' C2
          clear K C0 C1 C2 hb'
          have K := K'
          have C0 := C0'
          have C1 := C1'
          have C2 := C2'
          clear K' C0' C1' C2'
          generalize wd.alloc (Obj.cells #[.int .u64 0, .int .u64 0] 26) = v3 at *
          generalize wd.heap.size = q3 at *
          refine hKK.out _ _ ?_ (fun hHeld => ?_)
          · exact ⟨C1, C2⟩
          clear hKK KK
          try simp only [Act.put]
          refine wpAnyH_ready (rs := [10]) (by kernel_rfl) (by simp) ?_
          refine (AllReadyH.cons (o := _) rfl (fun KK hKK => ?_) AllReadyH.nil)
          go_simp
          (go_at_call 48; refine (HTi.out _ _ _ K.o.d (ERow.noneE (by rw [HPP.out.1, List.length_take]; have := HPP.out.2.2.1; have := HPP.out.2.2.2; have := HW0.out; omega))).mono ?_; rintro e w' ⟨rfl, hb'⟩)
          have K' := K.below hb'
          have C0' := keepc hb' C0
          have C1' := keepc hb' C1
          have C2' := keepc hb' C2
          have E3' := E3.below hb'
          clear K C0 C1 C2 E3 hb'
          have K := K'
          have C0 := C0'
          have C1 := C1'
          have C2 := C2'
          have E3 := E3'
          clear K' C0' C1' C2' E3'
          refine hKK.out _ _ ?_ (fun hHeld => ?_)
          · exact ⟨C1, C2⟩
          clear hKK KK
          try simp only [Act.put]
          refine wpAnyH_take (i := 11) (oi := _) (v := ?_) rfl (by kernel_rfl) (by kernel_rfl) (by kernel_rfl) (fun _ _ _ h => h) (Or.inl ⟨by rfl, ?_⟩) (by assumption) ?_
          rotate_left
          · ((intro w hSw; (try dsimp only at hSw); go_simp) <;> (try with_reducible rfl))
          show wpAnyH _ _ _ _ _ _ _ (Act.put _ (some 61) _) _
          simp only [Act.put, List.setIfInBounds_toArray, List.set_cons_succ, List.set_cons_zero]
          refine wpAnyH_take (i := 12) (oi := _) (v := ?_) rfl (by kernel_rfl) (by kernel_rfl) (by kernel_rfl) (fun _ _ _ h => h) (Or.inl ⟨by rfl, ?_⟩) (by assumption) ?_
          rotate_left
          · ((intro w hSw; (try dsimp only at hSw); go_simp) <;> (try with_reducible rfl))
          show wpAnyH _ _ _ _ _ _ _ (Act.put _ (some 73) _) _
          simp only [Act.put, List.setIfInBounds_toArray, List.set_cons_succ, List.set_cons_zero]
          refine wpAnyH_take (i := 13) (oi := _) (v := ?_) rfl (by kernel_rfl) (by kernel_rfl) (by kernel_rfl) (fun _ _ _ h => h) (Or.inl ⟨by rfl, ?_⟩) (by assumption) ?_
          rotate_left
          · ((intro w hSw; (try dsimp only at hSw); go_simp) <;> (try with_reducible rfl))
          show wpAnyH _ _ _ _ _ _ _ (Act.put _ (some 74) _) _
          simp only [Act.put, List.setIfInBounds_toArray, List.set_cons_succ, List.set_cons_zero]
          refine wpAnyH_ready (rs := [15]) (by kernel_rfl) (by simp) ?_
          refine (AllReadyH.cons (o := _) rfl (fun KK hKK => ?_) AllReadyH.nil)
          have r1 := E3.hi
          have r0 := E3.lo
          have f1 := E3.fhi
          have f0 := E3.flo
          go_simp
          have K' := K.offB (b' := q3) HQ.out.1 hq3.1 hq3.2 (.int .u64 (sg.1 : Int)) (.int .u64 (sg.2 : Int))
          have E3' := E3.set sg.1 sg.2
          have C0' := set_far hqc (.int .u64 (sg.1 : Int)) (.int .u64 (sg.2 : Int)) C0
          have C1' := set_far hqc (.int .u64 (sg.1 : Int)) (.int .u64 (sg.2 : Int)) C1
          have C2' := set_far hqc (.int .u64 (sg.1 : Int)) (.int .u64 (sg.2 : Int)) C2
          clear K E3 C0 C1 C2 r1 r0 f1 f0
          have K := K'
          have E3 := E3'
          have C0 := C0'
          have C1 := C1'
          have C2 := C2'
          clear K' E3' C0' C1' C2'
          refine hKK.out _ _ ?_ (fun hHeld => ?_)
          · exact ⟨C1, C2⟩
          clear hKK KK
          try simp only [Act.put]
          refine wpAnyH_done (by kernel_rfl) ?_ _
          refine peel_last rfl (fun KK hKK => ?_)
          clear hHeld
          go_simp
          refine hKK _ _ ?_
          refine NoPanic.normal ?_
          go_wp2_with fail
          go_meet
          exact ⟨q3, rfl, rfl, ⟨E3.toEl, K, C0⟩⟩
      case rest =>
        obtain ⟨q23, rfl, rfl, KR⟩ := hcut
        clear K C0 C1 C2 HTi
        obtain ⟨s1, s0⟩ := KR.out.1
        go_upto_region 16 with fail
        have E2 := KR.out.1
        have K := KR.out.2.1
        have C0 := KR.out.2.2
        obtain ⟨b9, o9, e9, hb9, G1, G0⟩ := K.w.cells kn (by rw [Rg.wts_len]; omega)
        injection e9 with e9
        injection e9 with e9a e9b
        subst e9a e9b
        rw [Nat.zero_add, HWk.out] at G1 G0
        clear KR s1 s0 hb9
        obtain ⟨wx, rfl⟩ : ∃ w, w = wc := ⟨_, rfl⟩
        go_cut [25] (fun p25 wx => ∃ q25 : Nat, p25 = .pointer (some ⟨q25, 0, none⟩) ∧ Hid (El wx q25 sh.1 sh.2 ∧ Tb W wx g P ph qt q ql qb m b t n0 ∧ q < q25))
        case first =>
          refine wp_region_noPanic ?_
          refine wp_region_peel (S := fun w => w.cell? ⟨qc, 0, none⟩ = some (.int .i64 (kn : Int)) ∧ (w.cell? ⟨g, kn * 2, none⟩ = some (.int .u64 (wk.1 : Int)) ∧ w.cell? ⟨g, kn * 2 + 1, none⟩ = some (.int .u64 (wk.2 : Int))) ∧ w.cell? ⟨q23, 0, none⟩ = some (.int .u64 (sg.1 : Int)) ∧ w.cell? ⟨q23, 1, none⟩ = some (.int .u64 (sg.2 : Int))) 9 (by kernel_rfl) rfl (by kernel_rfl) ?_ (fun hHeld => ?_)
          · exact ⟨C0, ⟨G1, G0⟩, E2.hi, E2.lo⟩
          refine wpAnyH_take (i := 0) (oi := _) (v := ?_) rfl (by kernel_rfl) (by kernel_rfl) (by kernel_rfl) (fun _ _ _ h => h) (Or.inl ⟨by rfl, ?_⟩) (by assumption) ?_
          rotate_left
          · ((intro w hSw; (try dsimp only at hSw); go_simp) <;> (try with_reducible rfl))
          show wpAnyH _ _ _ _ _ _ _ (Act.put _ (some 79) _) _
          simp only [Act.put, List.setIfInBounds_toArray, List.set_cons_succ, List.set_cons_zero]
          refine wpAnyH_take (i := 1) (oi := _) (v := ?_) rfl (by kernel_rfl) (by kernel_rfl) (by kernel_rfl) (fun _ _ _ h => h) (Or.inl ⟨by rfl, ?_⟩) (by assumption) ?_
          rotate_left
          · ((intro w hSw; (try dsimp only at hSw); go_simp) <;> (try with_reducible rfl))
          show wpAnyH _ _ _ _ _ _ _ (Act.put _ (some 80) _) _
          simp only [Act.put, List.setIfInBounds_toArray, List.set_cons_succ, List.set_cons_zero]
          refine wpAnyH_take (i := 2) (oi := _) (v := ?_) rfl (by kernel_rfl) (by kernel_rfl) (by kernel_rfl) (fun _ _ _ h => h) (Or.inl ⟨by rfl, ?_⟩) (by assumption) ?_
          rotate_left
          · ((intro w hSw; (try dsimp only at hSw); go_simp) <;> (try with_reducible rfl))
          show wpAnyH _ _ _ _ _ _ _ (Act.put _ (some 81) _) _
          simp only [Act.put, List.setIfInBounds_toArray, List.set_cons_succ, List.set_cons_zero]
          refine wpAnyH_take (i := 3) (oi := _) (v := ?_) rfl (by kernel_rfl) (by kernel_rfl) (by kernel_rfl) (fun _ _ _ h => h) (Or.inl ⟨by rfl, ?_⟩) (by assumption) ?_
          rotate_left
          · ((intro w hSw; (try dsimp only at hSw); go_simp) <;> (try with_reducible rfl))
          show wpAnyH _ _ _ _ _ _ _ (Act.put _ (some 82) _) _
          simp only [Act.put, List.setIfInBounds_toArray, List.set_cons_succ, List.set_cons_zero]
          refine wpAnyH_take (i := 4) (oi := _) (v := ?_) rfl (by kernel_rfl) (by kernel_rfl) (by kernel_rfl) (fun _ _ _ h => h) (Or.inl ⟨by rfl, ?_⟩) (by assumption) ?_
          rotate_left
          · ((intro w hSw; (try dsimp only at hSw); go_simp) <;> (try with_reducible rfl))
          show wpAnyH _ _ _ _ _ _ _ (Act.put _ (some 83) _) _
          simp only [Act.put, List.setIfInBounds_toArray, List.set_cons_succ, List.set_cons_zero]
          refine wpAnyH_take (i := 5) (oi := _) (v := ?_) rfl (by kernel_rfl) (by kernel_rfl) (by kernel_rfl) (fun _ _ _ h => h) (Or.inl ⟨by rfl, ?_⟩) (by assumption) ?_
          rotate_left
          · ((intro w hSw; (try dsimp only at hSw); go_simp) <;> (try with_reducible rfl))
          show wpAnyH _ _ _ _ _ _ _ (Act.put _ (some 84) _) _
          simp only [Act.put, List.setIfInBounds_toArray, List.set_cons_succ, List.set_cons_zero]
          refine wpAnyH_take (i := 6) (oi := _) (v := ?_) rfl (by kernel_rfl) (by kernel_rfl) (by kernel_rfl) (fun _ _ _ h => h) (Or.inl ⟨by rfl, ?_⟩) (by assumption) ?_
          rotate_left
          · ((intro w hSw; (try dsimp only at hSw); go_simp) <;> (try with_reducible rfl))
          show wpAnyH _ _ _ _ _ _ _ (Act.put _ (some 85) _) _
          simp only [Act.put, List.setIfInBounds_toArray, List.set_cons_succ, List.set_cons_zero]
          have K' := K.drew
          have E2' := E2.drew
          have C0' : wx.drew.cell? ⟨qc, 0, none⟩ = some (.int .i64 (kn : Int)) := C0
          have G1' : wx.drew.cell? ⟨g, kn * 2, none⟩ = some (.int .u64 (wk.1 : Int)) := G1
          have G0' : wx.drew.cell? ⟨g, kn * 2 + 1, none⟩ = some (.int .u64 (wk.2 : Int)) := G0
          clear K E2 C0 G1 G0
          have K := K'
          have E2 := E2'
          have C0 := C0'
          have G1 := G1'
          have G0 := G0'
          clear K' E2' C0' G1' G0'
          generalize wx.drew = wd at *
          refine wpAnyH_ready (rs := [7, 8]) (by kernel_rfl) (by simp) ?_
          refine (AllReadyH.cons (o := _) rfl (fun KK hKK => ?_) (AllReadyH.cons (o := _) rfl (fun KK hKK => ?_) AllReadyH.nil))
          · skip
            go_simp
            (go_at_call 37; refine (M1.out.go _).mono ?_; rintro e w' ⟨rfl, hb'⟩)
            have K' := K.below hb'
            have E2' := E2.below hb'
            have C0' := keepc hb' C0
            have G1' := keepc hb' G1
            have G0' := keepc hb' G0
            clear K E2 C0 G1 G0 hb'
            have K := K'
            have E2 := E2'
            have C0 := C0'
            have G1 := G1'
            have G0 := G0'
            clear K' E2' C0' G1' G0'
            refine hKK.out _ _ ?_ (fun hHeld => ?_)
            · exact ⟨C0, ⟨G1, G0⟩, E2.hi, E2.lo⟩
            clear hKK KK
            try simp only [Act.put]
            refine wpAnyH_ready (rs := [8]) (by kernel_rfl) (by simp) ?_
            refine (AllReadyH.cons (o := _) rfl (fun KK hKK => ?_) AllReadyH.nil)
            go_simp
            have hq3 := K.above
            have E3 : Ew (w'.alloc (Obj.cells #[.int .u64 0, .int .u64 0] 26)) w'.heap.size 0 0 := Ew.roomR w' _
            have hb' : Below w'.heap.size w' (w'.alloc (Obj.cells #[.int .u64 0, .int .u64 0] 26)) := (Below.refl _ _).alloc (Nat.le_refl _) _
            have K' := K.below hb'
            have E2' := E2.below hb'
            have C0' := keepc hb' C0
            have G1' := keepc hb' G1
            have G0' := keepc hb' G0
            clear K E2 C0 G1 G0 hb'
            have K := K'
            have E2 := E2'
            have C0 := C0'
            have G1 := G1'
            have G0 := G0'
            clear K' E2' C0' G1' G0'
            generalize w'.alloc (Obj.cells #[.int .u64 0, .int .u64 0] 26) = v3 at *
            generalize w'.heap.size = q3 at *
            refine hKK.out _ _ ?_ (fun hHeld => ?_)
            · exact ⟨C0, ⟨G1, G0⟩, E2.hi, E2.lo⟩
            clear hKK KK
            try simp only [Act.put]
            refine wpAnyH_done (by kernel_rfl) ?_ _
            refine peel_last rfl (fun KK hKK => ?_)
            clear hHeld
            have r1 := E3.hi
            have r0 := E3.lo
            have f1 := E3.fhi
            have f0 := E3.flo
            go_simp
            refine hKK _ _ ?_
            refine NoPanic.normal ?_
            have K' := K.offB (b' := q3) HQ.out.1 hq3.1 hq3.2 (.int .u64 (sh.1 : Int)) (.int .u64 (sh.2 : Int))
            have E3' := E3.set sh.1 sh.2
            go_wp2_with fail
            go_meet
            exact ⟨q3, rfl, ⟨E3'.toEl, K', hq3.2.2.1⟩⟩
          · skip
            go_simp
            have hq3 := K.above
            have E3 : Ew (wd.alloc (Obj.cells #[.int .u64 0, .int .u64 0] 26)) wd.heap.size 0 0 := Ew.roomR wd _
            have hb' : Below wd.heap.size wd (wd.alloc (Obj.cells #[.int .u64 0, .int .u64 0] 26)) := (Below.refl _ _).alloc (Nat.le_refl _) _
            have K' := K.below hb'
            have E2' := E2.below hb'
            have C0' := keepc hb' C0
            have G1' := keepc hb' G1
            have G0' := keepc hb' G0
            clear K E2 C0 G1 G0 hb'
            have K := K'
            have E2 := E2'
            have C0 := C0'
            have G1 := G1'
            have G0 := G0'
            clear K' E2' C0' G1' G0'
            generalize wd.alloc (Obj.cells #[.int .u64 0, .int .u64 0] 26) = v3 at *
            generalize wd.heap.size = q3 at *
            refine hKK.out _ _ ?_ (fun hHeld => ?_)
            · exact ⟨C0, ⟨G1, G0⟩, E2.hi, E2.lo⟩
            clear hKK KK
            try simp only [Act.put]
            refine wpAnyH_ready (rs := [7]) (by kernel_rfl) (by simp) ?_
            refine (AllReadyH.cons (o := _) rfl (fun KK hKK => ?_) AllReadyH.nil)
            go_simp
            (go_at_call 37; refine (M1.out.go _).mono ?_; rintro e w' ⟨rfl, hb'⟩)
            have K' := K.below hb'
            have E2' := E2.below hb'
            have C0' := keepc hb' C0
            have G1' := keepc hb' G1
            have G0' := keepc hb' G0
            have E3' := E3.below hb'
            clear K E2 C0 G1 G0 E3 hb'
            have K := K'
            have E2 := E2'
            have C0 := C0'
            have G1 := G1'
            have G0 := G0'
            have E3 := E3'
            clear K' E2' C0' G1' G0' E3'
            refine hKK.out _ _ ?_ (fun hHeld => ?_)
            · exact ⟨C0, ⟨G1, G0⟩, E2.hi, E2.lo⟩
            clear hKK KK
            try simp only [Act.put]
            refine wpAnyH_done (by kernel_rfl) ?_ _
            refine peel_last rfl (fun KK hKK => ?_)
            clear hHeld
            have r1 := E3.hi
            have r0 := E3.lo
            have f1 := E3.fhi
            have f0 := E3.flo
            go_simp
            refine hKK _ _ ?_
            refine NoPanic.normal ?_
            have K' := K.offB (b' := q3) HQ.out.1 hq3.1 hq3.2 (.int .u64 (sh.1 : Int)) (.int .u64 (sh.2 : Int))
            have E3' := E3.set sh.1 sh.2
            go_wp2_with fail
            go_meet
            exact ⟨q3, rfl, ⟨E3'.toEl, K', hq3.2.2.1⟩⟩
        case rest =>
          obtain ⟨q25, rfl, KR⟩ := hcut
          clear K E2 C0 G1 G0 M1
          have VX := KR.out.1
          have K := KR.out.2.1
          have hq25 := KR.out.2.2
          clear KR
          go_upto_region 17 with fail
          obtain ⟨wy, rfl⟩ : ∃ w, w = wc := ⟨_, rfl⟩
          refine wp_region_noPanic ?_
          refine wp_region_peel (S := fun w => (w.cell? ⟨qt, 0, none⟩ = some (.int .u64 (t.1 : Int)) ∧ w.cell? ⟨qt, 1, none⟩ = some (.int .u64 (t.2 : Int))) ∧ w.cell? ⟨q25, 0, none⟩ = some (.int .u64 (sh.1 : Int)) ∧ w.cell? ⟨q25, 1, none⟩ = some (.int .u64 (sh.2 : Int))) 7 (by kernel_rfl) rfl (by kernel_rfl) ?_ (fun hHeld => ?_)
          · exact ⟨⟨K.o.t.hi, K.o.t.lo⟩, VX.hi, VX.lo⟩
          refine wpAnyH_take (i := 0) (oi := _) (v := ?_) rfl (by kernel_rfl) (by kernel_rfl) (by kernel_rfl) (fun _ _ _ h => h) (Or.inl ⟨by rfl, ?_⟩) (by assumption) ?_
          rotate_left
          · ((intro w hSw; (try dsimp only at hSw); go_simp) <;> (try with_reducible rfl))
          show wpAnyH _ _ _ _ _ _ _ (Act.put _ (some 87) _) _
          simp only [Act.put, List.setIfInBounds_toArray, List.set_cons_succ, List.set_cons_zero]
          refine wpAnyH_take (i := 1) (oi := _) (v := ?_) rfl (by kernel_rfl) (by kernel_rfl) (by kernel_rfl) (fun _ _ _ h => h) (Or.inl ⟨by rfl, ?_⟩) (by assumption) ?_
          rotate_left
          · ((intro w hSw; (try dsimp only at hSw); go_simp) <;> (try with_reducible rfl))
          show wpAnyH _ _ _ _ _ _ _ (Act.put _ (some 88) _) _
          simp only [Act.put, List.setIfInBounds_toArray, List.set_cons_succ, List.set_cons_zero]
          refine wpAnyH_take (i := 2) (oi := _) (v := ?_) rfl (by kernel_rfl) (by kernel_rfl) (by kernel_rfl) (fun _ _ _ h => h) (Or.inl ⟨by rfl, ?_⟩) (by assumption) ?_
          rotate_left
          · ((intro w hSw; (try dsimp only at hSw); go_simp) <;> (try with_reducible rfl))
          show wpAnyH _ _ _ _ _ _ _ (Act.put _ (some 89) _) _
          simp only [Act.put, List.setIfInBounds_toArray, List.set_cons_succ, List.set_cons_zero]
          refine wpAnyH_take (i := 4) (oi := _) (v := ?_) rfl (by kernel_rfl) (by kernel_rfl) (by kernel_rfl) (fun _ _ _ h => h) (Or.inl ⟨by rfl, ?_⟩) (by assumption) ?_
          rotate_left
          · ((intro w hSw; (try dsimp only at hSw); go_simp) <;> (try with_reducible rfl))
          show wpAnyH _ _ _ _ _ _ _ (Act.put _ (some 91) _) _
          simp only [Act.put, List.setIfInBounds_toArray, List.set_cons_succ, List.set_cons_zero]
          have K' := K.drew
          have VX' := VX.drew
          clear K VX
          have K := K'
          have VX := VX'
          clear K' VX'
          generalize wy.drew = wd at *
          refine wpAnyH_ready (rs := [3]) (by kernel_rfl) (by simp) ?_
          refine (AllReadyH.cons (o := _) rfl (fun KK hKK => ?_) AllReadyH.nil)
          go_simp
          (go_at_call 60; refine (HPI.out _ K.o.p).mono ?_; rintro e w' ⟨rfl, hb'⟩)
          have K' := K.pow (Nat.ne_of_lt (Nat.lt_trans HQ.out.1 HQ.out.2.1)) n' hb'
          have VX' : El w' q25 sh.1 sh.2 := (VX.keepR (b := q) (fun h => absurd h (by omega)) 0 1 (.int .u64 (n'.1 : Int)) (.int .u64 (n'.2 : Int))).below (by simpa [World.setCell] using hb')
          clear K VX hb'
          have K := K'
          have VX := VX'
          clear K' VX'
          refine hKK.out _ _ ?_ (fun hHeld => ?_)
          · exact ⟨⟨K.o.t.hi, K.o.t.lo⟩, VX.hi, VX.lo⟩
          clear hKK KK
          try simp only [Act.put]
          refine wpAnyH_ready (rs := [5]) (by kernel_rfl) (by simp) ?_
          refine (AllReadyH.cons (o := _) rfl (fun KK hKK => ?_) AllReadyH.nil)
          go_simp
          (go_at_call 37; refine (M2.out.go _).mono ?_; rintro e w' ⟨rfl, hb'⟩)
          have K' := K.below hb'
          have VX' := VX.below hb'
          clear K VX hb'
          have K := K'
          have VX := VX'
          clear K' VX'
          refine hKK.out _ _ ?_ (fun hHeld => ?_)
          · exact ⟨⟨K.o.t.hi, K.o.t.lo⟩, VX.hi, VX.lo⟩
          clear hKK KK
          try simp only [Act.put]
          refine wpAnyH_ready (rs := [6]) (by kernel_rfl) (by simp) ?_
          refine (AllReadyH.cons (o := _) rfl (fun KK hKK => ?_) AllReadyH.nil)
          go_simp
          (go_at_call 36; refine (AD.out.go _).mono ?_; rintro e w' ⟨rfl, hb'⟩)
          have K' := K.below hb'
          have VX' := VX.below hb'
          clear K VX hb'
          have K := K'
          have VX := VX'
          clear K' VX'
          refine hKK.out _ _ ?_ (fun hHeld => ?_)
          · exact ⟨⟨K.o.t.hi, K.o.t.lo⟩, VX.hi, VX.lo⟩
          clear hKK KK
          try simp only [Act.put]
          refine wpAnyH_done (by kernel_rfl) ?_ _
          refine peel_last rfl (fun KK hKK => ?_)
          clear hHeld
          obtain ⟨r1, r0⟩ := K.o.t.toEl
          have f1 := K.o.t.fhi
          have f0 := K.o.t.flo
          go_simp
          refine hKK _ _ ?_
          refine NoPanic.normal ?_
          clear hKK KK
          have K2 : Hid (Tb W ((w'.setCell ⟨qt, 0, none⟩ (.int .u64 (t'.1 : Int))).setCell ⟨qt, 1, none⟩ (.int .u64 (t'.2 : Int))) g P ph qt q ql qb m b t' n') := K.put (Nat.ne_of_lt HQ.out.1) HQ.out.2.2.1 HQ.out.2.2.2 t'
          clear K r1 r0 f1 f0 VX
          go_wp2
          refine ⟨⟨i + 1, hlt, by simp, ?_⟩, by simp [intOf]; omega⟩
          rw [← HT'.out.1, ← HT'.out.2]
          exact K2
    · obtain rfl : i = L := by omega
      obtain ⟨⟨r1, r0⟩, f1, f0⟩ := HK.out.o.r
      obtain ⟨t1, t0⟩ := HK.out.o.t.toEl
      obtain ⟨t, ht⟩ : ∃ t, t = ceS b z pl ph cl i := ⟨_, rfl⟩
      rw [← ht] at t1 t0
      have HTT : Hid (t = ceS b z pl ph cl i) := ht
      clear HPW HTA HCL HSG HAS ht
      go_wp2
      refine bodyPost_ret (v := .tuple #[.agg #[.int .u64 (t.1 : Int), .int .u64 (t.2 : Int)], .int .i64 0]) (by simp [results, Try.results18, go_sem, *]) rfl ⟨by rw [HTT.out], below2 (p := W.heap.size + 1) HK.out.o.d (by omega) _ _⟩
end Go.Proofs.Ytejoombhcnldmaa
