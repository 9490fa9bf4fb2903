/- SumcheckCounts' walk over the seat's translation. -/
import Derived.Test.YtfhojakhoobnhaaScN
import Derived.Test.YtfhojakhoobnhaaLnK
namespace Go.Proofs.Ytfhojakhoobnhaa
open Go.RowKit
open Cb Ln Sc
open Tw (pm)

theorem Cx.set2 {W w : World} {sa a fa ga : Option Addr} {ln scap tn cap fn fcap gn gcap : Nat} {c : Nat × Nat} (h : Cx W w sa a fa ga ln scap tn cap fn fcap gn gcap c) {q : Nat} (hq : W.heap.size + 1 < q) (u v : Value) : Cx W ((w.setCell ⟨q, 0, none⟩ u).setCell ⟨q, 1, none⟩ v) sa a fa ga ln scap tn cap fn fcap gn gcap c := by
  obtain ⟨l0, t0, e1, e0, f0, g0, d⟩ := h
  have n1 : ¬ q = W.heap.size := by omega
  have n2 : ¬ W.heap.size = q := by omega
  have n3 : ¬ q = W.heap.size + 1 := by omega
  have n4 : ¬ W.heap.size + 1 = q := by omega
  exact ⟨by simp [go_sem, *], by simp [go_sem, *], by simp [go_sem, *], by simp [go_sem, *], by simp [go_sem, *], by simp [go_sem, *], below2 d (by omega) _ _⟩
theorem ERow.set2 {w : World} {q b : Nat} {u v : Value} {es : List (Nat × Nat)} (h : ERow w (some ⟨b, 0, none⟩) es) (hb : b < q) : ERow ((w.setCell ⟨q, 0, none⟩ u).setCell ⟨q, 1, none⟩ v) (some ⟨b, 0, none⟩) es := by
  have hn : ∀ b' off, (some ⟨b, 0, none⟩ : Option Addr) = some ⟨b', off, none⟩ → b' ≠ q := fun b' off e => by
    simp only [Option.some.injEq, Addr.mk.injEq] at e
    omega
  exact (h.setG hn).setG hn
theorem Ew.room2 (w : World) (o : Obj) (T : TypeId) : Ew ((w.alloc o).alloc (Obj.cells #[.int .u64 0, .int .u64 0] T)) (w.heap.size + 1) 0 0 := by
  have h := Ew.roomN (w.alloc o) T
  rwa [alloc_size] at h
set_option maxHeartbeats 20000000 in
set_option maxRecDepth 100000 in
theorem scc_main (k sz : Nat) (hk1 : k ≤ 1) (hsz : sz = if k = 0 then 2 else 4) (sa a fa ga : Option Addr) (scap cap fcap gcap : Nat) (l : List Stp) (ts : List (List (Nat × Nat))) (c : Nat × Nat) (f : List (Nat × Nat)) (g : List (List (Nat × Nat))) (hl : ∀ o ∈ l, o.ok) (ht : ltT ts) (hc : lt2 c) (hf : ltE f) (hg : ltT g) (W : World) (hR : ORow W sa l) (hT : TRow W a ts) (hE : ERow W fa f) (hfc : f.length ≤ fcap) (hG : TRowC W ga g) (h1 : few20 l ts = true) (h4 : fewT g 4 10 = true) (h5 : f.length ≤ 10) (hFn : Fine k 2 l ts) (hS : ¬ sv l ts (2 ^ 2) = c) (hgn : g.length = sz) :
    Calls Try.prog 5 #[.int .i64 (k : Int), .agg #[.slice sa l.length scap, .slice a ts.length cap], .agg #[.int .u64 (c.1 : Int), .int .u64 (c.2 : Int), .slice fa f.length fcap, .slice ga g.length gcap]] W fun e w' => e = .returned (.bool true) ∧ Below W.heap.size W w' := by
  have AW := Hid.mkS awake20
  obtain ⟨f1, f2, f3⟩ := few20_true h1
  obtain ⟨f4, f5⟩ := fewT_true h4
  have hlen : ∀ t ∈ ts, t.length ≤ 1000 := fun t h => by have := f3 t h; omega
  have hd8 := hFn.d8
  have hp : ∀ i, i < sz → ofE k (pl i) := fun i hi => by
    show ofB (k : Int) ((0 : Nat) : Int) (i : Int) = true
    rw [ofB_iff _ _ _ (by omega)]
    right
    refine ⟨rfl, ?_⟩
    obtain rfl | rfl : k = 0 ∨ k = 1 := by omega
    · rw [if_pos rfl] at hsz; subst hsz; exact hi
    · rw [if_neg (by decide)] at hsz; subst hsz; exact hi
  have hs4 : sz ≤ 4 := by rw [hsz]; split <;> omega
  have HCNT : Hid (tot (fun i => cnt (okB k l ts c f g i) sz) sz ≤ 2 * dgm l * sz) := counts hFn hl ht (Nat.le_trans hs4 (by decide)) hp hS hf hg
  have HF : Hid (∀ w, Below W.heap.size W w → Calls Try.prog 14 #[.agg #[.slice sa l.length scap, .slice a ts.length cap]] w fun e w' => e = .returned (.bool true) ∧ Below w.heap.size w w') := fun w hb => by
    have := sfew20 sa a scap cap l ts w (hT.below hb)
    rw [h1] at this
    exact this
  have HG : Hid (∀ w, Below W.heap.size W w → Calls Try.prog 8 #[.slice ga g.length gcap, .int .i64 4, .int .i64 10] w fun e w' => e = .returned (.bool true) ∧ Below w.heap.size w w') := fun w hb => by
    have := sfew ga gcap 4 10 g (by decide) w (hG.t.below hb)
    rw [h4] at this
    exact this
  have HC : Hid (∀ w, Below W.heap.size W w → Calls Try.prog 24 #[.int .i64 (k : Int), .slice sa l.length scap, .slice a ts.length cap] w fun e w' => e = .returned (.int .i64 0) ∧ Below w.heap.size w w') := fun w hb => by
    have := scheck (k : Int) sa a scap cap l ts hl (by omega) (by omega) hlen ht w (hR.below hb) (hT.below hb)
    rw [hFn.zero (by omega)] at this
    exact this
  have HS : Hid (∀ w, Below W.heap.size W w → Calls Try.prog 20 #[.int .i64 (k : Int), .slice sa l.length scap, .slice a ts.length cap] w fun e w' => e = .returned (.tuple #[.agg #[.int .u64 ((sv l ts (2 ^ 2)).1 : Int), .int .u64 ((sv l ts (2 ^ 2)).2 : Int)], .int .i64 0]) ∧ Below w.heap.size w w') := fun w hb => ssum_ok hFn sa a scap cap hl (by omega) (by omega) hlen ht w (hR.below hb) (hT.below hb)
  have HRf : Hid (∀ w, Below W.heap.size W w → Calls Try.prog 15 #[.slice sa l.length scap] w fun e w' => ∃ a' cap', e = .returned (.slice a' l.length cap') ∧ ORow w' a' l ∧ Below w.heap.size w w') := fun w hb => by
    refine (rref_own sa scap l (by omega) w (hR.below hb)).mono ?_
    rintro e w' ⟨v, rfl, ho, hb'⟩
    obtain ⟨a', cap', rfl, hO⟩ := own_steps ho
    exact ⟨a', cap', rfl, hO, hb'⟩
  have HDg : Hid (∀ (w : World) (a' : Option Addr) (c' : Nat), ORow w a' l → Calls Try.prog 21 #[.slice a' l.length c'] w fun e w' => e = .returned (.int .i64 (dgm l : Int)) ∧ Below w.heap.size w w') := fun w a' c' hO => rdegree a' c' l (by omega) hFn.chk w hO
  obtain ⟨b0, off0, ra0, rc0, ha0, hb0, cb0, _⟩ := hT.cells 0 hFn.t0
  rw [Nat.add_zero, hFn.len.at hFn.t0] at cb0
  have HCB : Hid (W.cell? ⟨b0, off0, none⟩ = some (.slice ra0 4 rc0)) := cb0
  have htn0 : 0 < ts.length := hFn.t0
  have htn0' : (0 : Int) < (ts.length : Int) := by omega
  have h5' : ¬ (10 : Int) < (f.length : Int) := by omega
  have hk0 : ¬ (k : Int) < 0 := by omega
  have hk2 : ¬ 1 < (k : Int) := by omega
  have hk3 : (k : Int) < 2 := by omega
  have hk4 : (0 : Int) ≤ (k : Int) := by omega
  have hix : ∀ w : World, (w.alloc (Obj.cells #[.int .i64 2, .int .i64 4] 3)).cell? ⟨w.heap.size, k, none⟩ = some (.int .i64 (sz : Int)) := fun w => by
    obtain rfl | rfl : k = 0 ∨ k = 1 := by omega
    · rw [hsz]; simp [go_sem]
    · rw [hsz]; simp [go_sem]
  have K0 := Hid.mkS (Cx.start W sa a fa ga l.length scap ts.length cap f.length fcap g.length gcap c 45 62)
  have HP : Hid ((∀ o ∈ l, o.ok) ∧ ltT ts ∧ lt2 c ∧ ltE f ∧ ltT g ∧ ORow W sa l ∧ TRow W a ts ∧ ERow W fa f ∧ f.length ≤ fcap ∧ TRowC W ga g ∧ Fine k 2 l ts ∧ (∀ i, i < sz → ofE k (pl i)) ∧ l.length ≤ 12 ∧ ts.length ≤ 5 ∧ (∀ t ∈ ts, t.length ≤ 16) ∧ g.length ≤ 4 ∧ (∀ t ∈ g, t.length ≤ 10) ∧ f.length ≤ 10) := ⟨hl, ht, hc, hf, hg, hR, hT, hE, hfc, hG, hFn, hp, f1, f2, f3, f4, f5, h5⟩
  have HGN := Hid.mkS hgn
  have hgn2 : ((g.length : Int) != (sz : Int)) = false := by simp [hgn]
  clear hl ht hc hf hg hR hT hE hfc hG hFn hp f1 f2 f3 f4 f5 h5 h1 h4 hlen hgn cb0 hsz
  subst ha0
  generalize sv l ts (2 ^ 2) = S at *
  obtain ⟨dl, hdl⟩ : ∃ dl, dl = dgm l := ⟨_, rfl⟩
  rw [← hdl] at HDg hd8 HCNT
  have HDL := Hid.mkS hdl
  obtain ⟨ln, hln⟩ : ∃ ln, ln = l.length := ⟨_, rfl⟩
  rw [← hln] at HF HC HS HRf HDg K0 ⊢
  have HLN := Hid.mkS hln
  obtain ⟨tn, htn⟩ : ∃ tn, tn = ts.length := ⟨_, rfl⟩
  rw [← htn] at HF HC HS K0 htn0 htn0' ⊢
  have HTN := Hid.mkS htn
  obtain ⟨fn, hfn⟩ : ∃ fn, fn = f.length := ⟨_, rfl⟩
  rw [← hfn] at K0 h5' ⊢
  have HFN := Hid.mkS hfn
  obtain ⟨gn, hgnn⟩ : ∃ gn, gn = g.length := ⟨_, rfl⟩
  rw [← hgnn] at K0 HG hgn2 ⊢
  have HGNN := Hid.mkS hgnn
  clear hdl hln htn hfn hgnn
  obtain ⟨aa, haa⟩ : ∃ aa : Option Addr, aa = some ⟨b0, off0, none⟩ := ⟨_, rfl⟩
  go_enter Try.func5, Try.ntmps5
  go_upto_region 8 with (first | (go_at_call 14; refine (HF.out _ K0.out.d).mono ?_; rintro e w1 ⟨rfl, hb1⟩; have K := Hid.mkS (K0.out.below hb1); clear hb1 K0; have l0 := K.out.l0; have t0 := K.out.t0; have f0 := K.out.f0; have g0 := K.out.g0) | (go_at_call 8; refine (HG.out _ K.out.d).mono ?_; rintro e w2 ⟨rfl, hb2⟩; have K' := Hid.mkS (K.out.below hb2); clear hb2 K l0 t0 f0 g0; have K := K'; clear K'; have l0 := K.out.l0; have t0 := K.out.t0; have f0 := K.out.f0; have g0 := K.out.g0) | (go_at_call 24; refine (HC.out _ K.out.d).mono ?_; rintro e w3 ⟨rfl, hb3⟩; have K' := Hid.mkS (K.out.below hb3); have cb := keepc K'.out.d HCB.out; clear hb3 K l0 t0 f0 g0; have K := K'; clear K'; have l0 := K.out.l0; have t0 := K.out.t0; have f0 := K.out.f0; have g0 := K.out.g0) | (go_at_call 20; refine (HS.out _ K.out.d).mono ?_; rintro e w4 ⟨rfl, hb4⟩; have K' : Hid (Cx W (w4.alloc (Obj.cells #[.int .u64 (S.1 : Int), .int .u64 (S.2 : Int)] 24)) sa (some ⟨b0, off0, none⟩) fa ga ln scap tn cap fn fcap gn gcap c) := (K.out.below hb4).below ((Below.refl _ _).alloc (Nat.le_refl _) _); have KS : Hid (El (w4.alloc (Obj.cells #[.int .u64 (S.1 : Int), .int .u64 (S.2 : Int)] 24)) w4.heap.size S.1 S.2) := ⟨by simp [go_sem], by simp [go_sem]⟩; clear hb4 K l0 t0 f0 g0 cb; have K := K'; clear K'; have l0 := K.out.l0) | (go_at_call 15; refine (HRf.out _ K.out.d).mono ?_; rintro e w5 ⟨a5, c5, rfl, hR5, hb5⟩; have K' := Hid.mkS (K.out.below hb5); have KS' := Hid.mkS (KS.out.below hb5); have R5 := Hid.mkS hR5; clear hb5 K l0 KS hR5; have K := K'; have KS := KS'; clear K' KS') | (go_at_call 21; refine (HDg.out _ _ _ R5.out).mono ?_; rintro e w6 ⟨rfl, hb6⟩; have K' := Hid.mkS (K.out.below hb6); have KS' := Hid.mkS (KS.out.below hb6); clear hb6 K KS R5; have K := K'; have KS := KS'; clear K' KS'))
  have KA : Hid (Cx W (w6.alloc (Obj.cells #[.int .i64 2, .int .i64 4] 3)) sa (some ⟨b0, off0, none⟩) fa ga ln scap tn cap fn fcap gn gcap c ∧ El (w6.alloc (Obj.cells #[.int .i64 2, .int .i64 4] 3)) w4.heap.size S.1 S.2) := ⟨K.out.below ((Below.refl _ _).alloc (Nat.le_refl _) _), KS.out.below ((Below.refl _ _).alloc (Nat.le_refl _) _)⟩
  clear K KS hix HF HG HC HS HRf HDg
  generalize w6.alloc (Obj.cells #[.int .i64 2, .int .i64 4] 3) = wa at *
  generalize w4.heap.size = q7 at *
  go_cut [94] (fun p94 wx => p94 = .bool false ∧ Hid (Cx W wx sa (some ⟨b0, off0, none⟩) fa ga ln scap tn cap fn fcap gn gcap c))
  case first =>
    have e1 := KA.out.1.e1
    have e0 := KA.out.1.e0
    have g0 := KA.out.1.g0
    have s1 := KA.out.2.hi
    have s0 := KA.out.2.lo
    by_cases hs1 : (S.1 : Int) = (c.1 : Int)
    · have hs2 : ¬ (S.2 : Int) = (c.2 : Int) := fun h => hS (Prod.ext (by omega) (by omega))
      have hs1' : S.1 = c.1 := by omega
      rw [hs1'] at s1
      clear hs1 hs1' hS
      go_wp2_with fail
      go_meet
      exact ⟨by first | rfl | simp [hs2], KA.out.1⟩
    · clear hS
      go_wp2_with fail
      go_meet
      exact ⟨by first | rfl | simp [hs1], KA.out.1⟩
  case rest =>
    obtain ⟨rfl, K⟩ := hcut
    clear KA
    go_wp2_with fail
    go_loopw [11, 12] (fun n u wr => ∃ i : Nat, i ≤ sz ∧ u = .int .i64 i ∧ n = .int .i64 ((tot (fun i => cnt (okB k l ts c f g i) sz) i : Nat) : Int) ∧ Hid (Cx W wr sa (some ⟨b0, off0, none⟩) fa ga ln scap tn cap fn fcap gn gcap c)) (fun _ u _ => sz - (intOf u).toNat)
    case atStart => exact ⟨0, Nat.zero_le _, rfl, rfl, K⟩
    case round =>
      obtain ⟨i, hi, rfl, rfl, K⟩ := hrel
      by_cases hlt : i < sz
      · have i1 : (i : Int) < (sz : Int) := by omega
        obtain ⟨ti, hti⟩ : ∃ ti, ti = tot (fun i => cnt (okB k l ts c f g i) sz) i := ⟨_, rfl⟩
        have HTI := Hid.mkS hti
        have hti16 : ti ≤ 16 := by
          have h1 := tot_le (C := fun i => cnt (okB k l ts c f g i) sz) (A := fun _ => true) (s := sz) (d := 0) i fun x _ => by
            rw [if_pos rfl]
            have h2 : cnt (okB k l ts c f g x) sz ≤ cnt (fun _ => true) sz := cnt_le fun _ _ _ => rfl
            rw [cnt_all fun _ _ => rfl] at h2
            exact h2
          rw [cnt_all fun _ _ => rfl, Nat.mul_zero, Nat.add_zero, ← hti] at h1
          exact Nat.le_trans h1 (Nat.mul_le_mul (by omega : i ≤ 4) hs4)
        rw [← hti]
        clear hti
        go_wp2_with fail
        go_loopw [11, 13] (fun n u wr => ∃ j : Nat, j ≤ sz ∧ u = .int .i64 j ∧ n = .int .i64 ((ti + cnt (okB k l ts c f g i) j : Nat) : Int) ∧ Hid (Cx W wr sa (some ⟨b0, off0, none⟩) fa ga ln scap tn cap fn fcap gn gcap c)) (fun _ u _ => sz - (intOf u).toNat)
        case atStart => exact ⟨0, Nat.zero_le _, rfl, rfl, K⟩
        case round =>
          obtain ⟨j, hj, rfl, rfl, K⟩ := hrel
          by_cases hlj : j < sz
          · have j1 : (j : Int) < (sz : Int) := by omega
            have hi4 : i ≤ 4 := by omega
            have hj4 : j ≤ 4 := by omega
            have cvi : IntKind.u64.wrap (i : Int) = (i : Int) := by rw [IntKind.wrap_u64]; omega
            have cvj : IntKind.u64.wrap (j : Int) = (j : Int) := by rw [IntKind.wrap_u64]; omega
            obtain ⟨hl, ht, hc, hf, hg, hR, hT, hE, hfc, hG, hFn, hp, f1, f2, f3, f4, f5, h5⟩ := HP.out
            have hig : i < g.length := by rw [HGN.out]; exact hlt
            obtain ⟨gb, goff, ha, hac, rfl, hgb, cg, hgcap, hEg⟩ := hG.cells i hig
            have hGt := hg.at i
            have hgl : (tb g i).length ≤ 10 := f5 _ (tb_mem hig)
            have hpp : ltE [pl i, pl j] ∧ ofT k [pl i, pl j] := ⟨by intro e he; simp at he; rcases he with rfl | rfl; exact lt_pl (by omega); exact lt_pl (by omega), by intro e he; simp at he; rcases he with rfl | rfl; exact hp i hlt; exact hp j hlj⟩
            have hvs : ltE (cor (bnds ts [pl i, pl j]) 0) ∧ ofT k (cor (bnds ts [pl i, pl j]) 0) ∧ (cor (bnds ts [pl i, pl j]) 0).length = tn := ⟨ltE_cor (ltT_bnd (ltT_bnd ht _) _) 0, ofT_cor hFn.k8 (ofTs_bnd hFn.k8 (ofTs_bnd hFn.k8 hFn.oft (hp i hlt)) (hp j hlj)) 0, by rw [cor_len, bnds_len, HTN.out]⟩
            have HV : Hid (∀ (w : World) (b b' : Nat), TRowC w (some ⟨b, 0, none⟩) [f, tb g i] → ERow w (some ⟨b', 0, none⟩) [pl i, pl j] → Calls Try.prog 10 #[.int .i64 (k : Int), .int .i64 (dl : Int), .agg #[.int .u64 (c.1 : Int), .int .u64 (c.2 : Int)], .slice (some ⟨b, 0, none⟩) 2 2, .slice (some ⟨b', 0, none⟩) 2 2] w fun e w' => e = .returned (.tuple #[.agg #[.int .u64 ((vfR (k : Int) (dgm l : Int) c [f, tb g i] [pl i, pl j]).1.1 : Int), .int .u64 ((vfR (k : Int) (dgm l : Int) c [f, tb g i] [pl i, pl j]).1.2 : Int)], .int .i64 (vfR (k : Int) (dgm l : Int) c [f, tb g i] [pl i, pl j]).2]) ∧ Below w.heap.size w w') := fun w b b' h1 h2 => by
              have := sver (k : Int) (dgm l : Int) c hc (some ⟨b, 0, none⟩) (some ⟨b', 0, none⟩) 2 2 [f, tb g i] [pl i, pl j] (by simp) (by simp) (fun t h => by simp at h; rcases h with rfl | rfl <;> omega) (fun t h => by simp at h; rcases h with rfl | rfl; exact hf; exact hGt) hpp.1 w h1 h2
              rw [← HDL.out] at this ⊢
              exact this
            have HAt : Hid (∀ (m : Nat) (w : World) (ta : Option Addr) (tc b' : Nat), m < tn → ERow w ta (tb ts m) → ERow w (some ⟨b', 0, none⟩) [pl i, pl j] → Calls Try.prog 22 #[.int .i64 (k : Int), .slice ta 4 tc, .slice (some ⟨b', 0, none⟩) 2 2] w fun e w' => e = .returned (.tuple #[.agg #[.int .u64 ((el (cor (bnds ts [pl i, pl j]) 0) m).1 : Int), .int .u64 ((el (cor (bnds ts [pl i, pl j]) 0) m).2 : Int)], .int .i64 0]) ∧ Below w.heap.size w w') := fun m w ta tc b' hm h1 h2 => by
              rw [HTN.out] at hm
              have hlm : (tb ts m).length = 4 := hFn.len.at hm
              have hv : firsts (tb ts m) [pl i, pl j] = [el (cor (bnds ts [pl i, pl j]) 0) m] := by
                have e1 : el (cor (bnds ts [pl i, pl j]) 0) m = el (firsts (tb ts m) [pl i, pl j]) 0 := by
                  rw [cor_el]
                  show el (tb (bnd (bnd ts (pl i)) (pl j)) m) 0 = _
                  rw [bnd_tb _ _ m (by rw [bnd_len]; exact hm), bnd_tb _ _ m hm]
                  rfl
                rw [e1, firsts_vl [pl i, pl j] (tb ts m) (by rw [hlm]; rfl) (ht.at m) hpp.1]
                rfl
              have := at_ok k hFn.k8 ta (some ⟨b', 0, none⟩) tc 2 (tb ts m) [pl i, pl j] (ht.at m) hpp.1 (by omega) (by simp) (by rw [hlm]; rfl) (hFn.oft.at m) hpp.2 _ hv w h1 h2
              rw [hlm] at this
              exact this
            have HEv : Hid (∀ (w : World) (va : Option Addr) (vc : Nat), Below W.heap.size W w → ERow w va (cor (bnds ts [pl i, pl j]) 0) → Calls Try.prog 23 #[.int .i64 (k : Int), .slice sa ln scap, .slice va tn vc] w fun e w' => e = .returned (.tuple #[.agg #[.int .u64 ((lv l (cor (bnds ts [pl i, pl j]) 0)).1 : Int), .int .u64 ((lv l (cor (bnds ts [pl i, pl j]) 0)).2 : Int)], .int .i64 0]) ∧ Below w.heap.size w w') := fun w va vc hb hV => by
              have := xeval_ok k hFn.k8 sa va scap vc l (cor (bnds ts [pl i, pl j]) 0) hl hvs.1 (by rw [hvs.2.2]; rw [HTN.out]; omega) w (hR.below hb) hV (by omega) (by rw [hvs.2.2, HTN.out]; exact hFn.chk) hvs.2.1
              rw [hvs.2.2] at this
              rw [HLN.out]
              exact this
            have HOK : Hid (okB k l ts c f g i j = decide ((vfR (k : Int) (dgm l : Int) c [f, tb g i] [pl i, pl j]).2 = 0 ∧ lv l (cor (bnds ts [pl i, pl j]) 0) = (vfR (k : Int) (dgm l : Int) c [f, tb g i] [pl i, pl j]).1)) := rfl
            have HCN : Hid (cnt (okB k l ts c f g i) (j + 1) = cnt (okB k l ts c f g i) j + if okB k l ts c f g i j = true then 1 else 0) := rfl
            have hcn : cnt (okB k l ts c f g i) j ≤ j := by
              have h1 : cnt (okB k l ts c f g i) j ≤ cnt (fun _ => true) j := cnt_le fun _ _ _ => rfl
              rw [cnt_all fun _ _ => rfl] at h1
              exact h1
            have HVS : Hid (ltE (cor (bnds ts [pl i, pl j]) 0) ∧ (cor (bnds ts [pl i, pl j]) 0).length = tn) := ⟨hvs.1, hvs.2.2⟩
            have HTS := Hid.mkS f2
            have HTb : Hid (TRow W (some ⟨b0, off0, none⟩) ts ∧ lenT ts 4 ∧ tn = ts.length) := ⟨hT, hFn.len, HTN.out⟩
            obtain ⟨hn, hhn⟩ : ∃ hn, hn = (tb g i).length := ⟨_, rfl⟩
            rw [← hhn] at cg hgcap
            have HLH : Hid (hn = (tb g i).length ∧ fn = f.length ∧ fn ≤ fcap) := ⟨hhn, HFN.out, by rw [HFN.out]; exact hfc⟩
            have HCG : Hid (W.cell? ⟨gb, goff + i, none⟩ = some (.slice ha hn hac) ∧ hn ≤ hac) := ⟨cg, hgcap⟩
            have hz2 : W.heap.size + 1 < wr.heap.size := cell_lt K.out.e1
            have KW : Hid (Cw W (wr.alloc (Obj.cells #[.int .u64 0, .int .u64 (i : Int), .int .u64 0, .int .u64 (j : Int)] 24)) sa (some ⟨b0, off0, none⟩) fa (some ⟨gb, goff, none⟩) ln scap tn cap fn fcap gn gcap c wr.heap.size [pl i, pl j] f (tb g i) ha) := ⟨K.out.below ((Below.refl _ _).alloc (Nat.le_refl _) _), erp2 (by simp [go_sem]) (by simp [go_sem]) (by simp [go_sem]) (by simp [go_sem]), (hE.below K.out.d).below ((Below.refl _ _).alloc (Nat.le_refl _) _), (hEg.below K.out.d).below ((Below.refl _ _).alloc (Nat.le_refl _) _)⟩
            have i3 : (i : Int) < (gn : Int) := by rw [HGNN.out]; omega
            have i4 : (0 : Int) ≤ (i : Int) := by omega
            clear hl ht hc hf hg hR hT hE hfc hG hFn hp f1 f2 f3 f4 f5 h5 hEg hGt hgl hpp hvs cg hgcap hhn HP
            generalize vfR (k : Int) (dgm l : Int) c [f, tb g i] [pl i, pl j] = V at *
            generalize lv l (cor (bnds ts [pl i, pl j]) 0) = yv at *
            generalize cor (bnds ts [pl i, pl j]) 0 = vs at *
            obtain ⟨ob, hob⟩ : ∃ ob, ob = okB k l ts c f g i j := ⟨_, rfl⟩
            obtain ⟨cj, hcj⟩ : ∃ cj, cj = cnt (okB k l ts c f g i) j := ⟨_, rfl⟩
            rw [← hob] at HOK HCN
            rw [← hcj] at HCN hcn ⊢
            obtain ⟨nc, hnc⟩ : ∃ nc, nc = ti + cj := ⟨_, rfl⟩
            rw [← hnc]
            have HNC := Hid.mkS hnc
            have hsum : nc ≤ 20 := by omega
            clear hob hcj hnc
            go_upto_region 18 with fail
            obtain ⟨b14, hb14⟩ : ∃ b14, b14 = wr.heap.size := ⟨_, rfl⟩
            obtain ⟨wq, hwq⟩ : ∃ wq, wq = wr.alloc (Obj.cells #[.int .u64 0, .int .u64 (i : Int), .int .u64 0, .int .u64 (j : Int)] 24) := ⟨_, rfl⟩
            rw [← hwq, ← hb14] at KW
            rw [← hwq, ← hb14]
            clear hwq hb14 K hz2
            go_cut [15, 16] (fun p15 p16 wx => ∃ q : Nat, p15 = .pointer (some ⟨q, 0, none⟩) ∧ p16 = .int .i64 V.2 ∧ Hid (Cz W wx sa (some ⟨b0, off0, none⟩) fa (some ⟨gb, goff, none⟩) ln scap tn cap fn fcap gn gcap c q b14 V.1 [pl i, pl j]))
            case first =>
              have K := KW
              have e1 := K.out.x.e1
              have e0 := K.out.x.e0
              have f0 := K.out.x.f0
              have g0 := K.out.x.g0
              have cgw := keepc K.out.x.d HCG.out.1
              have hz : W.heap.size + 1 < wq.heap.size := cell_lt e1
              have hz0 : gb < wq.heap.size := cell_lt cgw
              have hz3 : b14 < wq.heap.size := by obtain ⟨b', off', e', h', _⟩ := K.out.r.cells 0 (by simp); simp only [Option.some.injEq, Addr.mk.injEq] at e'; omega
              go_region_held3 (fun w => w.cell? ⟨W.heap.size + 1, 0, none⟩ = some (.int .u64 (c.1 : Int)) ∧ w.cell? ⟨W.heap.size + 1, 1, none⟩ = some (.int .u64 (c.2 : Int)) ∧ w.cell? ⟨W.heap.size + 1, 2, none⟩ = some (.slice fa fn fcap) ∧ w.cell? ⟨W.heap.size + 1, 3, none⟩ = some (.slice (some ⟨gb, goff, none⟩) gn gcap) ∧ w.cell? ⟨gb, goff + i, none⟩ = some (.slice ha hn hac)) (first | (go_keep; done) | exact ⟨K.out.x.e1, K.out.x.e0, K.out.x.f0, K.out.x.g0, keepc K.out.x.d HCG.out.1⟩ | exact ⟨(K.out.x.set2 (by omega) _ _).e1, (K.out.x.set2 (by omega) _ _).e0, (K.out.x.set2 (by omega) _ _).f0, (K.out.x.set2 (by omega) _ _).g0, keepc (K.out.x.set2 (by omega) _ _).d HCG.out.1⟩) (first
                | (go_at_call 10; refine (HV.out _ _ _ (trc2 (fa := fa) (ga := ha) (fc := fcap) (gc := hac) (by rw [← HLH.out.2.1]; simp [go_sem]) (by rw [← HLH.out.1]; simp [go_sem]) (by rw [← HLH.out.2.1]; exact HLH.out.2.2) (by rw [← HLH.out.1]; exact HCG.out.2) (by repeat (first | exact K.out.f | refine ERow.below ?_ ((Below.refl _ _).alloc (Nat.le_refl _) _) | refine ERow.below ?_ (Below.refl _ _).drew)) (by repeat (first | exact K.out.h | refine ERow.below ?_ ((Below.refl _ _).alloc (Nat.le_refl _) _) | refine ERow.below ?_ (Below.refl _ _).drew))) (by repeat (first | exact K.out.r | refine ERow.below ?_ ((Below.refl _ _).alloc (Nat.le_refl _) _) | refine ERow.below ?_ (Below.refl _ _).drew))).mono ?_; rintro e w5 ⟨rfl, hb5⟩; have K' : Hid (Cw W w5 sa (some ⟨b0, off0, none⟩) fa (some ⟨gb, goff, none⟩) ln scap tn cap fn fcap gn gcap c b14 [pl i, pl j] f (tb g i) ha) := Cw.below (by repeat (first | exact K.out | (refine Cw.below ?_ ((Below.refl _ _).alloc (Nat.le_refl _) _)) | (refine Cw.below ?_ (Below.refl _ _).drew))) hb5; (first | (have B : Ew w5 wq.heap.size 0 0 := ((Ew.roomN wq _).below ((Below.refl _ _).alloc (Nat.le_refl _) _)).below hb5; have v1 := B.hi; have v0 := B.lo; have u1 := B.fhi; have u0 := B.flo) | (have B : Ew w5 wq.heap.size 0 0 := (((Ew.roomN wq _).below ((Below.refl _ _).alloc (Nat.le_refl _) _)).below (Below.refl _ _).drew).below hb5; have v1 := B.hi; have v0 := B.lo; have u1 := B.fhi; have u0 := B.flo) | (have B : Ew w5 wq.heap.size 0 0 := (((Ew.roomN wq _).below (Below.refl _ _).drew).below ((Below.refl _ _).alloc (Nat.le_refl _) _)).below hb5; have v1 := B.hi; have v0 := B.lo; have u1 := B.fhi; have u0 := B.flo) | (have B : Ew w5 (wq.heap.size + 1) 0 0 := (Ew.room2 wq _ _).below hb5; have v1 := B.hi; have v0 := B.lo; have u1 := B.fhi; have u0 := B.flo) | (have B : Ew w5 (wq.heap.size + 1) 0 0 := ((Ew.room2 wq _ _).below (Below.refl _ _).drew).below hb5; have v1 := B.hi; have v0 := B.lo; have u1 := B.fhi; have u0 := B.flo) | skip); clear hb5 K e1 e0 f0 g0 cgw; have K := K'; clear K'; have e1 := K.out.x.e1; have e0 := K.out.x.e0; have f0 := K.out.x.f0; have g0 := K.out.x.g0; have cgw := keepc K.out.x.d HCG.out.1))
              all_goals
                go_wp2_with fail
                go_meet
                first
                  | exact ⟨_, rfl, rfl, ⟨K.out.x.below ((Below.refl _ _).alloc (Nat.le_refl _) _), (Ew.newN _ V.1 _).toEl, K.out.r.below ((Below.refl _ _).alloc (Nat.le_refl _) _)⟩⟩
                  | exact ⟨_, rfl, rfl, ⟨K.out.x.set2 (by omega) _ _, Elw.put B V.1, K.out.r.set2 (by omega)⟩⟩
            case rest =>
              obtain ⟨q, rfl, rfl, K⟩ := hcut
              clear KW HV HCG HLH
              by_cases hv0 : V.2 = 0
              case neg =>
                have HN1 : Hid (cnt (okB k l ts c f g i) (j + 1) = cj) := by
                  show _ = _
                  rw [HCN.out, HOK.out, if_neg (by rw [decide_eq_true_eq]; exact fun h => hv0 h.1)]
                  rfl
                have hv0' : (V.2 != 0) = true := by simp [hv0]
                go_wp2_with fail
                refine ⟨⟨j + 1, hlj, by simp, ?_, K.out.x⟩, by simp [intOf]; omega⟩
                rw [HN1.out, HNC.out]
              have HN1 : Hid (cnt (okB k l ts c f g i) (j + 1) = cj + if yv = V.1 then 1 else 0) := by
                show _ = _
                rw [HCN.out, HOK.out]
                by_cases h : yv = V.1
                · rw [if_pos h, if_pos (by rw [decide_eq_true_eq]; exact ⟨hv0, h⟩)]
                · rw [if_neg h, if_neg (by rw [decide_eq_true_eq]; exact fun h' => h h'.2)]
              rw [hv0]
              clear hv0 HCN HOK hcn
              obtain ⟨wb, rfl⟩ : ∃ wb, wb = wc := ⟨_, rfl⟩
              obtain ⟨z0, hz0, zz0, zz1, zz2⟩ := info_elemS
              have HZ : Hid (Try.prog.info? 24 = some z0 ∧ z0.zero = some (.agg #[.int .u64 0, .int .u64 0]) ∧ z0.size = 2 ∧ z0.bytes = 16) := ⟨hz0, zz0, zz1, zz2⟩
              clear hz0 zz0 zz1 zz2
              have htn5 : tn ≤ 5 := by rw [HTN.out]; exact HTS.out
              go_wp2_with fail
              go_loopw [17, 18] (fun v u wr => ∃ m : Nat, m ≤ tn ∧ u = .int .i64 m ∧ Hid (wr.ownsRow wb.heap.size 24 2 v m (flat (vs.take m)) ∧ Below wb.heap.size wb wr)) (fun _ u _ => tn - (intOf u).toNat)
              case atStart => exact ⟨0, Nat.zero_le _, rfl, ⟨⟨by simp [flat], .inl ⟨rfl, rfl⟩⟩, Below.refl _ _⟩⟩
              case round =>
                obtain ⟨m, hm, rfl, L⟩ := hrel
                have Kr := Hid.mkS (K.out.below L.out.2)
                have t0 := Kr.out.x.t0
                have l0 := Kr.out.x.l0
                by_cases hlm : m < tn
                · obtain ⟨b', off', ta, tc, e', hb', ct, hEt⟩ := HTb.out.1.cells m (by rw [← HTb.out.2.2]; exact hlm)
                  simp only [Option.some.injEq, Addr.mk.injEq] at e'
                  obtain ⟨rfl, rfl, _⟩ := e'
                  rw [HTb.out.2.1.at (by rw [← HTb.out.2.2]; exact hlm)] at ct
                  have ctw := keepc Kr.out.x.d ct
                  have HAm : Hid (∀ w, Below W.heap.size W w → ERow w (some ⟨b14, 0, none⟩) [pl i, pl j] → Calls Try.prog 22 #[.int .i64 (k : Int), .slice ta 4 tc, .slice (some ⟨b14, 0, none⟩) 2 2] w fun e w' => e = .returned (.tuple #[.agg #[.int .u64 ((el vs m).1 : Int), .int .u64 ((el vs m).2 : Int)], .int .i64 0]) ∧ Below w.heap.size w w') := fun w hb hr => HAt.out m w ta tc b14 hlm (hEt.below hb) hr
                  have HTK : Hid (vs.take (m + 1) = vs.take m ++ [el vs m]) := take_sn vs m (by rw [HVS.out.2]; exact hlm)
                  have m1 : (m : Int) < (tn : Int) := by omega
                  have m2 : (0 : Int) ≤ (m : Int) := by omega
                  clear ct hEt
                  generalize el vs m = x at *
                  go_wp2_with (first
                    | (go_at_call 22; refine (HAm.out _ Kr.out.x.d Kr.out.r).mono ?_; rintro e w8 ⟨rfl, hb8⟩; have L8 : Hid (w8.ownsRow wb.heap.size 24 2 u17 m (flat (vs.take m)) ∧ Below wb.heap.size wb w8) := ⟨own_below L.out.1 hb8, L.out.2.trans (hb8.mono L.out.2.size)⟩; clear hb8 L Kr t0 l0 ctw)
                    | (at_builtin; refine wpList_append_own _ rfl _ _ 26 rfl wb.heap.size 24 z0 (.agg #[.int .u64 0, .int .u64 0]) 2 16 Try.underlying26 HZ.out.1 HZ.out.2.1 HZ.out.2.2.1 HZ.out.2.2.2 rfl (by decide) _ _ _ rfl (own_below L8.out.1 (by go_grown)) ⟨w8.heap.size + 1, 0, none⟩ 1 1 [.int .u64 (x.1 : Int), .int .u64 (x.2 : Int)] rfl rfl (fun p u hu => by rcases p with _ | _ | p <;> simp at hu <;> subst hu <;> simp [go_sem]) (by intro u hu; simp at hu; rcases hu with rfl | rfl <;> rfl) (by simp only [maxLen]; omega) (by omega) (by have := L8.out.2.size; simp; omega) ?_; intro v' w9 hown9 hgr9 _))
                  refine ⟨⟨m + 1, hlm, by simp, ⟨?_, ?_⟩⟩, by simp [intOf]; omega⟩
                  · rw [HTK.out, flat_snoc]; exact hown9
                  · exact ((L8.out.2.alloc L8.out.2.size _).alloc (by have := L8.out.2.size; simp; omega) _).grown hgr9 (by have := L8.out.2.size; simp; omega) fun k hk => (L8.out.1.lt k hk).1
                · obtain rfl : m = tn := by omega
                  have h1 := L.out.1
                  rw [List.take_of_length_le (by rw [HVS.out.2]; exact Nat.le_refl _)] at h1
                  rw [← HVS.out.2] at h1
                  obtain ⟨va, vc, hva, hEv⟩ := own_row h1
                  rw [HVS.out.2] at hva
                  subst hva
                  have KE : Hid (ERow wr va vs) := hEv
                  clear h1 hEv L HTb HAt HZ
                  by_cases hyv : yv = V.1
                  · have HN2 : Hid (cnt (okB k l ts c f g i) (j + 1) = cj + 1) := by show _ = _; rw [HN1.out, if_pos hyv]
                    rw [hyv] at HEv
                    clear hyv HN1
                    go_wp2_with (go_at_call 23; refine (HEv.out _ _ _ Kr.out.x.d KE.out).mono ?_; rintro e w10 ⟨rfl, hb10⟩; have K10 := Hid.mkS (Kr.out.below hb10); clear hb10 Kr t0 l0; have y1 := K10.out.y.hi; have y0 := K10.out.y.lo; have hq10 : q < w10.heap.size := K10.out.y.lt)
                    refine ⟨⟨j + 1, hlj, by simp, ?_, K10.out.x.below ((Below.refl _ _).alloc (Nat.le_refl _) _)⟩, by simp [intOf]; omega⟩
                    rw [HN2.out, ← Nat.add_assoc, ← HNC.out]
                    simp
                  · have HN2 : Hid (cnt (okB k l ts c f g i) (j + 1) = cj) := by show _ = _; rw [HN1.out, if_neg hyv]; rfl
                    clear HN1
                    by_cases g1 : (yv.1 : Int) = (V.1.1 : Int)
                    · have g2 : ¬ (yv.2 : Int) = (V.1.2 : Int) := fun h => hyv (Prod.ext (by omega) (by omega))
                      have g1' : yv.1 = V.1.1 := by omega
                      rw [g1'] at HEv
                      clear hyv g1 g1'
                      go_wp2_with (go_at_call 23; refine (HEv.out _ _ _ Kr.out.x.d KE.out).mono ?_; rintro e w10 ⟨rfl, hb10⟩; have K10 := Hid.mkS (Kr.out.below hb10); clear hb10 Kr t0 l0; have y1 := K10.out.y.hi; have y0 := K10.out.y.lo; have hq10 : q < w10.heap.size := K10.out.y.lt)
                      refine ⟨⟨j + 1, hlj, by simp, ?_, K10.out.x.below ((Below.refl _ _).alloc (Nat.le_refl _) _)⟩, by simp [intOf]; omega⟩
                      rw [HN2.out, HNC.out]
                    · clear hyv
                      go_wp2_with (go_at_call 23; refine (HEv.out _ _ _ Kr.out.x.d KE.out).mono ?_; rintro e w10 ⟨rfl, hb10⟩; have K10 := Hid.mkS (Kr.out.below hb10); clear hb10 Kr t0 l0; have y1 := K10.out.y.hi; have y0 := K10.out.y.lo; have hq10 : q < w10.heap.size := K10.out.y.lt)
                      refine ⟨⟨j + 1, hlj, by simp, ?_, K10.out.x.below ((Below.refl _ _).alloc (Nat.le_refl _) _)⟩, by simp [intOf]; omega⟩
                      rw [HN2.out, HNC.out]
          · obtain rfl : j = sz := by omega
            have j1 : ¬ (j : Int) < (j : Int) := by omega
            have i2 : i ≤ 4 := by omega
            go_wp2_with fail
            refine ⟨⟨i + 1, hlt, by simp, ?_, K⟩, by simp [intOf]; omega⟩
            rw [HTI.out]
            rfl
      · obtain rfl : i = sz := by omega
        have i1 : ¬ (i : Int) < (i : Int) := by omega
        obtain ⟨N, hN⟩ : ∃ N, N = tot (fun x => cnt (okB k l ts c f g x) i) i := ⟨_, rfl⟩
        have hdi : 2 * dl * i ≤ 64 := Nat.mul_le_mul (by omega : 2 * dl ≤ 16) (by omega : i ≤ 4)
        obtain ⟨P2, hP2⟩ : ∃ P2 : Nat, P2 = 2 * dl * i := ⟨_, rfl⟩
        have hN2 : (N : Int) ≤ (P2 : Int) := by
          have := HCNT.out
          rw [← hN, ← hP2] at this
          omega
        have hm1 : IntKind.i64.wrap (2 * (dl : Int)) = 2 * (dl : Int) := by rw [IntKind.wrap_i64]; omega
        have hm2 : (2 * (dl : Int)) * (i : Int) = (P2 : Int) := by rw [hP2]; simp
        have hm3 : IntKind.i64.wrap (P2 : Int) = (P2 : Int) := by rw [IntKind.wrap_i64]; omega
        have hm4 : wrap64 (P2 : Int) = (P2 : Int) := by unfold wrap64; omega
        rw [← hN]
        clear hN HCNT hP2 hdi
        go_wp2_with (go_at_call 9; refine (AW.out.go _).mono ?_; rintro e w7 ⟨rfl, hb7⟩; have K7 := Hid.mkS (K.out.below hb7); clear hb7)
        go_ret
        exact ⟨by first | rfl | simp [hm1, hm2, hm3, hm4, hN2], K7.out.d⟩
end Go.Proofs.Ytfhojakhoobnhaa
