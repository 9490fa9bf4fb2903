/- SumcheckCounts where the claim is the sum, or there is not a second round for each element; all of it. -/
import Derived.Test.YtfhojakhoobnhaaScS
namespace Go.Proofs.Ytfhojakhoobnhaa
open Go.RowKit
open Cb Ln Sc
open Tw (pm)

set_option maxHeartbeats 8000000 in
set_option maxRecDepth 100000 in
theorem scc_same (k sz : Nat) (hk1 : k ≤ 1) (hsz : sz = if k = 0 then 2 else 4) (sa a fa ga : Option Addr) (scap cap fcap gcap : Nat) (l : List Stp) (ts : List (List (Nat × Nat))) (c : Nat × Nat) (f : List (Nat × Nat)) (g : List (List (Nat × Nat))) (hl : ∀ o ∈ l, o.ok) (ht : ltT ts) (W : World) (hR : ORow W sa l) (hT : TRow W a ts) (hG : TRowC W ga g) (h1 : few20 l ts = true) (h4 : fewT g 4 10 = true) (h5 : f.length ≤ 10) (hFn : Fine k 2 l ts) (hno : sv l ts (2 ^ 2) = c ∨ ¬ g.length = sz) :
    Calls Try.prog 5 #[.int .i64 (k : Int), .agg #[.slice sa l.length scap, .slice a ts.length cap], .agg #[.int .u64 (c.1 : Int), .int .u64 (c.2 : Int), .slice fa f.length fcap, .slice ga g.length gcap]] W fun e w' => e = .returned (.bool true) ∧ Below W.heap.size W w' := by
  have AW := Hid.mkS awake20
  obtain ⟨f1, f2, f3⟩ := few20_true h1
  obtain ⟨f4, f5⟩ := fewT_true h4
  have hlen : ∀ t ∈ ts, t.length ≤ 1000 := fun t h => by have := f3 t h; omega
  have hd8 := hFn.d8
  have HF : Hid (∀ w, Below W.heap.size W w → Calls Try.prog 14 #[.agg #[.slice sa l.length scap, .slice a ts.length cap]] w fun e w' => e = .returned (.bool true) ∧ Below w.heap.size w w') := fun w hb => by
    have := sfew20 sa a scap cap l ts w (hT.below hb)
    rw [h1] at this
    exact this
  have HG : Hid (∀ w, Below W.heap.size W w → Calls Try.prog 8 #[.slice ga g.length gcap, .int .i64 4, .int .i64 10] w fun e w' => e = .returned (.bool true) ∧ Below w.heap.size w w') := fun w hb => by
    have := sfew ga gcap 4 10 g (by decide) w (hG.t.below hb)
    rw [h4] at this
    exact this
  have HC : Hid (∀ w, Below W.heap.size W w → Calls Try.prog 24 #[.int .i64 (k : Int), .slice sa l.length scap, .slice a ts.length cap] w fun e w' => e = .returned (.int .i64 0) ∧ Below w.heap.size w w') := fun w hb => by
    have := scheck (k : Int) sa a scap cap l ts hl (by omega) (by omega) hlen ht w (hR.below hb) (hT.below hb)
    rw [hFn.zero (by omega)] at this
    exact this
  have HS : Hid (∀ w, Below W.heap.size W w → Calls Try.prog 20 #[.int .i64 (k : Int), .slice sa l.length scap, .slice a ts.length cap] w fun e w' => e = .returned (.tuple #[.agg #[.int .u64 ((sv l ts (2 ^ 2)).1 : Int), .int .u64 ((sv l ts (2 ^ 2)).2 : Int)], .int .i64 0]) ∧ Below w.heap.size w w') := fun w hb => ssum_ok hFn sa a scap cap hl (by omega) (by omega) hlen ht w (hR.below hb) (hT.below hb)
  have HRf : Hid (∀ w, Below W.heap.size W w → Calls Try.prog 15 #[.slice sa l.length scap] w fun e w' => ∃ a' cap', e = .returned (.slice a' l.length cap') ∧ ORow w' a' l ∧ Below w.heap.size w w') := fun w hb => by
    refine (rref_own sa scap l (by omega) w (hR.below hb)).mono ?_
    rintro e w' ⟨v, rfl, ho, hb'⟩
    obtain ⟨a', cap', rfl, hO⟩ := own_steps ho
    exact ⟨a', cap', rfl, hO, hb'⟩
  have HDg : Hid (∀ (w : World) (a' : Option Addr) (c' : Nat), ORow w a' l → Calls Try.prog 21 #[.slice a' l.length c'] w fun e w' => e = .returned (.int .i64 (dgm l : Int)) ∧ Below w.heap.size w w') := fun w a' c' hO => rdegree a' c' l (by omega) hFn.chk w hO
  obtain ⟨b0, off0, ra0, rc0, ha0, hb0, cb0, _⟩ := hT.cells 0 hFn.t0
  rw [Nat.add_zero, hFn.len.at hFn.t0] at cb0
  have HCB : Hid (W.cell? ⟨b0, off0, none⟩ = some (.slice ra0 4 rc0)) := cb0
  have htn0 : 0 < ts.length := hFn.t0
  have htn0' : (0 : Int) < (ts.length : Int) := by omega
  have h5' : ¬ (10 : Int) < (f.length : Int) := by omega
  have hk0 : ¬ (k : Int) < 0 := by omega
  have hk2 : ¬ 1 < (k : Int) := by omega
  have hk3 : (k : Int) < 2 := by omega
  have hk4 : (0 : Int) ≤ (k : Int) := by omega
  have hix : ∀ w : World, (w.alloc (Obj.cells #[.int .i64 2, .int .i64 4] 3)).cell? ⟨w.heap.size, k, none⟩ = some (.int .i64 (sz : Int)) := fun w => by
    obtain rfl | rfl : k = 0 ∨ k = 1 := by omega
    · rw [hsz]; simp [go_sem]
    · rw [hsz]; simp [go_sem]
  have K0 := Hid.mkS (Cx.start W sa a fa ga l.length scap ts.length cap f.length fcap g.length gcap c 45 62)
  clear hl ht hR hT hG hFn f1 f2 f3 f4 f5 h5 h1 h4 hlen cb0 hsz
  subst ha0
  generalize sv l ts (2 ^ 2) = S at *
  obtain ⟨dl, hdl⟩ : ∃ dl, dl = dgm l := ⟨_, rfl⟩
  rw [← hdl] at HDg hd8
  obtain ⟨ln, hln⟩ : ∃ ln, ln = l.length := ⟨_, rfl⟩
  rw [← hln] at HF HC HS HRf HDg K0 ⊢
  obtain ⟨tn, htn⟩ : ∃ tn, tn = ts.length := ⟨_, rfl⟩
  rw [← htn] at HF HC HS K0 htn0 htn0' ⊢
  obtain ⟨fn, hfn⟩ : ∃ fn, fn = f.length := ⟨_, rfl⟩
  rw [← hfn] at K0 h5' ⊢
  obtain ⟨gn, hgnn⟩ : ∃ gn, gn = g.length := ⟨_, rfl⟩
  rw [← hgnn] at K0 HG hno ⊢
  clear hdl hln htn hfn hgnn
  go_enter Try.func5, Try.ntmps5
  go_upto_region 8 with (first | (go_at_call 14; refine (HF.out _ K0.out.d).mono ?_; rintro e w1 ⟨rfl, hb1⟩; have K := Hid.mkS (K0.out.below hb1); clear hb1 K0; have l0 := K.out.l0; have t0 := K.out.t0; have f0 := K.out.f0; have g0 := K.out.g0) | (go_at_call 8; refine (HG.out _ K.out.d).mono ?_; rintro e w2 ⟨rfl, hb2⟩; have K' := Hid.mkS (K.out.below hb2); clear hb2 K l0 t0 f0 g0; have K := K'; clear K'; have l0 := K.out.l0; have t0 := K.out.t0; have f0 := K.out.f0; have g0 := K.out.g0) | (go_at_call 24; refine (HC.out _ K.out.d).mono ?_; rintro e w3 ⟨rfl, hb3⟩; have K' := Hid.mkS (K.out.below hb3); have cb := keepc K'.out.d HCB.out; clear hb3 K l0 t0 f0 g0; have K := K'; clear K'; have l0 := K.out.l0; have t0 := K.out.t0; have f0 := K.out.f0; have g0 := K.out.g0) | (go_at_call 20; refine (HS.out _ K.out.d).mono ?_; rintro e w4 ⟨rfl, hb4⟩; have K' : Hid (Cx W (w4.alloc (Obj.cells #[.int .u64 (S.1 : Int), .int .u64 (S.2 : Int)] 24)) sa (some ⟨b0, off0, none⟩) fa ga ln scap tn cap fn fcap gn gcap c) := (K.out.below hb4).below ((Below.refl _ _).alloc (Nat.le_refl _) _); have KS : Hid (El (w4.alloc (Obj.cells #[.int .u64 (S.1 : Int), .int .u64 (S.2 : Int)] 24)) w4.heap.size S.1 S.2) := ⟨by simp [go_sem], by simp [go_sem]⟩; clear hb4 K l0 t0 f0 g0 cb; have K := K'; clear K'; have l0 := K.out.l0) | (go_at_call 15; refine (HRf.out _ K.out.d).mono ?_; rintro e w5 ⟨a5, c5, rfl, hR5, hb5⟩; have K' := Hid.mkS (K.out.below hb5); have KS' := Hid.mkS (KS.out.below hb5); have R5 := Hid.mkS hR5; clear hb5 K l0 KS hR5; have K := K'; have KS := KS'; clear K' KS') | (go_at_call 21; refine (HDg.out _ _ _ R5.out).mono ?_; rintro e w6 ⟨rfl, hb6⟩; have K' := Hid.mkS (K.out.below hb6); have KS' := Hid.mkS (KS.out.below hb6); clear hb6 K KS R5; have K := K'; have KS := KS'; clear K' KS'))
  have KA : Hid (Cx W (w6.alloc (Obj.cells #[.int .i64 2, .int .i64 4] 3)) sa (some ⟨b0, off0, none⟩) fa ga ln scap tn cap fn fcap gn gcap c ∧ El (w6.alloc (Obj.cells #[.int .i64 2, .int .i64 4] 3)) w4.heap.size S.1 S.2) := ⟨K.out.below ((Below.refl _ _).alloc (Nat.le_refl _) _), KS.out.below ((Below.refl _ _).alloc (Nat.le_refl _) _)⟩
  clear K KS hix HF HG HC HS HRf HDg
  generalize w6.alloc (Obj.cells #[.int .i64 2, .int .i64 4] 3) = wa at *
  generalize w4.heap.size = q7 at *
  have e1 := KA.out.1.e1
  have e0 := KA.out.1.e0
  have g0 := KA.out.1.g0
  have s1 := KA.out.2.hi
  have s0 := KA.out.2.lo
  by_cases hS : S = c
  · subst hS
    clear hno
    go_wp2_with (go_at_call 9; refine (AW.out.go _).mono ?_; rintro e w7 ⟨rfl, hb7⟩; have K7 := Hid.mkS (KA.out.1.below hb7); clear hb7)
    go_ret
    exact ⟨rfl, K7.out.d⟩
  have hgn2 : ((gn : Int) != (sz : Int)) = true := by
    rcases hno with h | h
    · exact absurd h hS
    · simp; omega
  clear hno
  by_cases hs1 : (S.1 : Int) = (c.1 : Int)
  · have hs2 : ¬ (S.2 : Int) = (c.2 : Int) := fun h => hS (Prod.ext (by omega) (by omega))
    have hs1' : S.1 = c.1 := by omega
    rw [hs1'] at s1
    clear hs1 hs1' hS
    go_wp2_with (go_at_call 9; refine (AW.out.go _).mono ?_; rintro e w7 ⟨rfl, hb7⟩; have K7 := Hid.mkS (KA.out.1.below hb7); clear hb7)
    go_ret
    exact ⟨rfl, K7.out.d⟩
  · clear hS
    go_wp2_with (go_at_call 9; refine (AW.out.go _).mono ?_; rintro e w7 ⟨rfl, hb7⟩; have K7 := Hid.mkS (KA.out.1.below hb7); clear hb7)
    go_ret
    exact ⟨rfl, K7.out.d⟩
theorem scc_any (lv : Int) (sa a fa ga : Option Addr) (scap cap fcap gcap : Nat) (l : List Stp) (ts : List (List (Nat × Nat))) (c : Nat × Nat) (f : List (Nat × Nat)) (g : List (List (Nat × Nat))) (hl : ∀ o ∈ l, o.ok) (ht : ltT ts) (hc : lt2 c) (hf : ltE f) (hg : ltT g) (W : World) (hR : ORow W sa l) (hT : TRow W a ts) (hE : ERow W fa f) (hfc : f.length ≤ fcap) (hG : TRowC W ga g) :
    Calls Try.prog 5 #[.int .i64 lv, .agg #[.slice sa l.length scap, .slice a ts.length cap], .agg #[.int .u64 (c.1 : Int), .int .u64 (c.2 : Int), .slice fa f.length fcap, .slice ga g.length gcap]] W fun e w' => e = .returned (.bool true) ∧ Below W.heap.size W w' := by
  by_cases hfar : few20 l ts = false ∨ lv < 0 ∨ 1 < lv ∨ fewT g 4 10 = false ∨ 10 < f.length
  · exact scc_far lv sa a fa ga scap cap fcap gcap l ts c f g W hT hG hfar
  have h1 : few20 l ts = true := by
    cases h : few20 l ts
    · exact absurd (Or.inl h) hfar
    · rfl
  have h2 : ¬ lv < 0 := fun h => hfar (Or.inr (Or.inl h))
  have h3 : ¬ 1 < lv := fun h => hfar (Or.inr (Or.inr (Or.inl h)))
  have h4 : fewT g 4 10 = true := by
    cases h : fewT g 4 10
    · exact absurd (Or.inr (Or.inr (Or.inr (Or.inl h)))) hfar
    · rfl
  have h5 : f.length ≤ 10 := by
    rcases Nat.lt_or_ge 10 f.length with h | h
    · exact absurd (Or.inr (Or.inr (Or.inr (Or.inr h)))) hfar
    · exact h
  by_cases hno : ¬ sck lv l ts = 0 ∨ ¬ (tb ts 0).length = 4
  · exact scc_err lv sa a fa ga scap cap fcap gcap l ts c f g hl ht W hR hT hG h1 h2 h3 h4 h5 hno
  have h6 : sck lv l ts = 0 := Classical.byContradiction fun h => hno (Or.inl h)
  have h7 : (tb ts 0).length = 4 := Classical.byContradiction fun h => hno (Or.inr h)
  obtain ⟨k, n, rfl, _, hFn⟩ := sck_zero (by have := (few20_true h1).2.1; omega) h6
  have hn : n = 2 := by
    have := hFn.len.at hFn.t0
    rw [h7] at this
    have hn12 := hFn.n12
    match n, this, hn12 with
    | 0, h, _ => simp at h
    | 1, h, _ => simp at h
    | 2, _, _ => rfl
    | n + 3, h, _ =>
      have : 2 ^ 3 ≤ 2 ^ (n + 3) := Nat.pow_le_pow_right (by decide) (by omega)
      omega
  subst hn
  by_cases hS : sv l ts (2 ^ 2) = c ∨ ¬ g.length = if k = 0 then 2 else 4
  · exact scc_same k _ (by omega) rfl sa a fa ga scap cap fcap gcap l ts c f g hl ht W hR hT hG h1 h4 h5 hFn hS
  · exact scc_main k _ (by omega) rfl sa a fa ga scap cap fcap gcap l ts c f g hl ht hc hf hg W hR hT hE hfc hG h1 h4 h5 hFn (fun h => hS (Or.inl h)) (Classical.byContradiction fun h => hS (Or.inr h))
end Go.Proofs.Ytfhojakhoobnhaa
