/- The walk of steeplelaw33.FrobLeast over the seat's translation. -/
import Derived.Test.YtakaconhoodigaaFyD
import Derived.Test.YtakaconhoodigaaFrG
import Derived.Test.YtakaconhoodigaaTwBu
import Derived.BigQuiet
namespace Go.Proofs.Ytakaconhoodigaa
open Go.RowKit
open Cb
open Tw (pm)
open Fr

/-- What lies there ahead of the loop: the element, the bits, the coefficients. -/
structure Kp (W w : World) (b6 u g n : Nat) (a : Nat × Nat) (cs : List (Nat × Nat)) : Prop where
  x : El w b6 a.1 a.2
  bits : ∀ i, i < n → w.cell? ⟨u, i, none⟩ = some (.bool (bitC cs i))
  row : ERow w (some ⟨g, 0, none⟩) cs
  d : Below W.heap.size W w
theorem Kp.below {W w w' : World} {b6 u g n : Nat} {a : Nat × Nat} {cs : List (Nat × Nat)} (h : Kp W w b6 u g n a cs) (hb : Below w.heap.size w w') : Kp W w' b6 u g n a cs := ⟨h.x.below hb, fun i hi => keepc hb (h.bits i hi), h.row.below hb, h.d.trans (hb.mono h.d.size)⟩
/-- And in the loop: 0, the sum, 1, the power. -/
structure Kz (W w : World) (b6 h u g n : Nat) (a s p : Nat × Nat) (cs : List (Nat × Nat)) : Prop where
  k : Kp W w b6 u g n a cs
  z : El w h 0 0
  s : Ew w (h + 1) s.1 s.2
  o : El w (h + 1 + 1) 0 1
  p : Ew w (h + 1 + 1 + 1) p.1 p.2
theorem Kz.below {W w w' : World} {b6 h u g n : Nat} {a s p : Nat × Nat} {cs : List (Nat × Nat)} (k : Kz W w b6 h u g n a s p cs) (hb : Below w.heap.size w w') : Kz W w' b6 h u g n a s p cs := ⟨k.k.below hb, k.z.below hb, k.s.below hb, k.o.below hb, k.p.below hb⟩
theorem Kz.drewN {W w : World} {b6 h u g n : Nat} {a s p : Nat × Nat} {cs : List (Nat × Nat)} (k : Kz W w b6 h u g n a s p cs) (m : Nat) : Kz W (w.drewN m) b6 h u g n a s p cs := by
  obtain ⟨⟨x, bits, row, d⟩, z, s, o, p⟩ := k
  exact ⟨⟨⟨x.hi, x.lo⟩, bits, ⟨row.cells⟩, ⟨d.os, d.tape, d.output, d.size, d.block⟩⟩, ⟨z.hi, z.lo⟩, ⟨⟨s.hi, s.lo⟩, s.fhi, s.flo⟩, ⟨o.hi, o.lo⟩, ⟨⟨p.hi, p.lo⟩, p.fhi, p.flo⟩⟩
theorem El.offY {w : World} {b c h l : Nat} (e : El w c h l) (hn : b ≠ c) (o o' : Nat) (u v : Value) : El ((w.setCell ⟨b, o, none⟩ u).setCell ⟨b, o', none⟩ v) c h l := by
  have hn' : c ≠ b := fun h => hn h.symm
  obtain ⟨e1, e0⟩ := e
  exact ⟨by simp [go_sem, *], by simp [go_sem, *]⟩
theorem Kp.far {W w : World} {b6 u g n : Nat} {a : Nat × Nat} {cs : List (Nat × Nat)} (k : Kp W w b6 u g n a cs) {b : Nat} (hW : W.heap.size ≤ b) (h1 : b ≠ b6) (h2 : b ≠ u) (h3 : b ≠ g) (o o' : Nat) (x y : Value) : Kp W ((w.setCell ⟨b, o, none⟩ x).setCell ⟨b, o', none⟩ y) b6 u g n a cs :=
  ⟨k.x.offY h1 _ _ _ _, fun i hi => by have := k.bits i hi; have h2' : u ≠ b := fun e => h2 e.symm; simp [go_sem, *], k.row.offE (fun g' off e => by injection e with e; injection e with e1 e2; omega) _ _ _ _, (k.d.setCell hW _).setCell hW _⟩
theorem Kz.sum {W w : World} {b6 h u g n : Nat} {a s p : Nat × Nat} {cs : List (Nat × Nat)} (k : Kz W w b6 h u g n a s p cs) (hf : W.heap.size ≤ h ∧ b6 < h ∧ u < h ∧ g < h) (z : Nat × Nat) : Kz W ((w.setCell ⟨h + 1, 0, none⟩ (.int .u64 (z.1 : Int))).setCell ⟨h + 1, 1, none⟩ (.int .u64 (z.2 : Int))) b6 h u g n a z p cs :=
  ⟨k.k.far (by omega) (by omega) (by omega) (by omega) _ _ _ _, k.z.offY (by omega) _ _ _ _, k.s.set _ _, k.o.offY (by omega) _ _ _ _, k.p.other (by omega) _ _⟩
theorem Kz.pow {W w : World} {b6 h u g n : Nat} {a s p : Nat × Nat} {cs : List (Nat × Nat)} (k : Kz W w b6 h u g n a s p cs) (hf : W.heap.size ≤ h ∧ b6 < h ∧ u < h ∧ g < h) (z : Nat × Nat) : Kz W ((w.setCell ⟨h + 1 + 1 + 1, 0, none⟩ (.int .u64 (z.1 : Int))).setCell ⟨h + 1 + 1 + 1, 1, none⟩ (.int .u64 (z.2 : Int))) b6 h u g n a s z cs :=
  ⟨k.k.far (by omega) (by omega) (by omega) (by omega) _ _ _ _, k.z.offY (by omega) _ _ _ _, k.s.other (by omega) _ _, k.o.offY (by omega) _ _ _ _, k.p.set _ _⟩
theorem Kz.start {W w w' : World} {b6 u g n : Nat} {a : Nat × Nat} {cs : List (Nat × Nat)} (k : Kp W w b6 u g n a cs) (hb : Below w.heap.size w w') (z : El w' w.heap.size 0 0) (s : Ew w' (w.heap.size + 1) 0 0) (o : El w' (w.heap.size + 1 + 1) 0 1) (p : Ew w' (w.heap.size + 1 + 1 + 1) 0 1) : Kz W w' b6 w.heap.size u g n a (0, 0) (0, 1) cs := ⟨k.below hb, z, s, o, p⟩
set_option maxHeartbeats 8000000 in
set_option maxRecDepth 100000 in
theorem fz_no (l : Int) (a : Nat × Nat) (HL : Hid (Ret 30 #[.int .i64 l, .agg #[.int .u64 (a.1 : Int), .int .u64 (a.2 : Int)]] (.slice none 0 0))) (HO : Hid (Ret 11 #[.int .i64 l, .agg #[.int .u64 (a.1 : Int), .int .u64 (a.2 : Int)]] (.bool false))) : Ret 8 #[.int .i64 l, .agg #[.int .u64 (a.1 : Int), .int .u64 (a.2 : Int)]] (.bool true) := by
  intro W
  have HA := hidF awake33
  go_enter Try.func8, Try.ntmps8
  go_wp2_with (first | (go_at_call 30; refine (HL.out.go _).mono ?_; rintro e w1 ⟨rfl, hb1⟩; have K1 : Hid (El w1 W.heap.size a.1 a.2 ∧ Below W.heap.size W w1) := ⟨El.below ⟨by simp [go_sem], by simp [go_sem]⟩ hb1, ((Below.refl _ _).alloc (Nat.le_refl _) _).trans (hb1.mono (by simp))⟩; clear hb1; obtain ⟨x1, x0⟩ := K1.out.1) | (go_at_call 11; refine (HO.out.go _).mono ?_; rintro e w2 ⟨rfl, hb2⟩; have K2 : Hid (Below W.heap.size W w2) := (K1.out.2.alloc K1.out.2.size _).trans (hb2.mono (by have := K1.out.2.size; simp; omega)); clear hb2) | (go_at_call 12; refine (HA.out.go _).mono ?_; rintro e w3 ⟨rfl, hb3⟩))
  go_ret
  exact ⟨by rfl, K2.out.trans (hb3.mono K2.out.size)⟩
set_option maxHeartbeats 20000000 in
set_option maxRecDepth 100000 in
theorem fz_yes (l : Int) (a : Nat × Nat) (M n : Nat) (cs : List (Nat × Nat)) (hn : n = M + 1) (hM : M ≤ 128) (hlen : cs.length = n) (hbits : Hid (∀ j, el cs j = (0, 0) ∨ el cs j = (0, 1))) (hz : Hid (evl cs a n = (0, 0))) (m : Int) (la : Hid (lt2 a))
    (HL : Hid (∀ W, Calls Try.prog 30 #[.int .i64 l, .agg #[.int .u64 (a.1 : Int), .int .u64 (a.2 : Int)]] W fun e w' => ∃ u, e = .returned (.slice (some ⟨u, 0, none⟩) n n) ∧ (∀ i, i < n → w'.cell? ⟨u, i, none⟩ = some (.bool (bitC cs i))) ∧ Below W.heap.size W w'))
    (HO : Hid (Ret 11 #[.int .i64 l, .agg #[.int .u64 (a.1 : Int), .int .u64 (a.2 : Int)]] (.bool true)))
    (HR : Hid (∀ W, Calls Try.prog 31 #[.int .i64 l, .agg #[.int .u64 (a.1 : Int), .int .u64 (a.2 : Int)]] W fun e w' => ∃ g cap, e = .returned (.slice (some ⟨g, 0, none⟩) n cap) ∧ ERow w' (some ⟨g, 0, none⟩) cs ∧ Below W.heap.size W w'))
    (HLv : Hid (Ret 32 #[.agg #[.int .u64 (a.1 : Int), .int .u64 (a.2 : Int)]] (.int .i64 m))) (HT : Hid (Ret 13 #[.int .i64 m] (.int .i64 (M : Int)))) : Ret 8 #[.int .i64 l, .agg #[.int .u64 (a.1 : Int), .int .u64 (a.2 : Int)]] (.bool true) := by
  intro W
  have HA := hidF awake33
  have hnM : (n : Int) = (M : Int) + 1 := by omega
  have HNM := hidF hnM
  have HNN := hidF hn
  have hM1 : (M : Int) ≤ 128 := by omega
  clear hnM hn
  go_enter Try.func8, Try.ntmps8
  go_upto_region 6 with (first
    | (go_at_call 30; refine (HL.out _).mono ?_; rintro e w1 ⟨u, rfl, hu, hb1⟩; have K1 : Hid (El w1 W.heap.size a.1 a.2 ∧ (∀ i, i < n → w1.cell? ⟨u, i, none⟩ = some (.bool (bitC cs i))) ∧ Below W.heap.size W w1) := ⟨El.below ⟨by simp [go_sem], by simp [go_sem]⟩ hb1, hu, ((Below.refl _ _).alloc (Nat.le_refl _) _).trans (hb1.mono (by simp))⟩; clear hb1 hu HL; obtain ⟨x1, x0⟩ := K1.out.1)
    | (go_at_call 11; refine (HO.out.go _).mono ?_; rintro e w2 ⟨rfl, hb2⟩; have K2 : Hid (El w2 w1.heap.size a.1 a.2 ∧ (∀ i, i < n → w2.cell? ⟨u, i, none⟩ = some (.bool (bitC cs i))) ∧ Below W.heap.size W w2) := ⟨El.below ⟨by simp [go_sem], by simp [go_sem]⟩ hb2, fun i hi => keepc ((below_alF w1 _).trans (hb2.mono (by simp))) (K1.out.2.1 i hi), (K1.out.2.2.alloc K1.out.2.2.size _).trans (hb2.mono (by have := K1.out.2.2.size; simp; omega))⟩; clear hb2 x1 x0 K1 HO; obtain ⟨x1, x0⟩ := K2.out.1)
    | (go_at_call 31; refine (HR.out _).mono ?_; rintro e w3 ⟨g, cap, rfl, hr3, hb3⟩; have K3 : Hid (Kp W w3 w1.heap.size u g n a cs) := ⟨K2.out.1.below hb3, fun i hi => keepc hb3 (K2.out.2.1 i hi), hr3, K2.out.2.2.trans (hb3.mono K2.out.2.2.size)⟩; clear hb3 hr3 x1 x0 K2 HR; obtain ⟨x1, x0⟩ := K3.out.x))
  generalize w1.heap.size = b6 at *
  have hnM' := HNM.out
  go_upto_region 11 with (first
    | (go_at_call 32; refine (HLv.out.go _).mono ?_; rintro e w4 ⟨rfl, hb4⟩; have K4 := hidF (K3.out.below hb4); clear hb4 K3 x1 x0)
    | (go_at_call 13; refine (HT.out.go _).mono ?_; rintro e w5 ⟨rfl, hb5⟩; have K5 := hidF (K4.out.below hb5); clear hb5 K4))
  clear hnM'
  have hn0 : 0 < n := by have := HNN.out; omega
  have hf : W.heap.size ≤ w5.heap.size ∧ b6 < w5.heap.size ∧ u < w5.heap.size ∧ g < w5.heap.size := ⟨K5.out.d.size, cell_lt K5.out.x.hi, cell_lt (K5.out.bits 0 hn0), K5.out.row.lt0 (by omega)⟩
  have KS : Hid (Kz W ((((w5.alloc (Obj.cells #[.int .u64 0, .int .u64 0] 25)).alloc (Obj.cells #[.int .u64 0, .int .u64 0] 25)).alloc (Obj.cells #[.int .u64 0, .int .u64 1] 25)).alloc (Obj.cells #[.int .u64 0, .int .u64 1] 25)) b6 w5.heap.size u g n a (0, 0) (0, 1) cs) := Kz.start K5.out (by go_grown) ⟨by simp [go_sem], by simp [go_sem]⟩ ⟨⟨by simp [go_sem], by simp [go_sem]⟩, by simp [go_sem], by simp [go_sem]⟩ ⟨by simp [go_sem], by simp [go_sem]⟩ ⟨⟨by simp [go_sem], by simp [go_sem]⟩, by simp [go_sem], by simp [go_sem]⟩
  clear K5
  generalize ((((w5.alloc (Obj.cells #[.int .u64 0, .int .u64 0] 25)).alloc (Obj.cells #[.int .u64 0, .int .u64 0] 25)).alloc (Obj.cells #[.int .u64 0, .int .u64 1] 25)).alloc (Obj.cells #[.int .u64 0, .int .u64 1] 25)) = w6 at *
  generalize w5.heap.size = h at *
  obtain ⟨sm, hsm⟩ : ∃ sm : Nat → Nat × Nat, ∀ i, sm i = evl cs a i := ⟨_, fun _ => rfl⟩
  obtain ⟨pw, hpw⟩ : ∃ pw : Nat → Nat × Nat, ∀ i, pw i = pwx a i := ⟨_, fun _ => rfl⟩
  have HSZ : Hid (sm 0 = (0, 0) ∧ pw 0 = (0, 1) ∧ sm n = (0, 0)) := ⟨by rw [hsm]; rfl, by rw [hpw]; rfl, by rw [hsm]; exact hz.out⟩
  have HS0 : Hid (∀ i, el cs i = (0, 0) → sm (i + 1) = sm i) := fun i e => by
    rw [hsm, hsm]
    show xa (evl cs a i) (pm (el cs i) (pwx a i)) = _
    rw [e, zero_pmL, xa_comm, zero_xa]
  have HS1 : Hid (∀ i, el cs i = (0, 1) → sm (i + 1) = xa (sm i) (pw i)) := fun i e => by
    rw [hsm, hsm, hpw]
    show xa (evl cs a i) (pm (el cs i) (pwx a i)) = _
    rw [e, one_pm (lt_pwx a i)]
  have HP1 : Hid (∀ i, pw (i + 1) = pm (pw i) a) := fun i => by rw [hpw, hpw]; rfl
  have HLT : Hid (∀ i, lt2 (sm i) ∧ lt2 (pw i)) := fun i => by rw [hsm, hpw]; exact ⟨lt_evl _ _ _, lt_pwx _ _⟩
  clear hsm hpw hz HLv HT
  go_wp2_with fail
  go_loopw [12] (fun v wr => ∃ i : Nat, i ≤ n ∧ v = .int .i64 i ∧ Hid (Kz W wr b6 h u g n a (sm i) (pw i) cs)) (fun v _ => n - (intOf v).toNat)
  case atStart => exact ⟨0, Nat.zero_le _, rfl, by rw [HSZ.out.1, HSZ.out.2.1]; exact KS.out⟩
  case round =>
    obtain ⟨i, hi, rfl, HK⟩ := hrel
    clear KS
    by_cases hlt : i < n
    · have i1 : (i : Int) < (n : Int) := by omega
      have n9 : (n : Int) ≤ 200 := by have := HNN.out; omega
      have i0' : (0 : Int) ≤ (i : Int) := by omega
      have PR : Hid (Ret 16 #[.agg #[.int .u64 ((pw i).1 : Int), .int .u64 ((pw i).2 : Int)], .agg #[.int .u64 (a.1 : Int), .int .u64 (a.2 : Int)]] (.agg #[.int .u64 ((pw (i + 1)).1 : Int), .int .u64 ((pw (i + 1)).2 : Int)])) := by
        rw [HP1.out]
        exact rproduct_any _ _ _ _ (HLT.out i).2.1 (HLT.out i).2.2 la.out.1 la.out.2
      have AD : Hid (Ret 29 #[.agg #[.int .u64 ((sm i).1 : Int), .int .u64 ((sm i).2 : Int)], .agg #[.int .u64 ((pw i).1 : Int), .int .u64 ((pw i).2 : Int)]] (.agg #[.int .u64 ((xa (sm i) (pw i)).1 : Int), .int .u64 ((xa (sm i) (pw i)).2 : Int)])) := radd _ _ _ _ (HLT.out i).1.1 (HLT.out i).1.2 (HLT.out i).2.1 (HLT.out i).2.2
      have HFC : Hid (∀ w : World, ∀ {s p : Nat × Nat}, Kz W w b6 h u g n a s p cs → w.cell? ⟨u, i, none⟩ = some (.bool (bitC cs i)) ∧ w.cell? ⟨g, i * 2, none⟩ = some (.int .u64 ((el cs i).1 : Int)) ∧ w.cell? ⟨g, i * 2 + 1, none⟩ = some (.int .u64 ((el cs i).2 : Int)) ∧ w.cell? ⟨h, 0, none⟩ = some (.int .u64 0) ∧ w.cell? ⟨h, 1, none⟩ = some (.int .u64 0) ∧ w.cell? ⟨h + 1 + 1, 0, none⟩ = some (.int .u64 0) ∧ w.cell? ⟨h + 1 + 1, 1, none⟩ = some (.int .u64 1) ∧ w.cell? ⟨b6, 0, none⟩ = some (.int .u64 (a.1 : Int)) ∧ w.cell? ⟨b6, 1, none⟩ = some (.int .u64 (a.2 : Int))) := fun w s p k => by
        obtain ⟨b, off, e, _, c1, c0⟩ := k.k.row.cells i (by omega)
        injection e with e; injection e with e1 e2; subst e1; subst e2
        rw [Nat.zero_add] at c1 c0
        exact ⟨k.k.bits i hlt, c1, c0, k.z.hi, k.z.lo, k.o.hi, k.o.lo, k.k.x.hi, k.k.x.lo⟩
      rcases hbits.out i with hb | hb
      · rw [hb, show bitC cs i = false from by unfold bitC; rw [hb]; rfl] at HFC
        have HB := hidF (HS0.out i hb)
        clear hb
        obtain ⟨d1, d2, d3, d4, d5, d6, d7, d8, d9⟩ := HFC.out wr HK.out
        replace d2 : wr.cell? ⟨g, i * 2, none⟩ = some (.int .u64 0) := d2
        replace d3 : wr.cell? ⟨g, i * 2 + 1, none⟩ = some (.int .u64 0) := d3
        go_upto_region 14 with fail
        go_quiet (fail)
        have KQ := hidF (HK.out.drewN nq)
        clear d1 d2 d3 d4 d5 d6 d7 d8 d9 HK
        generalize wr.drewN nq = wd at *
        obtain ⟨d1, d2, d3, d4, d5, d6, d7, d8, d9⟩ := HFC.out wd KQ.out
        replace d2 : wd.cell? ⟨g, i * 2, none⟩ = some (.int .u64 0) := d2
        replace d3 : wd.cell? ⟨g, i * 2 + 1, none⟩ = some (.int .u64 0) := d3
        obtain ⟨⟨p1, p0⟩, q1, q0⟩ := KQ.out.p
        go_wp2_with (go_at_call 16; refine (PR.out.go _).mono ?_; rintro e w7 ⟨rfl, hb7⟩; have K7 := hidF (KQ.out.below hb7); clear hb7 KQ p1 p0 q1 q0 d1 d2 d3 d4 d5 d6 d7 d8 d9; obtain ⟨⟨p1, p0⟩, q1, q0⟩ := K7.out.p)
        exact ⟨⟨i + 1, hlt, by go_num, by rw [HB.out]; exact K7.out.pow hf _⟩, by simp [intOf]; omega⟩
      · rw [hb, show bitC cs i = true from by unfold bitC; rw [hb]; rfl] at HFC
        have HB := hidF (HS1.out i hb)
        clear hb
        obtain ⟨d1, d2, d3, d4, d5, d6, d7, d8, d9⟩ := HFC.out wr HK.out
        replace d2 : wr.cell? ⟨g, i * 2, none⟩ = some (.int .u64 0) := d2
        replace d3 : wr.cell? ⟨g, i * 2 + 1, none⟩ = some (.int .u64 1) := d3
        go_upto_region 14 with fail
        go_quiet (fail)
        have KQ := hidF (HK.out.drewN nq)
        clear d1 d2 d3 d4 d5 d6 d7 d8 d9 HK
        generalize wr.drewN nq = wd at *
        obtain ⟨d1, d2, d3, d4, d5, d6, d7, d8, d9⟩ := HFC.out wd KQ.out
        replace d2 : wd.cell? ⟨g, i * 2, none⟩ = some (.int .u64 0) := d2
        replace d3 : wd.cell? ⟨g, i * 2 + 1, none⟩ = some (.int .u64 1) := d3
        obtain ⟨⟨p1, p0⟩, q1, q0⟩ := KQ.out.p
        obtain ⟨⟨s1, s0⟩, t1, t0⟩ := KQ.out.s
        go_upto_region 18 with (go_at_call 29; refine (AD.out.go _).mono ?_; rintro e w7 ⟨rfl, hb7⟩; have K7 := hidF (KQ.out.below hb7); clear hb7 KQ p1 p0 q1 q0 s1 s0 t1 t0 d1 d2 d3 d4 d5 d6 d7 d8 d9; obtain ⟨⟨s1, s0⟩, t1, t0⟩ := K7.out.s)
        rw [← HB.out]
        have K8 := hidF (K7.out.sum hf (sm (i + 1)))
        clear K7 s1 s0 t1 t0
        generalize ((w7.setCell ⟨h + 1, 0, none⟩ (.int .u64 ((sm (i + 1)).1 : Int))).setCell ⟨h + 1, 1, none⟩ (.int .u64 ((sm (i + 1)).2 : Int))) = wd at *
        obtain ⟨d1, d2, d3, d4, d5, d6, d7, d8, d9⟩ := HFC.out wd K8.out
        replace d2 : wd.cell? ⟨g, i * 2, none⟩ = some (.int .u64 0) := d2
        replace d3 : wd.cell? ⟨g, i * 2 + 1, none⟩ = some (.int .u64 1) := d3
        obtain ⟨⟨p1, p0⟩, q1, q0⟩ := K8.out.p
        go_wp2_with (go_at_call 16; refine (PR.out.go _).mono ?_; rintro e w9 ⟨rfl, hb9⟩; have K9 := hidF (K8.out.below hb9); clear hb9 K8 p1 p0 q1 q0 d1 d2 d3 d4 d5 d6 d7 d8 d9; obtain ⟨⟨p1, p0⟩, q1, q0⟩ := K9.out.p)
        exact ⟨⟨i + 1, hlt, by go_num, K9.out.pow hf _⟩, by simp [intOf]; omega⟩
    · obtain rfl : i = n := by omega
      rw [HSZ.out.2.2] at HK
      go_wp2_with (go_at_call 12; refine (HA.out.go _).mono ?_; rintro e w7 ⟨rfl, hb7⟩; have K7 := hidF (HK.out.below hb7); clear hb7 HK; obtain ⟨⟨s1, s0⟩, _, _⟩ := K7.out.s; obtain ⟨z1, z0⟩ := K7.out.z)
      go_ret
      exact ⟨by rfl, K7.out.k.d⟩
end Go.Proofs.Ytakaconhoodigaa
