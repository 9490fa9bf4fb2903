/- Contracts of ring.Mask, of the statements' few and of the worked example over the seat's translation. -/
import Derived.Test.YtbomgcmmfeahiaaRgE
namespace Go.Proofs.Ytbomgcmmfeahiaa
open Go.RowKit
open Cb
open Rg
open Tw (pm)

set_option maxHeartbeats 2000000 in
theorem rmask_err (l : Int) (a c : Option Addr) (cap cap2 : Nat) (t p : List (Nat × Nat)) (ht : ltE t) (hp : ltE p) (h1 : t.length ≤ 1000) (h2 : p.length ≤ 1000) (E : Int) (hE : rgm l t p = E) (h0 : ¬ E = 0) (W : World) (ha : ERow W a t) (hc : ERow W c p) :
    Calls Try.prog 24 #[.int .i64 l, .slice a t.length cap, .slice c p.length cap2] W fun e w' => e = .returned (.tuple #[.slice none 0 0, .int .i64 E]) ∧ Below W.heap.size W w' := by
  have HH : Hid (∀ w, Below W.heap.size W w → Calls Try.prog 44 #[.int .i64 l, .slice a t.length cap, .slice c p.length cap2] w fun e w' => e = .returned (.int .i64 E) ∧ Below w.heap.size w w') := fun w hb => by
    have := rmhind l a c cap cap2 t p ht hp (by omega) (by omega) w (ha.below hb) (hc.below hb)
    rw [hE] at this
    exact this
  clear ha hc ht hp h1 h2 hE
  go_enter Try.func24, Try.ntmps24
  go_wp2_with (go_at_call 44; refine (HH.out _ (Below.refl _ _)).mono ?_; rintro e w1 ⟨rfl, hb1⟩)
  refine bodyPost_ret (v := .tuple #[.slice none 0 0, .int .i64 E]) (by simp [results, Try.results24, go_sem, *]) rfl ⟨rfl, hb1⟩
/-- The mask that is made in place of the weights. -/
structure Ms (W w : World) (g cp q : Nat) (L : List (Nat × Nat)) : Prop where
  own : w.ownsRow W.heap.size 42 2 (.slice (some ⟨g, 0, none⟩) q cp) q (flat L)
  d : Below W.heap.size W w
theorem Ms.below {W w w' : World} {g cp q : Nat} {L : List (Nat × Nat)} (h : Ms W w g cp q L) (hb : Below w.heap.size w w') : Ms W w' g cp q L := ⟨own_below h.own hb, h.d.trans (hb.mono h.d.size)⟩
theorem Ms.alloc {W w : World} {g cp q : Nat} {L : List (Nat × Nat)} (h : Ms W w g cp q L) (o : Obj) : Ms W (w.alloc o) g cp q L := h.below ((Below.refl _ _).alloc (Nat.le_refl _) o)
theorem Ms.put {W w : World} {g cp q : Nat} {L : List (Nat × Nat)} (h : Ms W w g cp q L) (i : Nat) (hi : i < L.length) (r : Nat × Nat) :
    Ms W ((w.setCell ⟨g, i * 2, none⟩ (.int .u64 (r.1 : Int))).setCell ⟨g, i * 2 + 1, none⟩ (.int .u64 (r.2 : Int))) g cp q (L.set i r) := by
  have hg : W.heap.size ≤ g := (h.own.lt g rfl).1
  refine ⟨?_, (h.d.setCell hg _).setCell hg _⟩
  have := own_setR (own_setR h.own (i * 2) (.int .u64 (r.1 : Nat))) (i * 2 + 1) (.int .u64 (r.2 : Nat))
  rw [flat_put L r i hi] at this
  exact this
theorem Ms.facts {W w : World} {g cp q : Nat} {L : List (Nat × Nat)} (h : Ms W w g cp q L) (i : Nat) (hi : i < q) (hl : L.length = q) :
    w.cell? ⟨g, i * 2, none⟩ = some (.int .u64 ((el L i).1 : Int)) ∧ w.cell? ⟨g, i * 2 + 1, none⟩ = some (.int .u64 ((el L i).2 : Int)) ∧ w.frozen? ⟨g, i * 2, none⟩ = false ∧ w.frozen? ⟨g, i * 2 + 1, none⟩ = false := by
  obtain ⟨h1, f1⟩ := own_cellR h.own (i * 2) (by omega)
  obtain ⟨h0, f0⟩ := own_cellR h.own (i * 2 + 1) (by omega)
  rw [(flat_at L i (by omega)).1] at h1
  rw [(flat_at L i (by omega)).2] at h0
  exact ⟨h1, h0, f1, f0⟩
theorem mdv_msk (N : Nat) (hi r : List (Nat × Nat)) (x : Nat) : mdv N (wts r N) (wt hi x) = msk N hi r x := by
  unfold mdv msk
  exact xs_congr N fun u hu => by rw [wts_at r N hu]
set_option maxHeartbeats 20000000 in
set_option maxRecDepth 100000 in
theorem rmask_ok (k : Nat) (hk : k < 8) (a c : Option Addr) (cap cap2 j N q : Nat) (hi r : List (Nat × Nat)) (hh : ltE hi) (hr : ltE r) (hj : hi.length = j) (hj2 : j ≤ 12) (hl : r.length = k) (hN : N = 2 ^ k) (hq : 2 ^ j = q) (oh : ofT k hi) (or : ofT k r) (W : World) (ha : ERow W a hi) (hc : ERow W c r) :
    Calls Try.prog 24 #[.int .i64 (k : Int), .slice a j cap, .slice c k cap2] W fun e w' => ∃ g cp, e = .returned (.tuple #[.slice (some ⟨g, 0, none⟩) q cp, .int .i64 0]) ∧ ERow w' (some ⟨g, 0, none⟩) (msks N hi r q) ∧ Below W.heap.size W w' := by
  have hN1 : N ≤ 128 := by rw [hN]; exact Nat.le_trans (Nat.pow_le_pow_right (by decide) (show k ≤ 7 by omega)) (by decide)
  have hq1 : q ≤ 4096 := by rw [← hq]; exact Nat.le_trans (Nat.pow_le_pow_right (by decide) hj2) (by decide)
  have HH : Hid (∀ w, Below W.heap.size W w → Calls Try.prog 44 #[.int .i64 (k : Int), .slice a j cap, .slice c k cap2] w fun e w' => e = .returned (.int .i64 0) ∧ Below w.heap.size w w') := fun w hb => by
    have := rmhind (k : Int) a c cap cap2 hi r hh hr (by omega) (by omega) w (ha.below hb) (hc.below hb)
    rw [rgm_mk hk (by omega) hl oh or, hj, hl] at this
    exact this
  have HW1 : Hid (∀ w, Below W.heap.size W w → Calls Try.prog 32 #[.int .i64 (k : Int), .slice c k cap2] w fun e w' => ∃ g cp, e = .returned (.slice (some ⟨g, 0, none⟩) N cp) ∧ ERow w' (some ⟨g, 0, none⟩) (wts r N) ∧ Below w.heap.size w w') := fun w hb => by
    refine (cwts k hk c cap2 k N r hr hl (by omega) hN.symm or w (hc.below hb)).mono ?_
    rintro e w' ⟨g, cp, rfl, h3, h4⟩
    refine ⟨g, cp, rfl, ?_, h4⟩
    obtain ⟨a', cap', e', h5⟩ := own_row (es := wts r N) (by rw [wts_len]; exact h3)
    injection e' with e1
    rw [e1]; exact h5
  have HW2 : Hid (∀ w, Below W.heap.size W w → Calls Try.prog 32 #[.int .i64 (k : Int), .slice a j cap] w fun e w' => ∃ g cp, e = .returned (.slice (some ⟨g, 0, none⟩) q cp) ∧ Ms w w' g cp q (wts hi q)) := fun w hb => by
    refine (cwts k hk a cap j q hi hh hj hj2 hq oh w (ha.below hb)).mono ?_
    rintro e w' ⟨g, cp, rfl, h3, h4⟩
    exact ⟨g, cp, rfl, h3, h4⟩
  have HAP : Hid (∀ (w : World) (g cp x : Nat), ERow w (some ⟨g, 0, none⟩) (wts r N) → Calls Try.prog 45 #[.slice (some ⟨g, 0, none⟩) N cp, .agg #[.int .u64 ((wt hi x).1 : Int), .int .u64 ((wt hi x).2 : Int)]] w fun e w' => e = .returned (.tuple #[.agg #[.int .u64 ((msk N hi r x).1 : Int), .int .u64 ((msk N hi r x).2 : Int)], .int .i64 0]) ∧ Below w.heap.size w w') := fun w g cp x hw => by
    have := sapply (some ⟨g, 0, none⟩) cp (wts r N) (wt hi x) (lt_wts r N) (lt_wt hi x) (by rw [wts_len]; exact hN1) (by rw [wts_len, hN]; exact lng_of hk (lt_wt hi x) (of_wt hk oh x)) (msk N hi r x) (by rw [wts_len]; exact mdv_msk N hi r x) w hw
    rw [wts_len] at this
    exact this
  clear ha hc hh hr oh or hj hl hN hq
  go_enter Try.func24, Try.ntmps24
  go_wp2_with (first
    | (go_at_call 44; refine (HH.out _ (Below.refl _ _)).mono ?_; rintro e w0 ⟨rfl, hb0⟩; have D0 : Hid (Below W.heap.size W w0) := hb0; clear hb0 HH)
    | (go_at_call_of 32 (#[.int .i64 (k : Int), .slice c k cap2] : Array Value); refine (HW1.out _ D0.out).mono ?_; rintro e w1 ⟨gb, cb, rfl, hr1, hb1⟩; have D1 : Hid (Below W.heap.size W w1 ∧ ERow w1 (some ⟨gb, 0, none⟩) (wts r N)) := ⟨D0.out.trans (hb1.mono D0.out.size), hr1⟩; clear hb1 hr1 D0 HW1)
    | (go_at_call 32; refine (HW2.out _ D1.out.1).mono ?_; rintro e w2 ⟨g, cp, rfl, hk2⟩; have K0 : Hid (Ms w1 w2 g cp q (wts hi q)) := hk2; clear hk2 HW2))
  go_loopw [29] (fun u wr => ∃ (x : Nat) (L : List (Nat × Nat)), x ≤ q ∧ u = .int .i64 x ∧ Hid (L.length = q ∧ ∀ c, c < q → el L c = if c < x then msk N hi r c else wt hi c) ∧ Hid (Ms w1 wr g cp q L)) (fun u _ => q - (intOf u).toNat)
  case atStart => exact ⟨0, wts hi q, Nat.zero_le _, rfl, ⟨wts_len hi q, fun c hc => by rw [if_neg (by omega)]; exact wts_at hi q hc⟩, K0⟩
  case round =>
    obtain ⟨x, L, hx, rfl, HL, HK⟩ := hrel
    clear K0
    by_cases hlt : x < q
    · have x1 : (x : Int) < (q : Int) := by omega
      have x0 : (0 : Int) ≤ (x : Int) := by omega
      have HE : Hid (el L x = wt hi x) := by show _ = _; rw [HL.out.2 x hlt, if_neg (by omega)]
      obtain ⟨c1, c0, _, _⟩ := HK.out.facts x hlt HL.out.1
      rw [HE.out] at c1 c0
      have A1 := hidT (fun w g cp => HAP.out w g cp x)
      obtain ⟨m, hm⟩ : ∃ m, m = msk N hi r x := ⟨_, rfl⟩
      rw [← hm] at A1
      have HM : Hid (m = msk N hi r x) := hm
      clear hm
      generalize wt hi x = y at *
      go_wp2_with (go_at_call 45; refine (A1.out _ gb cb (D1.out.2.below HK.out.d)).mono ?_; rintro e w3 ⟨rfl, hb3⟩; have K3 : Hid (Ms w1 w3 g cp q L) := HK.out.below hb3; clear hb3 c1 c0 HK; have K4 : Hid (Ms w1 (w3.alloc (Obj.cells #[.int .u64 (m.1 : Int), .int .u64 (m.2 : Int)] 42)) g cp q L) := K3.out.alloc _; obtain ⟨d1, d0, f1, f0⟩ := K4.out.facts x hlt HL.out.1)
      refine ⟨⟨x + 1, L.set x m, hlt, by simp, ⟨by rw [List.length_set, HL.out.1], fun c hc => ?_⟩, K4.out.put x (by rw [HL.out.1]; exact hlt) m⟩, by simp [intOf]; omega⟩
      rw [el_set (by rw [HL.out.1]; exact hlt)]
      by_cases h1 : c = x
      · rw [if_pos h1, if_pos (by omega), h1, HM.out]
      · rw [if_neg h1, HL.out.2 c hc]
        by_cases h2 : c < x
        · rw [if_pos h2, if_pos (by omega)]
        · rw [if_neg h2, if_neg (by omega)]
    · obtain rfl : x = q := by omega
      have HE : Hid (ERow wr (some ⟨g, 0, none⟩) (msks N hi r x)) := by
        have e : L = msks N hi r x := list_ext (by rw [HL.out.1, msks_len]) fun c hc => by
          rw [HL.out.1] at hc
          rw [HL.out.2 c hc, if_pos hc, msks_at N hi r x hc]
        have h := HK.out.own
        rw [e] at h
        obtain ⟨a', cap', e', h5⟩ := own_row (es := msks N hi r x) (by rw [msks_len]; exact h)
        injection e' with e1
        show ERow _ _ _
        rw [e1]; exact h5
      have HD : Hid (Below W.heap.size W wr) := D1.out.1.trans (HK.out.d.mono D1.out.1.size)
      clear HK HL HAP
      go_wp2
      refine bodyPost_ret (v := .tuple #[.slice (some ⟨g, 0, none⟩) x cp, .int .i64 0]) (by simp [results, Try.results24, go_sem, *]) rfl ⟨g, cp, rfl, HE.out, HD.out⟩
end Go.Proofs.Ytbomgcmmfeahiaa
