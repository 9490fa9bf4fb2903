/- The walk of steeplelaw04.SpanKeeps over the seat's translation. -/
import Derived.Test.YtkllihomdlibgaaSqU
namespace Go.Proofs.Ytkllihomdlibgaa
open Go.RowKit
open Cb Rg Sq

theorem rb_le {l : List (Nat × Nat)} (hl : ltE l) : (rb l).length ≤ l.length := by
  rw [← elm_len hl]
  have h := elm_ei hl l.length (Nat.le_refl _)
  have := h.len; have := h.le; omega
theorem in_true {l : List (Nat × Nat)} (hl : ltE l) {x : Nat × Nat} (hx : lt2 x) (h : Sp l x) : decide ((rb (l ++ [x])).length = (rb l).length) = true := decide_eq_true ((rb_in hl hx).1 h)
theorem fall_at {b : List (Nat × Nat)} (h : Fall b) {i : Nat} (hi : i + 1 < b.length) : ld (el b (i + 1)) < ld (el b i) := by
  have := List.pairwise_iff_getElem.1 h i (i + 1) (by omega) hi (by omega)
  simpa [el, List.getD, hi, show i < b.length by omega] using this
theorem apt_at {b : List (Nat × Nat)} (h : RR b) (f : Fall b) {i j : Nat} (hi : i < b.length) (hj : j < b.length) (n : j ≠ i) : hs (el b j) (ld (el b i)) = false := by
  refine (apt_all h.apt (el_lt hj) (el_lt hi) fun e => ?_).1
  have k := List.pairwise_iff_getElem.1 f
  have e1 : ∀ {m} (hm : m < b.length), el b m = b[m] := fun {m} hm => by simp [el, List.getD, hm]
  rcases Nat.lt_or_ge i j with h1 | h1
  · have := k i j hi hj h1
    rw [← e1 hi, ← e1 hj, e] at this; omega
  · have := k j i hj hi (by omega)
    rw [← e1 hi, ← e1 hj, e] at this; omega
/-- What the law holds: the basis. -/
structure Lk (W w : World) (g : Nat) (B : List (Nat × Nat)) : Prop where
  d : Below W.heap.size W w
  b : ERow w (some ⟨g, 0, none⟩) B
theorem Lk.below {W w w' : World} {g : Nat} {B : List (Nat × Nat)} (h : Lk W w g B) (hb : Below w.heap.size w w') : Lk W w' g B := ⟨h.d.trans (hb.mono h.d.size), h.b.below hb⟩
theorem Lk.cells {W w : World} {g : Nat} {B : List (Nat × Nat)} (h : Lk W w g B) {i : Nat} (hi : i < B.length) : w.cell? ⟨g, i * 2, none⟩ = some (.int .u64 ((el B i).1 : Int)) ∧ w.cell? ⟨g, i * 2 + 1, none⟩ = some (.int .u64 ((el B i).2 : Int)) := by
  obtain ⟨b, off, e, _, c1, c0⟩ := h.b.cells i hi
  injection e with e; injection e with e1 e2; subst e1 e2
  rw [Nat.zero_add] at c1 c0
  exact ⟨c1, c0⟩
set_option maxHeartbeats 16000000 in
set_option maxRecDepth 100000 in
theorem sks_any (s0 : Option Addr) (cap0 : Nat) (l : List (Nat × Nat)) (hl : ltE l) (n : Int) (hn : n < 9223372036854775808) (W : World) (h0 : ERow W s0 l) :
    Calls Try.prog 4 #[.slice s0 l.length cap0, .int .i64 n] W fun e w' => e = .returned (.bool true) ∧ Below W.heap.size W w' := by
  have HA := hidT awake04
  by_cases c0 : 20 < l.length
  · have k0 : (20 : Int) < (l.length : Int) := by omega
    clear c0 h0 hl
    go_enter Try.func4, Try.ntmps4
    go_wp2_with (go_at_call 9; refine (HA.out.go _).mono ?_; rintro e w4 ⟨rfl, hb4⟩; have D4 := hidT hb4; clear hb4)
    go_ret
    exact ⟨rfl, D4.out⟩
  have k0 : ¬ (20 : Int) < (l.length : Int) := by omega
  obtain ⟨hR, hF, hQ⟩ := rb_rr hl
  have hBL := rb_le hl
  have hs2 : rb (rb l) = rb l := (rb_one hR.lt hR hF (fun _ => Iff.rfl)).symm
  have HBs := hidT (Basis_any s0 cap0 l hl (by omega) W h0)
  have HInB : Hid (∀ i, i < l.length → ∀ w g c, ERow w (some ⟨g, 0, none⟩) (rb l) → Calls Try.prog 15 #[.slice (some ⟨g, 0, none⟩) (rb l).length c, .agg #[.int .u64 ((el l i).1 : Int), .int .u64 ((el l i).2 : Int)]] w fun e w' => e = .returned (.bool true) ∧ Below w.heap.size w w') := fun i hi w g c h => by
    have := In_any (some ⟨g, 0, none⟩) c (rb l) hR.lt (by omega) (el l i) (ltE_el hl i) w h
    rwa [in_true hR.lt (ltE_el hl i) ((hQ _).2 (sp_mem (el_lt hi)))] at this
  have HInL : Hid (∀ i, i < (rb l).length → ∀ w, Below W.heap.size W w → Calls Try.prog 15 #[.slice s0 l.length cap0, .agg #[.int .u64 ((el (rb l) i).1 : Int), .int .u64 ((el (rb l) i).2 : Int)]] w fun e w' => e = .returned (.bool true) ∧ Below w.heap.size w w') := fun i hi w hw => by
    have := In_any s0 cap0 l hl (by omega) (el (rb l) i) (ltE_el hR.lt i) w (h0.below hw)
    rwa [in_true hl (ltE_el hR.lt i) ((hQ _).1 (sp_mem (el_lt hi)))] at this
  have HLd : Hid (∀ i, i < (rb l).length → Ret 18 #[.agg #[.int .u64 ((el (rb l) i).1 : Int), .int .u64 ((el (rb l) i).2 : Int)]] (.int .i64 (ld (el (rb l) i) : Int))) := fun i hi => by
    have := rlead04 (el (rb l) i) (ltE_el hR.lt i)
    rw [lng_ld (ltE_el hR.lt i) (hR.ne _ (el_lt hi))] at this
    rwa [show ((ld (el (rb l) i) + 1 : Nat) : Int) - 1 = (ld (el (rb l) i) : Int) by omega] at this
  have HFl : Hid (∀ i, i + 1 < (rb l).length → ld (el (rb l) (i + 1)) < ld (el (rb l) i)) := fun i hi => fall_at hF hi
  have HHs : Hid (∀ i j, i < (rb l).length → j < (rb l).length → j ≠ i → Ret 19 #[.agg #[.int .u64 ((el (rb l) j).1 : Int), .int .u64 ((el (rb l) j).2 : Int)], .int .i64 (ld (el (rb l) i) : Int)] (.bool false)) := fun i j hi hj hji => by
    have := has_any (el (rb l) j).1 (el (rb l) j).2 (ld (el (rb l) i)) (ltE_el hR.lt j).1 (ltE_el hR.lt j).2 (ld_lt (ltE_el hR.lt i) (hR.ne _ (el_lt hi)))
    rwa [show hasB (el (rb l) j).1 (el (rb l) j).2 (ld (el (rb l) i)) = false from apt_at hR hF hi hj hji] at this
  have HP : Hid (∀ w, Below W.heap.size W w → Calls Try.prog 20 #[.slice s0 l.length cap0, .int .i64 n] w fun e w' => e = .returned (.agg #[.int .u64 ((pv l n).1 : Int), .int .u64 ((pv l n).2 : Int)]) ∧ Below w.heap.size w w') := fun w hw => spoint_all s0 cap0 n hn l hl (by omega) w (h0.below hw)
  have HInP : Hid (∀ w, Below W.heap.size W w → Calls Try.prog 15 #[.slice s0 l.length cap0, .agg #[.int .u64 ((pv l n).1 : Int), .int .u64 ((pv l n).2 : Int)]] w fun e w' => e = .returned (.bool true) ∧ Below w.heap.size w w') := fun w hw => by
    have := In_any s0 cap0 l hl (by omega) (pv l n) (lt_pv hl n) w (h0.below hw)
    rwa [in_true hl (lt_pv hl n) (pv_sp n)] at this
  have HSm : Hid (∀ w g c, Below W.heap.size W w → ERow w (some ⟨g, 0, none⟩) (rb l) → Calls Try.prog 17 #[.slice s0 l.length cap0, .slice (some ⟨g, 0, none⟩) (rb l).length c] w fun e w' => e = .returned (.bool true) ∧ Below w.heap.size w w') := fun w g c hw h => by
    have := Same_any s0 (some ⟨g, 0, none⟩) cap0 c l (rb l) hl hR.lt (by omega) (by omega) w (h0.below hw) h
    rwa [hs2, decide_eq_true rfl] at this
  have HC := hidT h0
  clear h0 hl c0 hR hF hQ hs2 hn
  generalize rb l = B at *
  generalize pv l n = pn at *
  generalize hN : B.length = N at *
  have HNB : Hid (B.length = N) := hN
  clear hN
  go_enter Try.func4, Try.ntmps4
  go_wp2_with (go_at_call 13; refine HBs.out.mono ?_; rintro e w1 ⟨g, rfl, r1, _, hb1⟩; have K1 : Hid (Lk W w1 g B) := ⟨hb1, r1⟩; clear r1 hb1 HBs)
  go_loopw [6] (fun u wr => ∃ i : Nat, i ≤ l.length ∧ u = .int .i64 i ∧ Hid (Lk W wr g B)) (fun u _ => l.length - (intOf u).toNat)
  case atStart => exact ⟨0, Nat.zero_le _, rfl, K1⟩
  case round =>
    obtain ⟨i, hi, rfl, HK⟩ := hrel
    clear K1
    by_cases hlt : i < l.length
    · obtain ⟨b, off, rfl, hb, c1, c0⟩ := HC.out.cells i hlt
      have x1 : wr.cell? ⟨b, off + i * 2, none⟩ = some (.int .u64 ((el l i).1 : Int)) := keepc HK.out.d c1
      have x0 : wr.cell? ⟨b, off + i * 2 + 1, none⟩ = some (.int .u64 ((el l i).2 : Int)) := keepc HK.out.d c0
      have H1 := hidT (HInB.out i hlt)
      have i1 : (i : Int) < (l.length : Int) := by omega
      clear c1 c0 hb HInB HInL HLd HFl HHs HP HInP HSm
      generalize el l i = x at *
      go_wp2_with (go_at_call 15; refine (H1.out _ _ _ HK.out.b).mono ?_; rintro e w2 ⟨rfl, hb2⟩; have K2 := hidT (HK.out.below hb2); clear hb2 HK x1 x0)
      exact ⟨⟨i + 1, hlt, by simp, K2⟩, by simp [intOf]; omega⟩
    · obtain rfl : i = l.length := by omega
      clear HInB
      go_wp2_with fail
      go_loopw [7] (fun u wr => ∃ i : Nat, i ≤ N ∧ u = .int .i64 i ∧ Hid (Lk W wr g B)) (fun u _ => N - (intOf u).toNat)
      case atStart => exact ⟨0, Nat.zero_le _, rfl, HK⟩
      case round =>
        obtain ⟨i, hi, rfl, HK2⟩ := hrel
        clear HK
        by_cases hlt : i < N
        · obtain ⟨x1, x0⟩ := HK2.out.cells (by rw [HNB.out]; exact hlt)
          have H1 := hidT (HLd.out i hlt)
          have H2 := hidT (HInL.out i hlt)
          have H3 : Hid (∀ j, j < N → j ≠ i → Ret 19 #[.agg #[.int .u64 ((el B j).1 : Int), .int .u64 ((el B j).2 : Int)], .int .i64 (ld (el B i) : Int)] (.bool false)) := fun j hj hji => HHs.out i j hlt hj hji
          have i1 : (i : Int) < (N : Int) := by omega
          clear HInL HHs HP HInP HSm
          by_cases hi0 : i = 0
          · have i0 : ¬ (0 : Int) < (i : Int) := by omega
            clear hi0 HLd HFl
            generalize ld (el B i) = k at *
            have k0' : ¬ (k : Int) < 0 := by omega
            generalize el B i = x at *
            go_wp2_with (first
              | (go_at_call 18; refine (H1.out.go _).mono ?_; rintro e w2 ⟨rfl, hb2⟩; have K2 := hidT (HK2.out.below hb2); have y1 := keepc hb2 x1; have y0 := keepc hb2 x0; clear hb2 x1 x0 HK2)
              | (go_at_call 15; refine (H2.out _ K2.out.d).mono ?_; rintro e w3 ⟨rfl, hb3⟩; have K3 := hidT (K2.out.below hb3); clear hb3 K2 y1 y0))
            go_loopw [9] (fun u wr => ∃ j : Nat, j ≤ N ∧ u = .int .i64 j ∧ Hid (Lk W wr g B)) (fun u _ => N - (intOf u).toNat)
            case atStart => exact ⟨0, Nat.zero_le _, rfl, K3⟩
            case round =>
              obtain ⟨j, hj, rfl, HK4⟩ := hrel
              clear K3
              by_cases hjl : j < N
              · have j1 : (j : Int) < (N : Int) := by omega
                by_cases hji : j = i
                · have hne : ((j : Int) != (i : Int)) = false := by simp [hji]
                  clear hji H3
                  go_wp2_with fail
                  exact ⟨⟨j + 1, hjl, by simp, HK4⟩, by simp [intOf]; omega⟩
                · have hne : ¬ (j : Int) = (i : Int) := by omega
                  obtain ⟨x1, x0⟩ := HK4.out.cells (by rw [HNB.out]; exact hjl)
                  have H5 := hidT (H3.out j hjl hji)
                  clear hji H3
                  generalize el B j = y at *
                  go_wp2_with (go_at_call 19; refine (H5.out.go _).mono ?_; rintro e w5 ⟨rfl, hb5⟩; have K5 := hidT (HK4.out.below hb5); clear hb5 HK4 x1 x0)
                  exact ⟨⟨j + 1, hjl, by simp, K5⟩, by simp [intOf]; omega⟩
              · obtain rfl : j = N := by omega
                go_wp2_with fail
                exact ⟨⟨i + 1, hlt, by simp, HK4⟩, by simp [intOf]; omega⟩
          · have i0 : (0 : Int) < (i : Int) := by omega
            obtain ⟨p, rfl⟩ : ∃ p, i = p + 1 := ⟨i - 1, by omega⟩
            obtain ⟨z1, z0⟩ := HK2.out.cells (i := p) (by rw [HNB.out]; omega)
            have H6 := hidT (HLd.out p (by omega))
            have hlt3 := HFl.out p hlt
            generalize hq : p + 1 = q at *
            have hp1 : IntKind.i64.wrap ((q : Int) - 1) = (p : Int) := by rw [IntKind.wrap_i64]; omega
            have hp2 : (q : Int) - 1 = (p : Int) := by omega
            have p1 : (p : Int) < (N : Int) := by omega
            have p0 : (0 : Int) ≤ (p : Int) := by omega
            clear hi0 HLd HFl hq
            generalize ld (el B q) = k at *
            generalize ld (el B p) = k2 at *
            have k0' : ¬ (k : Int) < 0 := by omega
            have k1' : ¬ (k2 : Int) ≤ (k : Int) := by omega
            have kd1 : decide (k2 ≤ k) = false := decide_eq_false (by omega)
            have kd2 : decide ((k : Int) < 0) = false := decide_eq_false (by omega)
            generalize el B q = x at *
            generalize el B p = z at *
            go_wp2_with fail
            refine (H1.out.go _).mono ?_
            rintro e w2 ⟨rfl, hb2⟩
            have K2 := hidT (HK2.out.below hb2)
            have y1 := keepc hb2 x1
            have y0 := keepc hb2 x0
            have u1 := hidT (keepc hb2 z1)
            have u0 := hidT (keepc hb2 z0)
            clear hb2 x1 x0 HK2 z1 z0
            go_wp2_with fail
            refine (H2.out _ K2.out.d).mono ?_
            rintro e w3 ⟨rfl, hb3⟩
            have K3 := hidT (K2.out.below hb3)
            have z1 := keepc hb3 u1.out
            have z0 := keepc hb3 u0.out
            clear hb3 K2 y1 y0 u1 u0
            go_wp2_with fail
            refine (H6.out.go _).mono ?_
            rintro e w4 ⟨rfl, hb4⟩
            have K4 := hidT (K3.out.below hb4)
            clear hb4 K3 z1 z0
            go_wp2_with fail
            clear hp1 hp2 p1 p0 k0' k1' i0 hlt3
            go_loopw [9] (fun u wr => ∃ j : Nat, j ≤ N ∧ u = .int .i64 j ∧ Hid (Lk W wr g B)) (fun u _ => N - (intOf u).toNat)
            case atStart => exact ⟨0, Nat.zero_le _, rfl, K4⟩
            case round =>
              obtain ⟨j, hj, rfl, HK4⟩ := hrel
              clear K4
              by_cases hjl : j < N
              · have j1 : (j : Int) < (N : Int) := by omega
                by_cases hji : j = q
                · have hne : ((j : Int) != (q : Int)) = false := by simp [hji]
                  clear hji H3
                  go_wp2_with fail
                  exact ⟨⟨j + 1, hjl, by simp, HK4⟩, by simp [intOf]; omega⟩
                · have hne : ¬ (j : Int) = (q : Int) := by omega
                  obtain ⟨x1, x0⟩ := HK4.out.cells (by rw [HNB.out]; exact hjl)
                  have H5 := hidT (H3.out j hjl hji)
                  clear hji H3
                  generalize el B j = y at *
                  go_wp2_with (go_at_call 19; refine (H5.out.go _).mono ?_; rintro e w5 ⟨rfl, hb5⟩; have K5 := hidT (HK4.out.below hb5); clear hb5 HK4 x1 x0)
                  exact ⟨⟨j + 1, hjl, by simp, K5⟩, by simp [intOf]; omega⟩
              · obtain rfl : j = N := by omega
                go_wp2_with fail
                exact ⟨⟨q + 1, hlt, by simp, HK4⟩, by simp [intOf]; omega⟩
        · obtain rfl : i = N := by omega
          clear HInL HLd HFl HHs
          go_wp2_with fail
          refine (HA.out.go _).mono ?_
          rintro e w2 ⟨rfl, hb2⟩
          have K2 := hidT (HK2.out.below hb2)
          clear hb2 HK2
          go_wp2_with fail
          refine (HP.out _ K2.out.d).mono ?_
          rintro e w3 ⟨rfl, hb3⟩
          have K3 := hidT (K2.out.below hb3)
          clear hb3 K2
          go_wp2_with fail
          refine (HInP.out _ K3.out.d).mono ?_
          rintro e w4 ⟨rfl, hb4⟩
          have K4 := hidT (K3.out.below hb4)
          clear hb4 K3
          go_wp2_with fail
          refine (HSm.out _ _ _ K4.out.d K4.out.b).mono ?_
          rintro e w5 ⟨rfl, hb5⟩
          have K5 := hidT (K4.out.below hb5)
          clear hb5 K4
          go_wp2
          go_ret
          exact ⟨rfl, K5.out.d⟩
end Go.Proofs.Ytkllihomdlibgaa
