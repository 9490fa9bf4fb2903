/- The walk of steeplelaw04.SpanBases over the seat's translation. -/
import Derived.Test.YtkllihomdlibgaaSqM
namespace Go.Proofs.Ytkllihomdlibgaa
open Go.RowKit
open Cb Rg Sq

/-- What the law holds: the element in its box, the document's two bases. -/
structure Lb (W w : World) (p : Nat) (x : Nat × Nat) (a7 a8 : Option Addr) (A B : List (Nat × Nat)) : Prop where
  d : Below W.heap.size W w
  x : El w p x.1 x.2
  a : ERow w a7 A
  b : ERow w a8 B
theorem Lb.below {W w w' : World} {p : Nat} {x : Nat × Nat} {a7 a8 : Option Addr} {A B : List (Nat × Nat)} (h : Lb W w p x a7 a8 A B) (hb : Below w.heap.size w w') : Lb W w' p x a7 a8 A B := ⟨h.d.trans (hb.mono h.d.size), h.x.below hb, h.a.below hb, h.b.below hb⟩
theorem Lb.drew {W w : World} {p : Nat} {x : Nat × Nat} {a7 a8 : Option Addr} {A B : List (Nat × Nat)} (h : Lb W w p x a7 a8 A B) : Lb W w.drew p x a7 a8 A B := h.below (Below.refl _ _).drew
theorem rb_small {l : List (Nat × Nat)} (hl : ltE l) : (rb l).length ≤ l.length := by
  rw [← elm_len hl]
  have h := elm_ei hl l.length (Nat.le_refl _)
  have := h.len; have := h.le; omega
set_option maxHeartbeats 16000000 in
set_option maxRecDepth 100000 in
theorem sbs_any (s0 s1 : Option Addr) (cap0 cap1 : Nat) (l m : List (Nat × Nat)) (hl : ltE l) (hm : ltE m) (x : Nat × Nat) (hx : lt2 x) (W : World) (h0 : ERow W s0 l) (h1 : ERow W s1 m) :
    Calls Try.prog 3 #[.slice s0 l.length cap0, .slice s1 m.length cap1, .agg #[.int .u64 (x.1 : Int), .int .u64 (x.2 : Int)]] W fun e w' => e = .returned (.bool true) ∧ Below W.heap.size W w' := by
  have HA := hidT awake04
  by_cases c0 : 20 < l.length
  · have k0 : (20 : Int) < (l.length : Int) := by omega
    have B0 := hidT ((Below.refl W.heap.size W).alloc (Nat.le_refl _) (Obj.cells #[.int .u64 (x.1 : Int), .int .u64 (x.2 : Int)] 25))
    clear c0 h0 h1 hl hm
    go_enter Try.func3, Try.ntmps3
    go_wp2_with (go_at_call 9; refine (HA.out.go _).mono ?_; rintro e w4 ⟨rfl, hb4⟩; have D4 := hidT (B0.out.trans (hb4.mono (by simp))); clear hb4)
    go_ret
    exact ⟨rfl, D4.out⟩
  by_cases c1 : 20 < m.length
  · have k0 : ¬ (20 : Int) < (l.length : Int) := by omega
    have k1 : (20 : Int) < (m.length : Int) := by omega
    have B0 := hidT ((Below.refl W.heap.size W).alloc (Nat.le_refl _) (Obj.cells #[.int .u64 (x.1 : Int), .int .u64 (x.2 : Int)] 25))
    clear c0 c1 h0 h1 hl hm
    go_enter Try.func3, Try.ntmps3
    go_wp2_with (go_at_call 9; refine (HA.out.go _).mono ?_; rintro e w4 ⟨rfl, hb4⟩; have D4 := hidT (B0.out.trans (hb4.mono (by simp))); clear hb4)
    go_ret
    exact ⟨rfl, D4.out⟩
  have k0 : ¬ (20 : Int) < (l.length : Int) := by omega
  have k1 : ¬ (20 : Int) < (m.length : Int) := by omega
  have H1 : Hid (∀ w, Below W.heap.size W w → Calls Try.prog 11 #[.slice s0 l.length cap0] w fun e w' => ∃ a c, e = .returned (.slice a l.length c) ∧ ERow w' a l ∧ Below w.heap.size w w') := fun w hw => (sref_own s0 cap0 l (by omega) w (h0.below hw)).mono fun e w' ⟨a, c, e1, o, e3⟩ => by
    obtain ⟨a', c', e', r⟩ := own_row o
    injection e' with e' _ _; subst e'
    exact ⟨a, c, e1, r, e3⟩
  have H2 : Hid (∀ w, Below W.heap.size W w → Calls Try.prog 11 #[.slice s1 m.length cap1] w fun e w' => ∃ a c, e = .returned (.slice a m.length c) ∧ ERow w' a m ∧ Below w.heap.size w w') := fun w hw => (sref_own s1 cap1 m (by omega) w (h1.below hw)).mono fun e w' ⟨a, c, e1, o, e3⟩ => by
    obtain ⟨a', c', e', r⟩ := own_row o
    injection e' with e' _ _; subst e'
    exact ⟨a, c, e1, r, e3⟩
  have H3 : Hid (∀ w a c, ERow w a l → Calls Try.prog 10 #[.slice a l.length c] w fun e w' => ∃ a c, e = .returned (.slice a (rb l).length c) ∧ ERow w' a (rb l) ∧ Below w.heap.size w w') := fun w a c h => (rbasis04 a c l hl (by omega) w h).mono fun e w' ⟨a, c, e1, o, e3⟩ => by
    obtain ⟨a', c', e', r⟩ := own_row o
    injection e' with e' _ _; subst e'
    exact ⟨a, c, e1, r, e3⟩
  have H4 : Hid (∀ w a c, ERow w a m → Calls Try.prog 10 #[.slice a m.length c] w fun e w' => ∃ a c, e = .returned (.slice a (rb m).length c) ∧ ERow w' a (rb m) ∧ Below w.heap.size w w') := fun w a c h => (rbasis04 a c m hm (by omega) w h).mono fun e w' ⟨a, c, e1, o, e3⟩ => by
    obtain ⟨a', c', e', r⟩ := own_row o
    injection e' with e' _ _; subst e'
    exact ⟨a, c, e1, r, e3⟩
  have H5 : Hid (∀ w, Below W.heap.size W w → Calls Try.prog 13 #[.slice s0 l.length cap0] w fun e w' => ∃ g, e = .returned (.slice (some ⟨g, 0, none⟩) (rb l).length (rb l).length) ∧ ERow w' (some ⟨g, 0, none⟩) (rb l) ∧ Below w.heap.size w w') := fun w hw => (Basis_any s0 cap0 l hl (by omega) w (h0.below hw)).mono fun e w' ⟨g, e1, e2, _, e3⟩ => ⟨g, e1, e2, e3⟩
  have H6 : Hid (∀ w, Below W.heap.size W w → Calls Try.prog 14 #[.slice s0 l.length cap0] w fun e w' => e = .returned (.int .i64 ((rb l).length : Int)) ∧ Below w.heap.size w w') := fun w hw => Rank_any s0 cap0 l hl (by omega) w (h0.below hw)
  have H7 : Hid (∀ w, Below W.heap.size W w → Calls Try.prog 15 #[.slice s0 l.length cap0, .agg #[.int .u64 (x.1 : Int), .int .u64 (x.2 : Int)]] w fun e w' => e = .returned (.bool (decide ((rb (l ++ [x])).length = (rb l).length))) ∧ Below w.heap.size w w') := fun w hw => In_any s0 cap0 l hl (by omega) x hx w (h0.below hw)
  have H8 : Hid (∀ w a c, ERow w a l → Calls Try.prog 16 #[.slice a l.length c, .agg #[.int .u64 (x.1 : Int), .int .u64 (x.2 : Int)]] w fun e w' => e = .returned (.bool (decide ((rb (l ++ [x])).length = (rb l).length))) ∧ Below w.heap.size w w') := fun w a c h => rIn04 a c l hl (by omega) x hx w h
  have H9 : Hid (∀ w, Below W.heap.size W w → Calls Try.prog 17 #[.slice s0 l.length cap0, .slice s1 m.length cap1] w fun e w' => e = .returned (.bool (decide (rb l = rb m))) ∧ Below w.heap.size w w') := fun w hw => Same_any s0 s1 cap0 cap1 l m hl hm (by omega) (by omega) w (h0.below hw) (h1.below hw)
  have hA := rb_small hl
  have hB := rb_small hm
  have hA2 : (rb l).length ≤ 20 := by omega
  have hB2 : (rb m).length ≤ 20 := by omega
  clear h0 h1 hl hm hx c0 c1 hA hB
  generalize decide ((rb (l ++ [x])).length = (rb l).length) = bi at *
  generalize rb l = A at *
  generalize rb m = B at *
  go_enter Try.func3, Try.ntmps3
  have K0 : Hid (Below W.heap.size W (W.alloc (Obj.cells #[.int .u64 (x.1 : Int), .int .u64 (x.2 : Int)] 25)) ∧ El (W.alloc (Obj.cells #[.int .u64 (x.1 : Int), .int .u64 (x.2 : Int)] 25)) W.heap.size x.1 x.2) := ⟨(Below.refl _ _).alloc (Nat.le_refl _) _, ⟨by simp [go_sem], by simp [go_sem]⟩⟩
  go_upto_region 3 with fail
  generalize W.alloc (Obj.cells #[.int .u64 (x.1 : Int), .int .u64 (x.2 : Int)] 25) = w0 at *
  go_wp2_with fail
  refine (H1.out _ K0.out.1).mono ?_
  rintro e w1 ⟨a1, c1, rfl, r1, hb1⟩
  have K1 : Hid (Below W.heap.size W w1 ∧ El w1 W.heap.size x.1 x.2 ∧ ERow w1 a1 l) := ⟨K0.out.1.trans (hb1.mono K0.out.1.size), K0.out.2.below hb1, r1⟩
  clear K0 r1 hb1
  go_wp2_with fail
  refine (H3.out _ _ _ K1.out.2.2).mono ?_
  rintro e w2 ⟨a7, c7, rfl, r2, hb2⟩
  have K2 : Hid (Below W.heap.size W w2 ∧ El w2 W.heap.size x.1 x.2 ∧ ERow w2 a7 A) := ⟨K1.out.1.trans (hb2.mono K1.out.1.size), K1.out.2.1.below hb2, r2⟩
  clear K1 r2 hb2
  go_wp2_with fail
  refine (H2.out _ K2.out.1).mono ?_
  rintro e w3 ⟨a3, c3, rfl, r3, hb3⟩
  have K3 : Hid (Below W.heap.size W w3 ∧ El w3 W.heap.size x.1 x.2 ∧ ERow w3 a7 A ∧ ERow w3 a3 m) := ⟨K2.out.1.trans (hb3.mono K2.out.1.size), K2.out.2.1.below hb3, K2.out.2.2.below hb3, r3⟩
  clear K2 r3 hb3 H2
  go_wp2_with fail
  refine (H4.out _ _ _ K3.out.2.2.2).mono ?_
  rintro e w4 ⟨a8, c8, rfl, r4, hb4⟩
  have K : Hid (Lb W w4 W.heap.size x a7 a8 A B) := ⟨K3.out.1.trans (hb4.mono K3.out.1.size), K3.out.2.1.below hb4, K3.out.2.2.1.below hb4, r4⟩
  clear K3 r4 hb4 H3 H4
  have hAB : (((A.length : Int) == (B.length : Int)) = decide (A.length = B.length)) := eq_dec _ _
  generalize hQ : decide (A.length = B.length) = q0 at *
  have HQ : Hid (decide (A.length = B.length) = q0) := hQ
  clear hQ
  go_wp2_with fail
  go_loopw [9, 10] (fun v u wr => ∃ (q : Bool) (i : Nat), i ≤ A.length ∧ u = .int .i64 i ∧ v = .bool q ∧ Hid (if q = true then A.length = B.length ∧ A.take i = B.take i else ¬ A = B) ∧ Hid (Lb W wr W.heap.size x a7 a8 A B)) (fun _ u _ => A.length - (intOf u).toNat)
  case atStart =>
    refine ⟨q0, 0, Nat.zero_le _, rfl, ?_, ?_, K⟩
    · first | rfl | (rw [hAB]) | (simp [hAB])
    · show if q0 = true then _ else _
      rw [← HQ.out]
      by_cases h : A.length = B.length
      · rw [if_pos (by simp [h])]; exact ⟨h, by simp⟩
      · rw [if_neg (by simp [h])]; exact fun e => h (by rw [e])
  case round =>
    obtain ⟨q, i, hi, rfl, rfl, HQ2, HK⟩ := hrel
    clear K HQ hAB
    have F := HK.out.x.hi
    have G := HK.out.x.lo
    by_cases hgo : q = true ∧ i < A.length
    · obtain ⟨rfl, hlt⟩ := hgo
      have HE := hidT HQ2.out
      rw [if_pos rfl] at HE
      obtain ⟨b, off, e1, hb, y1, y0⟩ := HK.out.a.cells i hlt
      obtain ⟨b', off', e2, hb', z1, z0⟩ := HK.out.b.cells i (by rw [← HE.out.1]; exact hlt)
      subst e1 e2
      have i1 : (i : Int) < (A.length : Int) := by omega
      have i2 : (i : Int) < (B.length : Int) := by have := HE.out.1; omega
      have T1 : Hid (A.take (i + 1) = A.take i ++ [A.getD i (0, 0)]) := take_sn A i hlt
      have T2 : Hid (B.take (i + 1) = B.take i ++ [B.getD i (0, 0)]) := take_sn B i (by rw [← HE.out.1]; exact hlt)
      have T3 : Hid (¬ A.getD i (0, 0) = B.getD i (0, 0) → ¬ A = B) := fun h e => h (by rw [e])
      clear HQ2 F G
      generalize A.getD i (0, 0) = u at *
      generalize B.getD i (0, 0) = v at *
      by_cases huv : u = v
      · subst huv
        clear T3
        go_wp2_with fail
        go_region_held3 (fun w => w.cell? ⟨b, off + i * 2, none⟩ = some (.int .u64 (u.1 : Nat)) ∧ w.cell? ⟨b, off + i * 2 + 1, none⟩ = some (.int .u64 (u.2 : Nat)) ∧ w.cell? ⟨b', off' + i * 2, none⟩ = some (.int .u64 (u.1 : Nat)) ∧ w.cell? ⟨b', off' + i * 2 + 1, none⟩ = some (.int .u64 (u.2 : Nat))) (go_keep) (fail)
        go_wp2
        exact ⟨⟨true, i + 1, hlt, by simp, rfl, (by show if true = true then _ else _; rw [if_pos rfl, T1.out, T2.out, HE.out.2]; exact ⟨HE.out.1, rfl⟩), HK.out.drew⟩, by simp [intOf]; omega⟩
      · have HN : Hid (¬ A = B) := T3.out huv
        by_cases h1 : u.1 = v.1
        · have h2 : ¬ (u.2 : Int) = (v.2 : Int) := fun h => huv (Prod.ext h1 (by omega))
          rw [← h1] at z1
          clear h1 huv T3
          go_wp2_with fail
          go_region_held3 (fun w => w.cell? ⟨b, off + i * 2, none⟩ = some (.int .u64 (u.1 : Nat)) ∧ w.cell? ⟨b, off + i * 2 + 1, none⟩ = some (.int .u64 (u.2 : Nat)) ∧ w.cell? ⟨b', off' + i * 2, none⟩ = some (.int .u64 (u.1 : Nat)) ∧ w.cell? ⟨b', off' + i * 2 + 1, none⟩ = some (.int .u64 (v.2 : Nat))) (go_keep) (fail)
          go_wp2
          exact ⟨⟨false, i + 1, hlt, by simp, rfl, (by show if false = true then _ else _; rw [if_neg (by decide)]; exact HN.out), HK.out.drew⟩, by simp [intOf]; omega⟩
        · have h2 : ¬ (u.1 : Int) = (v.1 : Int) := by omega
          clear h1 huv T3
          go_wp2_with fail
          go_region_held3 (fun w => w.cell? ⟨b, off + i * 2, none⟩ = some (.int .u64 (u.1 : Nat)) ∧ w.cell? ⟨b, off + i * 2 + 1, none⟩ = some (.int .u64 (u.2 : Nat)) ∧ w.cell? ⟨b', off' + i * 2, none⟩ = some (.int .u64 (v.1 : Nat)) ∧ w.cell? ⟨b', off' + i * 2 + 1, none⟩ = some (.int .u64 (v.2 : Nat))) (go_keep) (fail)
          go_wp2
          exact ⟨⟨false, i + 1, hlt, by simp, rfl, (by show if false = true then _ else _; rw [if_neg (by decide)]; exact HN.out), HK.out.drew⟩, by simp [intOf]; omega⟩
    · have HD : Hid (q = decide (A = B)) := by
        show _ = _
        have h2 := HQ2.out
        cases q
        · rw [if_neg (by decide)] at h2
          rw [decide_eq_false h2]
        · rw [if_pos rfl] at h2
          have h3 : ¬ i < A.length := fun h => hgo ⟨rfl, h⟩
          have h4 := h2.2
          rw [List.take_of_length_le (by omega), List.take_of_length_le (by omega)] at h4
          rw [decide_eq_true h4]
      have K := HK
      have HG : Hid (q = true → ¬ (i : Int) < (A.length : Int)) := fun h => by
        have : ¬ i < A.length := fun h2 => hgo ⟨h, h2⟩
        omega
      clear HK HQ2 hgo
      have HDD : Hid (decide (A = B) = q) := HD.out.symm
      generalize decide (A = B) = qq at *
      obtain rfl : qq = q := HDD.out
      clear HD HDD
      cases qq
      · clear HG
        go_upto_region 9 with fail
        go_region_held3 (fun w => w.cell? ⟨W.heap.size, 0, none⟩ = some (.int .u64 (x.1 : Int)) ∧ w.cell? ⟨W.heap.size, 1, none⟩ = some (.int .u64 (x.2 : Int))) (go_keep) (first | (go_at_call 9; refine (HA.out.go _).mono ?_; rintro e w' ⟨rfl, hb'⟩; have K'' := hidT (Lb.below (w' := w') (by first | exact K.out | exact K.out.drew) hb'); clear F G K hb'; have K := K''; clear K''; have F := K.out.x.hi; have G := K.out.x.lo) | (go_at_call 13; refine (H5.out _ (by first | exact K.out.d | exact K.out.drew.d)).mono ?_; rintro e w' ⟨g9, rfl, hg9, hb'⟩; have KG := hidT hg9; clear hg9; have K'' := hidT (Lb.below (w' := w') (by first | exact K.out | exact K.out.drew) hb'); clear F G K hb'; have K := K''; clear K''; have F := K.out.x.hi; have G := K.out.x.lo) | (go_at_call 12; refine (same_rows _ _ _ _ A (by omega) _ (by first | exact KG.out | exact KG.out.drew) (by first | exact K.out.a | exact K.out.drew.a)).mono ?_; rintro e w' ⟨rfl, hb'⟩; have K'' := hidT (Lb.below (w' := w') (by first | exact K.out | exact K.out.drew) hb'); clear F G K hb'; have K := K''; clear K''; have F := K.out.x.hi; have G := K.out.x.lo) | (go_at_call 14; refine (H6.out _ (by first | exact K.out.d | exact K.out.drew.d)).mono ?_; rintro e w' ⟨rfl, hb'⟩; have K'' := hidT (Lb.below (w' := w') (by first | exact K.out | exact K.out.drew) hb'); clear F G K hb'; have K := K''; clear K''; have F := K.out.x.hi; have G := K.out.x.lo) | (go_at_call 15; refine (H7.out _ (by first | exact K.out.d | exact K.out.drew.d)).mono ?_; rintro e w' ⟨rfl, hb'⟩; have K'' := hidT (Lb.below (w' := w') (by first | exact K.out | exact K.out.drew) hb'); clear F G K hb'; have K := K''; clear K''; have F := K.out.x.hi; have G := K.out.x.lo) | (go_at_call 11; refine (H1.out _ (by first | exact K.out.d | exact K.out.drew.d)).mono ?_; rintro e w' ⟨a9, c9, rfl, hr9, hb'⟩; have KR := hidT hr9; clear hr9; have K'' := hidT (Lb.below (w' := w') (by first | exact K.out | exact K.out.drew) hb'); clear F G K hb'; have K := K''; clear K''; have F := K.out.x.hi; have G := K.out.x.lo) | (go_at_call 16; refine (H8.out _ _ _ (by first | exact KR.out | exact KR.out.drew)).mono ?_; rintro e w' ⟨rfl, hb'⟩; have K'' := hidT (Lb.below (w' := w') (by first | exact K.out | exact K.out.drew) hb'); clear F G K hb'; have K := K''; clear K''; have F := K.out.x.hi; have G := K.out.x.lo) | (go_at_call 17; refine (H9.out _ (by first | exact K.out.d | exact K.out.drew.d)).mono ?_; rintro e w' ⟨rfl, hb'⟩; have K'' := hidT (Lb.below (w' := w') (by first | exact K.out | exact K.out.drew) hb'); clear F G K hb'; have K := K''; clear K''; have F := K.out.x.hi; have G := K.out.x.lo))
        all_goals go_wp2
        all_goals go_ret
        all_goals exact ⟨by rfl, by first | exact K.out.d | exact K.out.d.drew⟩
      · have hg := HG.out rfl
        clear HG
        go_upto_region 9 with fail
        go_region_held3 (fun w => w.cell? ⟨W.heap.size, 0, none⟩ = some (.int .u64 (x.1 : Int)) ∧ w.cell? ⟨W.heap.size, 1, none⟩ = some (.int .u64 (x.2 : Int))) (go_keep) (first | (go_at_call 9; refine (HA.out.go _).mono ?_; rintro e w' ⟨rfl, hb'⟩; have K'' := hidT (Lb.below (w' := w') (by first | exact K.out | exact K.out.drew) hb'); clear F G K hb'; have K := K''; clear K''; have F := K.out.x.hi; have G := K.out.x.lo) | (go_at_call 13; refine (H5.out _ (by first | exact K.out.d | exact K.out.drew.d)).mono ?_; rintro e w' ⟨g9, rfl, hg9, hb'⟩; have KG := hidT hg9; clear hg9; have K'' := hidT (Lb.below (w' := w') (by first | exact K.out | exact K.out.drew) hb'); clear F G K hb'; have K := K''; clear K''; have F := K.out.x.hi; have G := K.out.x.lo) | (go_at_call 12; refine (same_rows _ _ _ _ A (by omega) _ (by first | exact KG.out | exact KG.out.drew) (by first | exact K.out.a | exact K.out.drew.a)).mono ?_; rintro e w' ⟨rfl, hb'⟩; have K'' := hidT (Lb.below (w' := w') (by first | exact K.out | exact K.out.drew) hb'); clear F G K hb'; have K := K''; clear K''; have F := K.out.x.hi; have G := K.out.x.lo) | (go_at_call 14; refine (H6.out _ (by first | exact K.out.d | exact K.out.drew.d)).mono ?_; rintro e w' ⟨rfl, hb'⟩; have K'' := hidT (Lb.below (w' := w') (by first | exact K.out | exact K.out.drew) hb'); clear F G K hb'; have K := K''; clear K''; have F := K.out.x.hi; have G := K.out.x.lo) | (go_at_call 15; refine (H7.out _ (by first | exact K.out.d | exact K.out.drew.d)).mono ?_; rintro e w' ⟨rfl, hb'⟩; have K'' := hidT (Lb.below (w' := w') (by first | exact K.out | exact K.out.drew) hb'); clear F G K hb'; have K := K''; clear K''; have F := K.out.x.hi; have G := K.out.x.lo) | (go_at_call 11; refine (H1.out _ (by first | exact K.out.d | exact K.out.drew.d)).mono ?_; rintro e w' ⟨a9, c9, rfl, hr9, hb'⟩; have KR := hidT hr9; clear hr9; have K'' := hidT (Lb.below (w' := w') (by first | exact K.out | exact K.out.drew) hb'); clear F G K hb'; have K := K''; clear K''; have F := K.out.x.hi; have G := K.out.x.lo) | (go_at_call 16; refine (H8.out _ _ _ (by first | exact KR.out | exact KR.out.drew)).mono ?_; rintro e w' ⟨rfl, hb'⟩; have K'' := hidT (Lb.below (w' := w') (by first | exact K.out | exact K.out.drew) hb'); clear F G K hb'; have K := K''; clear K''; have F := K.out.x.hi; have G := K.out.x.lo) | (go_at_call 17; refine (H9.out _ (by first | exact K.out.d | exact K.out.drew.d)).mono ?_; rintro e w' ⟨rfl, hb'⟩; have K'' := hidT (Lb.below (w' := w') (by first | exact K.out | exact K.out.drew) hb'); clear F G K hb'; have K := K''; clear K''; have F := K.out.x.hi; have G := K.out.x.lo))
        all_goals go_wp2
        all_goals go_ret
        all_goals exact ⟨by rfl, by first | exact K.out.d | exact K.out.d.drew⟩
end Go.Proofs.Ytkllihomdlibgaa
