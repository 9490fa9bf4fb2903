/- Walk of steeplelaw02.TowerBits over the seat's translation for a level from 1 on, over the contracts of what it calls. -/
import Derived.Test.YtdjndcgocmmmcaaTwBx
namespace Go.Proofs.Ytdjndcgocmmmcaa
open Go.RowKit

set_option maxHeartbeats 8000000 in
set_option maxRecDepth 100000 in
theorem bits_more7 (n lv : Int) (ah al vh vl q r xh xl th tl : Nat) (hb : Nat → Bool)
    (HB : ∀ W, Calls Try.prog 19 #[.int .i64 7, .agg #[.int .u64 (ah : Int), .int .u64 (al : Int)]] W fun e w' => ∃ g, e = .returned (.slice (some ⟨g, 0, none⟩) 128 128) ∧ (w'.rowIs g 4 128 fun i => .bool (hb i)) ∧ Below W.heap.size W w')
    (B1 : Ret 20 #[.int .i64 n] (.agg #[.int .u64 (vh : Int), .int .u64 (vl : Int)])) (B2 : Ret 21 #[.int .i64 n] (.agg #[.int .u64 (vh : Int), .int .u64 (vl : Int)])) (S1 : Ret 10 #[.agg #[.int .u64 (vh : Int), .int .u64 (vl : Int)], .agg #[.int .u64 (vh : Int), .int .u64 (vl : Int)]] (.bool true))
    (L1 : Ret 22 #[.agg #[.int .u64 (ah : Int), .int .u64 (al : Int)]] (.int .i64 lv)) (R1 : Ret 13 #[.agg #[.int .u64 (ah : Int), .int .u64 (al : Int)]] (.agg #[.int .u64 (ah : Int), .int .u64 (al : Int)])) (L2 : Ret 23 #[.agg #[.int .u64 (ah : Int), .int .u64 (al : Int)]] (.int .i64 lv))
    (O1 : Ret 24 #[.int .i64 7, .agg #[.int .u64 (ah : Int), .int .u64 (al : Int)]] (.bool true)) (AW : Ret 9 #[] (.bool true))
    (HH : Hid (∀ j : Nat, j < 128 → Ret 25 #[.agg #[.int .u64 (ah : Int), .int .u64 (al : Int)], .int .i64 (j : Int)] (.bool (hb j))))
    (SP : Ret 26 #[.int .i64 7, .agg #[.int .u64 (ah : Int), .int .u64 (al : Int)]] (.tuple #[.agg #[.int .u64 0, .int .u64 (q : Int)], .agg #[.int .u64 0, .int .u64 (r : Int)]]))
    (RL : Ret 13 #[.agg #[.int .u64 0, .int .u64 (r : Int)]] (.agg #[.int .u64 0, .int .u64 (r : Int)])) (RH : Ret 13 #[.agg #[.int .u64 0, .int .u64 (q : Int)]] (.agg #[.int .u64 0, .int .u64 (q : Int)]))
    (HL : Hid (∀ j : Nat, j < 64 → Ret 25 #[.agg #[.int .u64 0, .int .u64 (r : Int)], .int .i64 (j : Int)] (.bool (hb j)))) (HQ : Hid (∀ j : Nat, j < 64 → Ret 25 #[.agg #[.int .u64 0, .int .u64 (q : Int)], .int .i64 (j : Int)] (.bool (hb (64 + j)))))
    (OQ : Ret 28 #[.int .i64 6, .agg #[.int .u64 0, .int .u64 (q : Int)]] (.bool true)) (OR : Ret 28 #[.int .i64 6, .agg #[.int .u64 0, .int .u64 (r : Int)]] (.bool true))
    (JO : Ret 27 #[.int .i64 7, .agg #[.int .u64 0, .int .u64 (q : Int)], .agg #[.int .u64 0, .int .u64 (r : Int)]] (.agg #[.int .u64 (ah : Int), .int .u64 (al : Int)])) (XK : Ret 18 #[.int .i64 7] (.agg #[.int .u64 (xh : Int), .int .u64 (xl : Int)]))
    (MU : Ret 14 #[.int .i64 7, .agg #[.int .u64 0, .int .u64 (q : Int)], .agg #[.int .u64 (xh : Int), .int .u64 (xl : Int)]] (.agg #[.int .u64 (th : Int), .int .u64 (tl : Int)])) (AD : Ret 11 #[.agg #[.int .u64 (th : Int), .int .u64 (tl : Int)], .agg #[.int .u64 0, .int .u64 (r : Int)]] (.agg #[.int .u64 (ah : Int), .int .u64 (al : Int)])) (W : World) :
    Calls Try.prog 4 #[.int .i64 7, .int .i64 n, .agg #[.int .u64 (ah : Int), .int .u64 (al : Int)]] W fun e w' => e = .returned (.bool true) ∧ Below W.heap.size W w' := by
  go_enter Try.func4, Try.ntmps4
  go_wp2_with fail
  refine (HB _).mono ?_
  rintro e w1 ⟨g, rfl, hrow, hb1⟩
  have K : Ust W w1 g 128 hb ah al := ⟨Ew.below ⟨⟨by simp [go_sem], by simp [go_sem]⟩, by simp [go_sem], by simp [go_sem]⟩ hb1, hrow, ((Below.refl _ _).alloc (Nat.le_refl _) _).trans (hb1.mono (by simp <;> omega))⟩
  clear hb1 hrow HB
  go_upto_region 2 with fail
  have F := K.facts
  go_region_held3 (fun w => w.cell? ⟨W.heap.size, 0, none⟩ = some (.int .u64 (ah : Int)) ∧ w.cell? ⟨W.heap.size, 1, none⟩ = some (.int .u64 (al : Int))) (go_keep) (first | (go_at_call 20; refine (B1.go _).mono ?_; rintro e w' ⟨rfl, hb'⟩; have K'' := Ust.below (w' := w') (by first | exact K | exact K.drew) hb'; clear F K hb'; have K := K''; clear K''; have F := K.facts) | (go_at_call 21; refine (B2.go _).mono ?_; rintro e w' ⟨rfl, hb'⟩; have K'' := Ust.below (w' := w') (by first | exact K | exact K.drew) hb'; clear F K hb'; have K := K''; clear K''; have F := K.facts) | (go_at_call 10; refine (S1.go _).mono ?_; rintro e w' ⟨rfl, hb'⟩; have K'' := Ust.below (w' := w') (by first | exact K | exact K.drew) hb'; clear F K hb'; have K := K''; clear K''; have F := K.facts) | (go_at_call 22; refine (L1.go _).mono ?_; rintro e w' ⟨rfl, hb'⟩; have K'' := Ust.below (w' := w') (by first | exact K | exact K.drew) hb'; clear F K hb'; have K := K''; clear K''; have F := K.facts) | (go_at_call 13; refine (R1.go _).mono ?_; rintro e w' ⟨rfl, hb'⟩; have K'' := Ust.below (w' := w') (by first | exact K | exact K.drew) hb'; clear F K hb'; have K := K''; clear K''; have F := K.facts) | (go_at_call 23; refine (L2.go _).mono ?_; rintro e w' ⟨rfl, hb'⟩; have K'' := Ust.below (w' := w') (by first | exact K | exact K.drew) hb'; clear F K hb'; have K := K''; clear K''; have F := K.facts))
  go_upto_region 4 with fail
  obtain ⟨f1, f0⟩ := F
  have HK : Hid (Ust W _ g 128 hb ah al) := K
  clear K B1 B2 S1 L1 L2
  go_wp2_with fail
  refine (R1.go _).mono ?_
  rintro e w2 ⟨rfl, hb2⟩
  have HK2 : Hid (Ust W w2 g 128 hb ah al) := HK.out.below hb2
  clear hb2 HK f1 f0
  go_wp2_with fail
  refine (O1.go _).mono ?_
  rintro e w3 ⟨rfl, hb3⟩
  have HK3 : Hid (Ust W w3 g 128 hb ah al) := HK2.out.below hb3
  clear hb3 HK2 O1
  go_wp2_with fail
  go_loopw [9] (fun u wr => ∃ j : Nat, j ≤ 128 ∧ u = .int .i64 j ∧ Ust W wr g 128 hb ah al) (fun u _ => 128 - (intOf u).toNat)
  case atStart => exact ⟨0, Nat.zero_le _, rfl, HK3.out.alloc _⟩
  case round =>
    obtain ⟨j, hj, rfl, hU⟩ := hrel
    by_cases hlt : j < 128
    · have H1 := HH.out j hlt
      have KV : Vst W wr g 128 j (hb j) hb ah al := ⟨hU, hlt, rfl⟩
      clear hU HK3
      generalize hbj : hb j = b at *
      cases b
      · have K := KV
        clear KV
        go_upto_region 12 with fail
        have F := K.facts
        go_region_held3 (fun w => (w.cell? ⟨W.heap.size, 0, none⟩ = some (.int .u64 (ah : Int)) ∧ w.cell? ⟨W.heap.size, 1, none⟩ = some (.int .u64 (al : Int))) ∧ w.cell? ⟨g, j, none⟩ = some (.bool false)) (go_keep) (first | (go_at_call 13; refine (R1.go _).mono ?_; rintro e w' ⟨rfl, hb'⟩; have K'' := Vst.below (w' := w') (by first | exact K | exact K.drew) hb'; clear F K hb'; have K := K''; clear K''; have F := K.facts) | (go_at_call 25; refine (H1.go _).mono ?_; rintro e w' ⟨rfl, hb'⟩; have K'' := Vst.below (w' := w') (by first | exact K | exact K.drew) hb'; clear F K hb'; have K := K''; clear K''; have F := K.facts))
        all_goals
          go_wp2
          exact ⟨⟨j + 1, hlt, by simp, K.u⟩, by simp [intOf]; omega⟩
      · have K := KV
        clear KV
        go_upto_region 12 with fail
        have F := K.facts
        go_region_held3 (fun w => (w.cell? ⟨W.heap.size, 0, none⟩ = some (.int .u64 (ah : Int)) ∧ w.cell? ⟨W.heap.size, 1, none⟩ = some (.int .u64 (al : Int))) ∧ w.cell? ⟨g, j, none⟩ = some (.bool true)) (go_keep) (first | (go_at_call 13; refine (R1.go _).mono ?_; rintro e w' ⟨rfl, hb'⟩; have K'' := Vst.below (w' := w') (by first | exact K | exact K.drew) hb'; clear F K hb'; have K := K''; clear K''; have F := K.facts) | (go_at_call 25; refine (H1.go _).mono ?_; rintro e w' ⟨rfl, hb'⟩; have K'' := Vst.below (w' := w') (by first | exact K | exact K.drew) hb'; clear F K hb'; have K := K''; clear K''; have F := K.facts))
        all_goals
          go_wp2
          exact ⟨⟨j + 1, hlt, by simp, K.u⟩, by simp [intOf]; omega⟩
    · obtain rfl : j = 128 := by omega
      have HU : Hid (Ust W wr g 128 hb ah al) := hU
      have f1 := hU.a.hi
      have f0 := hU.a.lo
      clear hU HK3 HH
      go_wp2_with fail
      refine (SP.go _).mono ?_
      rintro e w5 ⟨rfl, hb5⟩
      have HU5 : Hid (Ust W w5 g 128 hb ah al) := HU.out.below hb5
      clear hb5 HU f1 f0 SP R1
      go_wp2_with fail
      go_loopw [12] (fun u wr => ∃ j : Nat, j ≤ 64 ∧ u = .int .i64 j ∧ Xst W wr g 128 hb ah al w5.heap.size q r) (fun u _ => 64 - (intOf u).toNat)
      case atStart => exact ⟨0, Nat.zero_le _, rfl, (HU5.out.alloc _).alloc _, ⟨by simp [go_sem], by simp [go_sem]⟩, ⟨by simp [go_sem], by simp [go_sem]⟩⟩
      case round =>
        obtain ⟨j, hj2, rfl, hX⟩ := hrel
        by_cases hlt : j < 64
        · have H1 := HL.out j hlt
          have H2 := HQ.out j hlt
          have i0 : (0 : Int) ≤ (j : Int) := by omega
          have i1 : (j : Int) < 128 := by omega
          have i2 : IntKind.i64.wrap ((64 : Int) + (j : Int)) = (64 : Int) + (j : Int) := by rw [IntKind.wrap_i64]; omega
          have iw : IntKind.i64.wrap (64 : Int) = 64 := by decide
          have i3 : (0 : Int) ≤ (64 : Int) + (j : Int) := by omega
          have i4 : (64 : Int) + (j : Int) < 128 := by omega
          have i5 : ((64 : Int) + (j : Int)).toNat = 64 + j := by omega
          have KV : Yst W wr g 128 64 j (hb j) (hb (64 + j)) hb ah al w5.heap.size q r := ⟨hX, by omega, rfl, rfl⟩
          clear hX HU5 HL HQ OQ OR JO XK MU AD AW
          generalize w5.heap.size = p at *
          generalize hbj : hb j = b at *
          generalize hbc : hb (64 + j) = c at *
          cases b <;> cases c
          · have K := KV
            clear KV
            go_upto_region 20 with fail
            have F := K.facts
            go_region_held3 (fun w => (w.cell? ⟨p, 0, none⟩ = some (.int .u64 0) ∧ w.cell? ⟨p, 1, none⟩ = some (.int .u64 (q : Int))) ∧ (w.cell? ⟨p + 1, 0, none⟩ = some (.int .u64 0) ∧ w.cell? ⟨p + 1, 1, none⟩ = some (.int .u64 (r : Int))) ∧ w.cell? ⟨g, j, none⟩ = some (.bool false) ∧ w.cell? ⟨g, 64 + j, none⟩ = some (.bool false)) (go_keep) (first | (go_at_call_of 13 (#[.agg #[.int .u64 0, .int .u64 (r : Int)]] : Array Value); refine (RL.go _).mono ?_; rintro e w' ⟨rfl, hb'⟩; have K'' := Yst.below (w' := w') (by first | exact K | exact K.drew) hb'; clear F K hb'; have K := K''; clear K''; have F := K.facts) | (go_at_call_of 13 (#[.agg #[.int .u64 0, .int .u64 (q : Int)]] : Array Value); refine (RH.go _).mono ?_; rintro e w' ⟨rfl, hb'⟩; have K'' := Yst.below (w' := w') (by first | exact K | exact K.drew) hb'; clear F K hb'; have K := K''; clear K''; have F := K.facts) | (go_at_call_of 25 (#[.agg #[.int .u64 0, .int .u64 (r : Int)], .int .i64 (j : Int)] : Array Value); refine (H1.go _).mono ?_; rintro e w' ⟨rfl, hb'⟩; have K'' := Yst.below (w' := w') (by first | exact K | exact K.drew) hb'; clear F K hb'; have K := K''; clear K''; have F := K.facts) | (go_at_call_of 25 (#[.agg #[.int .u64 0, .int .u64 (q : Int)], .int .i64 (j : Int)] : Array Value); refine (H2.go _).mono ?_; rintro e w' ⟨rfl, hb'⟩; have K'' := Yst.below (w' := w') (by first | exact K | exact K.drew) hb'; clear F K hb'; have K := K''; clear K''; have F := K.facts))
            all_goals
              go_wp2
              exact ⟨⟨j + 1, hlt, by simp, K.u⟩, by simp [intOf]; omega⟩
          · have K := KV
            clear KV
            go_upto_region 20 with fail
            have F := K.facts
            go_region_held3 (fun w => (w.cell? ⟨p, 0, none⟩ = some (.int .u64 0) ∧ w.cell? ⟨p, 1, none⟩ = some (.int .u64 (q : Int))) ∧ (w.cell? ⟨p + 1, 0, none⟩ = some (.int .u64 0) ∧ w.cell? ⟨p + 1, 1, none⟩ = some (.int .u64 (r : Int))) ∧ w.cell? ⟨g, j, none⟩ = some (.bool false) ∧ w.cell? ⟨g, 64 + j, none⟩ = some (.bool true)) (go_keep) (first | (go_at_call_of 13 (#[.agg #[.int .u64 0, .int .u64 (r : Int)]] : Array Value); refine (RL.go _).mono ?_; rintro e w' ⟨rfl, hb'⟩; have K'' := Yst.below (w' := w') (by first | exact K | exact K.drew) hb'; clear F K hb'; have K := K''; clear K''; have F := K.facts) | (go_at_call_of 13 (#[.agg #[.int .u64 0, .int .u64 (q : Int)]] : Array Value); refine (RH.go _).mono ?_; rintro e w' ⟨rfl, hb'⟩; have K'' := Yst.below (w' := w') (by first | exact K | exact K.drew) hb'; clear F K hb'; have K := K''; clear K''; have F := K.facts) | (go_at_call_of 25 (#[.agg #[.int .u64 0, .int .u64 (r : Int)], .int .i64 (j : Int)] : Array Value); refine (H1.go _).mono ?_; rintro e w' ⟨rfl, hb'⟩; have K'' := Yst.below (w' := w') (by first | exact K | exact K.drew) hb'; clear F K hb'; have K := K''; clear K''; have F := K.facts) | (go_at_call_of 25 (#[.agg #[.int .u64 0, .int .u64 (q : Int)], .int .i64 (j : Int)] : Array Value); refine (H2.go _).mono ?_; rintro e w' ⟨rfl, hb'⟩; have K'' := Yst.below (w' := w') (by first | exact K | exact K.drew) hb'; clear F K hb'; have K := K''; clear K''; have F := K.facts))
            all_goals
              go_wp2
              exact ⟨⟨j + 1, hlt, by simp, K.u⟩, by simp [intOf]; omega⟩
          · have K := KV
            clear KV
            go_upto_region 20 with fail
            have F := K.facts
            go_region_held3 (fun w => (w.cell? ⟨p, 0, none⟩ = some (.int .u64 0) ∧ w.cell? ⟨p, 1, none⟩ = some (.int .u64 (q : Int))) ∧ (w.cell? ⟨p + 1, 0, none⟩ = some (.int .u64 0) ∧ w.cell? ⟨p + 1, 1, none⟩ = some (.int .u64 (r : Int))) ∧ w.cell? ⟨g, j, none⟩ = some (.bool true) ∧ w.cell? ⟨g, 64 + j, none⟩ = some (.bool false)) (go_keep) (first | (go_at_call_of 13 (#[.agg #[.int .u64 0, .int .u64 (r : Int)]] : Array Value); refine (RL.go _).mono ?_; rintro e w' ⟨rfl, hb'⟩; have K'' := Yst.below (w' := w') (by first | exact K | exact K.drew) hb'; clear F K hb'; have K := K''; clear K''; have F := K.facts) | (go_at_call_of 13 (#[.agg #[.int .u64 0, .int .u64 (q : Int)]] : Array Value); refine (RH.go _).mono ?_; rintro e w' ⟨rfl, hb'⟩; have K'' := Yst.below (w' := w') (by first | exact K | exact K.drew) hb'; clear F K hb'; have K := K''; clear K''; have F := K.facts) | (go_at_call_of 25 (#[.agg #[.int .u64 0, .int .u64 (r : Int)], .int .i64 (j : Int)] : Array Value); refine (H1.go _).mono ?_; rintro e w' ⟨rfl, hb'⟩; have K'' := Yst.below (w' := w') (by first | exact K | exact K.drew) hb'; clear F K hb'; have K := K''; clear K''; have F := K.facts) | (go_at_call_of 25 (#[.agg #[.int .u64 0, .int .u64 (q : Int)], .int .i64 (j : Int)] : Array Value); refine (H2.go _).mono ?_; rintro e w' ⟨rfl, hb'⟩; have K'' := Yst.below (w' := w') (by first | exact K | exact K.drew) hb'; clear F K hb'; have K := K''; clear K''; have F := K.facts))
            all_goals
              go_wp2
              exact ⟨⟨j + 1, hlt, by simp, K.u⟩, by simp [intOf]; omega⟩
          · have K := KV
            clear KV
            go_upto_region 20 with fail
            have F := K.facts
            go_region_held3 (fun w => (w.cell? ⟨p, 0, none⟩ = some (.int .u64 0) ∧ w.cell? ⟨p, 1, none⟩ = some (.int .u64 (q : Int))) ∧ (w.cell? ⟨p + 1, 0, none⟩ = some (.int .u64 0) ∧ w.cell? ⟨p + 1, 1, none⟩ = some (.int .u64 (r : Int))) ∧ w.cell? ⟨g, j, none⟩ = some (.bool true) ∧ w.cell? ⟨g, 64 + j, none⟩ = some (.bool true)) (go_keep) (first | (go_at_call_of 13 (#[.agg #[.int .u64 0, .int .u64 (r : Int)]] : Array Value); refine (RL.go _).mono ?_; rintro e w' ⟨rfl, hb'⟩; have K'' := Yst.below (w' := w') (by first | exact K | exact K.drew) hb'; clear F K hb'; have K := K''; clear K''; have F := K.facts) | (go_at_call_of 13 (#[.agg #[.int .u64 0, .int .u64 (q : Int)]] : Array Value); refine (RH.go _).mono ?_; rintro e w' ⟨rfl, hb'⟩; have K'' := Yst.below (w' := w') (by first | exact K | exact K.drew) hb'; clear F K hb'; have K := K''; clear K''; have F := K.facts) | (go_at_call_of 25 (#[.agg #[.int .u64 0, .int .u64 (r : Int)], .int .i64 (j : Int)] : Array Value); refine (H1.go _).mono ?_; rintro e w' ⟨rfl, hb'⟩; have K'' := Yst.below (w' := w') (by first | exact K | exact K.drew) hb'; clear F K hb'; have K := K''; clear K''; have F := K.facts) | (go_at_call_of 25 (#[.agg #[.int .u64 0, .int .u64 (q : Int)], .int .i64 (j : Int)] : Array Value); refine (H2.go _).mono ?_; rintro e w' ⟨rfl, hb'⟩; have K'' := Yst.below (w' := w') (by first | exact K | exact K.drew) hb'; clear F K hb'; have K := K''; clear K''; have F := K.facts))
            all_goals
              go_wp2
              exact ⟨⟨j + 1, hlt, by simp, K.u⟩, by simp [intOf]; omega⟩
        · obtain rfl : j = 64 := by omega
          have K := hX
          clear hX HU5 HL HQ RL RH
          generalize w5.heap.size = p at *
          have iz : IntKind.i64.wrap (6 : Int) = 6 := by decide
          go_upto_region 22 with fail
          have F := K.facts
          go_region_held3 (fun w => (w.cell? ⟨W.heap.size, 0, none⟩ = some (.int .u64 (ah : Int)) ∧ w.cell? ⟨W.heap.size, 1, none⟩ = some (.int .u64 (al : Int))) ∧ (w.cell? ⟨p, 0, none⟩ = some (.int .u64 0) ∧ w.cell? ⟨p, 1, none⟩ = some (.int .u64 (q : Int))) ∧ (w.cell? ⟨p + 1, 0, none⟩ = some (.int .u64 0) ∧ w.cell? ⟨p + 1, 1, none⟩ = some (.int .u64 (r : Int)))) (go_keep) (first | (go_at_call 9; refine (AW.go _).mono ?_; rintro e w' ⟨rfl, hb'⟩; have K'' := Xst.below (w' := w') (by first | exact K | exact K.drew) hb'; clear F K hb'; have K := K''; clear K''; have F := K.facts) | (go_at_call_of 28 (#[.int .i64 6, .agg #[.int .u64 0, .int .u64 (q : Int)]] : Array Value); refine (OQ.go _).mono ?_; rintro e w' ⟨rfl, hb'⟩; have K'' := Xst.below (w' := w') (by first | exact K | exact K.drew) hb'; clear F K hb'; have K := K''; clear K''; have F := K.facts) | (go_at_call_of 28 (#[.int .i64 6, .agg #[.int .u64 0, .int .u64 (r : Int)]] : Array Value); refine (OR.go _).mono ?_; rintro e w' ⟨rfl, hb'⟩; have K'' := Xst.below (w' := w') (by first | exact K | exact K.drew) hb'; clear F K hb'; have K := K''; clear K''; have F := K.facts) | (go_at_call 27; refine (JO.go _).mono ?_; rintro e w' ⟨rfl, hb'⟩; have K'' := Xst.below (w' := w') (by first | exact K | exact K.drew) hb'; clear F K hb'; have K := K''; clear K''; have F := K.facts) | (go_at_call 18; refine (XK.go _).mono ?_; rintro e w' ⟨rfl, hb'⟩; have K'' := Xst.below (w' := w') (by first | exact K | exact K.drew) hb'; clear F K hb'; have K := K''; clear K''; have F := K.facts) | (go_at_call 14; refine (MU.go _).mono ?_; rintro e w' ⟨rfl, hb'⟩; have K'' := Xst.below (w' := w') (by first | exact K | exact K.drew) hb'; clear F K hb'; have K := K''; clear K''; have F := K.facts) | (go_at_call 11; refine (AD.go _).mono ?_; rintro e w' ⟨rfl, hb'⟩; have K'' := Xst.below (w' := w') (by first | exact K | exact K.drew) hb'; clear F K hb'; have K := K''; clear K''; have F := K.facts))
          all_goals
            go_wp2
            go_ret
            exact ⟨by simp, K.u.d⟩
end Go.Proofs.Ytdjndcgocmmmcaa
