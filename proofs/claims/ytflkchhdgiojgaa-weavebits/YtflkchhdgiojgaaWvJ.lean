/- The walk of WeaveBits over the seat's translation, where bits are gathered. -/
import Derived.Test.YtflkchhdgiojgaaWvI
namespace Go.Proofs.Ytflkchhdgiojgaa
open Go.RowKit

set_option maxHeartbeats 1000000 in
set_option maxRecDepth 100000 in
theorem wb_ok0 (q : Nat) (a : Option Addr) (cap : Nat) (bs : List Bool) (hn : bs.length ≤ 300) (hq : bs.length = q * 2 ^ 0) (W : World) (hr : BRow W a bs) :
    Calls Try.prog 6 #[.int .i64 0, .slice a bs.length cap] W fun e w' => e = .returned (.bool true) ∧ Below W.heap.size W w' := by
  have h1 : ¬ (300 : Int) < (bs.length : Int) := by omega
  have HB := wbits_ok 0 q (by decide) a cap bs (by omega) hq W hr
  have AW : Hid (Ret 7 #[] (.bool true)) := awake9
  have hq' : bs.length = q * 1 := hq
  have h3 : (bs.length : Int).tmod 1 = 0 := by rw [Int.tmod_eq_emod_of_nonneg (by omega)]; omega
  have h4 : (bs.length : Int).tdiv 1 = (q : Int) := by rw [Int.tdiv_eq_ediv_of_nonneg (by omega)]; omega
  have h5 : wrap64 (q : Int) = q := by unfold wrap64; omega
  have hq3 : q ≤ 300 := by omega
  have HR : Hid (BRow W a bs) := hr
  have HQ : Hid (bs.length = q * 2 ^ 0) := hq
  clear hr hq hq'
  go_enter Try.func6, Try.ntmps6
  go_wp2_with (go_at_call 22; refine HB.mono ?_; rintro e w1 ⟨p, rfl, hE, hb1⟩)
  have HE : Hid (ERow w1 (some ⟨p, 0, none⟩) (gB 0 q bs)) := hE
  have HB1 : Hid (Below W.heap.size W w1) := hb1
  clear hE hb1 HB h3 h4
  go_loopw [8] (fun u wr => ∃ j : Nat, j ≤ q ∧ u = .int .i64 j ∧ Below w1.heap.size w1 wr) (fun u _ => q - (intOf u).toNat)
  case atStart => exact ⟨0, Nat.zero_le _, rfl, by go_grown⟩
  case round =>
    obtain ⟨j, hj, rfl, hD⟩ := hrel
    have HD : Hid (Below w1.heap.size w1 wr) := hD
    clear hD
    by_cases hlt : j < q
    · obtain ⟨p', o', e, _, c1, c0⟩ := (HE.out.below HD.out).cells j (by rw [gB_len]; exact hlt)
      simp only [Option.some.injEq, Addr.mk.injEq] at e
      obtain ⟨rfl, rfl, _⟩ := e
      rw [Nat.zero_add] at c1 c0
      have HT : Hid (∀ w, Calls Try.prog 23 #[.int .i64 0, .agg #[.int .u64 (((gB 0 q bs).getD j (0, 0)).1 : Int), .int .u64 (((gB 0 q bs).getD j (0, 0)).2 : Int)]] w fun e w' => ∃ g, e = .returned (.slice (some ⟨g, 0, none⟩) 1 1) ∧ (w'.rowIs g 4 1 fun i => .bool (hasB ((gB 0 q bs).getD j (0, 0)).1 ((gB 0 q bs).getD j (0, 0)).2 i)) ∧ Below w.heap.size w w') := fun w => bits_any 0 (by decide) _ _ (gB_lt 0 q (by decide) bs HQ.out j hlt).1 (gB_lt 0 q (by decide) bs HQ.out j hlt).2 (gB_of 0 q (by decide) bs HQ.out j hlt) w
      have HX : Hid (∀ m, m < 1 → hasB ((gB 0 q bs).getD j (0, 0)).1 ((gB 0 q bs).getD j (0, 0)).2 m = bs.getD (j + m) false) := fun m hm => by have := gB_bit 0 q (by decide) bs HQ.out j hlt m hm; rw [show j * 2 ^ 0 + m = j + m by omega] at this; exact this
      generalize (gB 0 q bs).getD j (0, 0) = x at HT HX c1 c0
      go_wp2_with (go_at_call 23; refine (HT.out _).mono ?_; rintro e w3 ⟨g, rfl, hR, hb3⟩)
      have HRw : Hid (w3.rowIs g 4 1 fun i => .bool (hasB x.1 x.2 i)) := hR
      have HD3 : Hid (Below w1.heap.size w1 w3) := HD.out.trans (hb3.mono HD.out.size)
      clear hR hb3 HD c1 c0 HT
      go_loopw [10] (fun u ws => ∃ m : Nat, m ≤ 1 ∧ u = .int .i64 m ∧ Below w3.heap.size w3 ws) (fun u _ => 1 - (intOf u).toNat)
      case atStart => exact ⟨0, Nat.zero_le _, rfl, Below.refl _ _⟩
      case round =>
        obtain ⟨m, hm, rfl, hDs⟩ := hrel
        have HDs : Hid (Below w3.heap.size w3 wr) := hDs
        clear hDs
        by_cases hmlt : m < 1
        · have hin : j + m < bs.length := by rw [HQ.out]; have := Nat.mul_le_mul_right 1 (show j + 1 ≤ q from hlt); omega
          obtain ⟨b, off, rfl, hb, cb⟩ := HR.out.cells (j + m) hin
          have db : wr.cell? ⟨b, off + (j + m), none⟩ = some (.bool (bs.getD (j + m) false)) := keepc (HDs.out) (keepc ((HD3.out.mono (Nat.le_refl _))) (keepc HB1.out cb))
          have dg := keepc HDs.out (HRw.out.cell hmlt)
          rw [HX.out m hmlt] at dg
          have i1 : IntKind.i64.wrap ((j : Int)) = (j : Int) := by rw [IntKind.wrap_i64]; omega
          have i2 : IntKind.i64.wrap ((j : Int) + (m : Int)) = (j : Int) + m := by rw [IntKind.wrap_i64]; omega
          have i3 : (0 : Int) ≤ (j : Int) + m := by omega
          have i4 : (j : Int) + m < (bs.length : Int) := by omega
          have i5 : ((j : Int) + m).toNat = j + m := by omega
          clear hin
          generalize bs.getD (j + m) false = y at *
          have HDs2 := HDs
          go_wp2_with fail
          go_region_held3 (fun w => w.cell? ⟨g, m, none⟩ = some (.bool y) ∧ w.cell? ⟨b, off + (j + m), none⟩ = some (.bool y)) (go_keep) (fail)
          go_wp2
          exact ⟨⟨m + 1, hmlt, by simp, HDs2.out.drew⟩, by simp [intOf]; omega⟩
        · obtain rfl : m = 1 := by omega
          have HD4 : Hid (Below w1.heap.size w1 wr) := HD3.out.trans (HDs.out.mono HD3.out.size)
          clear HDs HRw HX
          go_wp2
          exact ⟨⟨j + 1, hlt, by simp, HD4.out⟩, by simp [intOf]; omega⟩
    · obtain rfl : j = q := by omega
      go_wp2_with (go_at_call 7; refine (AW.out.go _).mono ?_; rintro e w2 ⟨rfl, hb2⟩)
      go_ret
      have h6 := HB1.out.trans (HD.out.mono HB1.out.size)
      exact ⟨rfl, h6.trans (hb2.mono h6.size)⟩
set_option maxHeartbeats 1000000 in
set_option maxRecDepth 100000 in
theorem wb_ok1 (q : Nat) (a : Option Addr) (cap : Nat) (bs : List Bool) (hn : bs.length ≤ 300) (hq : bs.length = q * 2 ^ 1) (W : World) (hr : BRow W a bs) :
    Calls Try.prog 6 #[.int .i64 1, .slice a bs.length cap] W fun e w' => e = .returned (.bool true) ∧ Below W.heap.size W w' := by
  have h1 : ¬ (300 : Int) < (bs.length : Int) := by omega
  have HB := wbits_ok 1 q (by decide) a cap bs (by omega) hq W hr
  have AW : Hid (Ret 7 #[] (.bool true)) := awake9
  have hq' : bs.length = q * 2 := hq
  have h3 : (bs.length : Int).tmod 2 = 0 := by rw [Int.tmod_eq_emod_of_nonneg (by omega)]; omega
  have h4 : (bs.length : Int).tdiv 2 = (q : Int) := by rw [Int.tdiv_eq_ediv_of_nonneg (by omega)]; omega
  have h5 : wrap64 (q : Int) = q := by unfold wrap64; omega
  have hq3 : q ≤ 300 := by omega
  have HR : Hid (BRow W a bs) := hr
  have HQ : Hid (bs.length = q * 2 ^ 1) := hq
  clear hr hq hq'
  go_enter Try.func6, Try.ntmps6
  go_wp2_with (go_at_call 22; refine HB.mono ?_; rintro e w1 ⟨p, rfl, hE, hb1⟩)
  have HE : Hid (ERow w1 (some ⟨p, 0, none⟩) (gB 1 q bs)) := hE
  have HB1 : Hid (Below W.heap.size W w1) := hb1
  clear hE hb1 HB h3 h4
  go_loopw [8] (fun u wr => ∃ j : Nat, j ≤ q ∧ u = .int .i64 j ∧ Below w1.heap.size w1 wr) (fun u _ => q - (intOf u).toNat)
  case atStart => exact ⟨0, Nat.zero_le _, rfl, by go_grown⟩
  case round =>
    obtain ⟨j, hj, rfl, hD⟩ := hrel
    have HD : Hid (Below w1.heap.size w1 wr) := hD
    clear hD
    by_cases hlt : j < q
    · obtain ⟨p', o', e, _, c1, c0⟩ := (HE.out.below HD.out).cells j (by rw [gB_len]; exact hlt)
      simp only [Option.some.injEq, Addr.mk.injEq] at e
      obtain ⟨rfl, rfl, _⟩ := e
      rw [Nat.zero_add] at c1 c0
      have HT : Hid (∀ w, Calls Try.prog 23 #[.int .i64 1, .agg #[.int .u64 (((gB 1 q bs).getD j (0, 0)).1 : Int), .int .u64 (((gB 1 q bs).getD j (0, 0)).2 : Int)]] w fun e w' => ∃ g, e = .returned (.slice (some ⟨g, 0, none⟩) 2 2) ∧ (w'.rowIs g 4 2 fun i => .bool (hasB ((gB 1 q bs).getD j (0, 0)).1 ((gB 1 q bs).getD j (0, 0)).2 i)) ∧ Below w.heap.size w w') := fun w => bits_any 1 (by decide) _ _ (gB_lt 1 q (by decide) bs HQ.out j hlt).1 (gB_lt 1 q (by decide) bs HQ.out j hlt).2 (gB_of 1 q (by decide) bs HQ.out j hlt) w
      have HX : Hid (∀ m, m < 2 → hasB ((gB 1 q bs).getD j (0, 0)).1 ((gB 1 q bs).getD j (0, 0)).2 m = bs.getD (j * 2 + m) false) := fun m hm => by have := gB_bit 1 q (by decide) bs HQ.out j hlt m hm; rw [show j * 2 ^ 1 + m = j * 2 + m by omega] at this; exact this
      generalize (gB 1 q bs).getD j (0, 0) = x at HT HX c1 c0
      go_wp2_with (go_at_call 23; refine (HT.out _).mono ?_; rintro e w3 ⟨g, rfl, hR, hb3⟩)
      have HRw : Hid (w3.rowIs g 4 2 fun i => .bool (hasB x.1 x.2 i)) := hR
      have HD3 : Hid (Below w1.heap.size w1 w3) := HD.out.trans (hb3.mono HD.out.size)
      clear hR hb3 HD c1 c0 HT
      go_loopw [10] (fun u ws => ∃ m : Nat, m ≤ 2 ∧ u = .int .i64 m ∧ Below w3.heap.size w3 ws) (fun u _ => 2 - (intOf u).toNat)
      case atStart => exact ⟨0, Nat.zero_le _, rfl, Below.refl _ _⟩
      case round =>
        obtain ⟨m, hm, rfl, hDs⟩ := hrel
        have HDs : Hid (Below w3.heap.size w3 wr) := hDs
        clear hDs
        by_cases hmlt : m < 2
        · have hin : j * 2 + m < bs.length := by rw [HQ.out]; have := Nat.mul_le_mul_right 2 (show j + 1 ≤ q from hlt); omega
          obtain ⟨b, off, rfl, hb, cb⟩ := HR.out.cells (j * 2 + m) hin
          have db : wr.cell? ⟨b, off + (j * 2 + m), none⟩ = some (.bool (bs.getD (j * 2 + m) false)) := keepc (HDs.out) (keepc ((HD3.out.mono (Nat.le_refl _))) (keepc HB1.out cb))
          have dg := keepc HDs.out (HRw.out.cell hmlt)
          rw [HX.out m hmlt] at dg
          have i1 : IntKind.i64.wrap ((j : Int) * 2) = (j : Int) * 2 := by rw [IntKind.wrap_i64]; omega
          have i2 : IntKind.i64.wrap ((j : Int) * 2 + (m : Int)) = (j : Int) * 2 + m := by rw [IntKind.wrap_i64]; omega
          have i3 : (0 : Int) ≤ (j : Int) * 2 + m := by omega
          have i4 : (j : Int) * 2 + m < (bs.length : Int) := by omega
          have i5 : ((j : Int) * 2 + m).toNat = j * 2 + m := by omega
          clear hin
          generalize bs.getD (j * 2 + m) false = y at *
          have HDs2 := HDs
          go_wp2_with fail
          go_region_held3 (fun w => w.cell? ⟨g, m, none⟩ = some (.bool y) ∧ w.cell? ⟨b, off + (j * 2 + m), none⟩ = some (.bool y)) (go_keep) (fail)
          go_wp2
          exact ⟨⟨m + 1, hmlt, by simp, HDs2.out.drew⟩, by simp [intOf]; omega⟩
        · obtain rfl : m = 2 := by omega
          have HD4 : Hid (Below w1.heap.size w1 wr) := HD3.out.trans (HDs.out.mono HD3.out.size)
          clear HDs HRw HX
          go_wp2
          exact ⟨⟨j + 1, hlt, by simp, HD4.out⟩, by simp [intOf]; omega⟩
    · obtain rfl : j = q := by omega
      go_wp2_with (go_at_call 7; refine (AW.out.go _).mono ?_; rintro e w2 ⟨rfl, hb2⟩)
      go_ret
      have h6 := HB1.out.trans (HD.out.mono HB1.out.size)
      exact ⟨rfl, h6.trans (hb2.mono h6.size)⟩
set_option maxHeartbeats 1000000 in
set_option maxRecDepth 100000 in
theorem wb_ok2 (q : Nat) (a : Option Addr) (cap : Nat) (bs : List Bool) (hn : bs.length ≤ 300) (hq : bs.length = q * 2 ^ 2) (W : World) (hr : BRow W a bs) :
    Calls Try.prog 6 #[.int .i64 2, .slice a bs.length cap] W fun e w' => e = .returned (.bool true) ∧ Below W.heap.size W w' := by
  have h1 : ¬ (300 : Int) < (bs.length : Int) := by omega
  have HB := wbits_ok 2 q (by decide) a cap bs (by omega) hq W hr
  have AW : Hid (Ret 7 #[] (.bool true)) := awake9
  have hq' : bs.length = q * 4 := hq
  have h3 : (bs.length : Int).tmod 4 = 0 := by rw [Int.tmod_eq_emod_of_nonneg (by omega)]; omega
  have h4 : (bs.length : Int).tdiv 4 = (q : Int) := by rw [Int.tdiv_eq_ediv_of_nonneg (by omega)]; omega
  have h5 : wrap64 (q : Int) = q := by unfold wrap64; omega
  have hq3 : q ≤ 300 := by omega
  have HR : Hid (BRow W a bs) := hr
  have HQ : Hid (bs.length = q * 2 ^ 2) := hq
  clear hr hq hq'
  go_enter Try.func6, Try.ntmps6
  go_wp2_with (go_at_call 22; refine HB.mono ?_; rintro e w1 ⟨p, rfl, hE, hb1⟩)
  have HE : Hid (ERow w1 (some ⟨p, 0, none⟩) (gB 2 q bs)) := hE
  have HB1 : Hid (Below W.heap.size W w1) := hb1
  clear hE hb1 HB h3 h4
  go_loopw [8] (fun u wr => ∃ j : Nat, j ≤ q ∧ u = .int .i64 j ∧ Below w1.heap.size w1 wr) (fun u _ => q - (intOf u).toNat)
  case atStart => exact ⟨0, Nat.zero_le _, rfl, by go_grown⟩
  case round =>
    obtain ⟨j, hj, rfl, hD⟩ := hrel
    have HD : Hid (Below w1.heap.size w1 wr) := hD
    clear hD
    by_cases hlt : j < q
    · obtain ⟨p', o', e, _, c1, c0⟩ := (HE.out.below HD.out).cells j (by rw [gB_len]; exact hlt)
      simp only [Option.some.injEq, Addr.mk.injEq] at e
      obtain ⟨rfl, rfl, _⟩ := e
      rw [Nat.zero_add] at c1 c0
      have HT : Hid (∀ w, Calls Try.prog 23 #[.int .i64 2, .agg #[.int .u64 (((gB 2 q bs).getD j (0, 0)).1 : Int), .int .u64 (((gB 2 q bs).getD j (0, 0)).2 : Int)]] w fun e w' => ∃ g, e = .returned (.slice (some ⟨g, 0, none⟩) 4 4) ∧ (w'.rowIs g 4 4 fun i => .bool (hasB ((gB 2 q bs).getD j (0, 0)).1 ((gB 2 q bs).getD j (0, 0)).2 i)) ∧ Below w.heap.size w w') := fun w => bits_any 2 (by decide) _ _ (gB_lt 2 q (by decide) bs HQ.out j hlt).1 (gB_lt 2 q (by decide) bs HQ.out j hlt).2 (gB_of 2 q (by decide) bs HQ.out j hlt) w
      have HX : Hid (∀ m, m < 4 → hasB ((gB 2 q bs).getD j (0, 0)).1 ((gB 2 q bs).getD j (0, 0)).2 m = bs.getD (j * 4 + m) false) := fun m hm => by have := gB_bit 2 q (by decide) bs HQ.out j hlt m hm; rw [show j * 2 ^ 2 + m = j * 4 + m by omega] at this; exact this
      generalize (gB 2 q bs).getD j (0, 0) = x at HT HX c1 c0
      go_wp2_with (go_at_call 23; refine (HT.out _).mono ?_; rintro e w3 ⟨g, rfl, hR, hb3⟩)
      have HRw : Hid (w3.rowIs g 4 4 fun i => .bool (hasB x.1 x.2 i)) := hR
      have HD3 : Hid (Below w1.heap.size w1 w3) := HD.out.trans (hb3.mono HD.out.size)
      clear hR hb3 HD c1 c0 HT
      go_loopw [10] (fun u ws => ∃ m : Nat, m ≤ 4 ∧ u = .int .i64 m ∧ Below w3.heap.size w3 ws) (fun u _ => 4 - (intOf u).toNat)
      case atStart => exact ⟨0, Nat.zero_le _, rfl, Below.refl _ _⟩
      case round =>
        obtain ⟨m, hm, rfl, hDs⟩ := hrel
        have HDs : Hid (Below w3.heap.size w3 wr) := hDs
        clear hDs
        by_cases hmlt : m < 4
        · have hin : j * 4 + m < bs.length := by rw [HQ.out]; have := Nat.mul_le_mul_right 4 (show j + 1 ≤ q from hlt); omega
          obtain ⟨b, off, rfl, hb, cb⟩ := HR.out.cells (j * 4 + m) hin
          have db : wr.cell? ⟨b, off + (j * 4 + m), none⟩ = some (.bool (bs.getD (j * 4 + m) false)) := keepc (HDs.out) (keepc ((HD3.out.mono (Nat.le_refl _))) (keepc HB1.out cb))
          have dg := keepc HDs.out (HRw.out.cell hmlt)
          rw [HX.out m hmlt] at dg
          have i1 : IntKind.i64.wrap ((j : Int) * 4) = (j : Int) * 4 := by rw [IntKind.wrap_i64]; omega
          have i2 : IntKind.i64.wrap ((j : Int) * 4 + (m : Int)) = (j : Int) * 4 + m := by rw [IntKind.wrap_i64]; omega
          have i3 : (0 : Int) ≤ (j : Int) * 4 + m := by omega
          have i4 : (j : Int) * 4 + m < (bs.length : Int) := by omega
          have i5 : ((j : Int) * 4 + m).toNat = j * 4 + m := by omega
          clear hin
          generalize bs.getD (j * 4 + m) false = y at *
          have HDs2 := HDs
          go_wp2_with fail
          go_region_held3 (fun w => w.cell? ⟨g, m, none⟩ = some (.bool y) ∧ w.cell? ⟨b, off + (j * 4 + m), none⟩ = some (.bool y)) (go_keep) (fail)
          go_wp2
          exact ⟨⟨m + 1, hmlt, by simp, HDs2.out.drew⟩, by simp [intOf]; omega⟩
        · obtain rfl : m = 4 := by omega
          have HD4 : Hid (Below w1.heap.size w1 wr) := HD3.out.trans (HDs.out.mono HD3.out.size)
          clear HDs HRw HX
          go_wp2
          exact ⟨⟨j + 1, hlt, by simp, HD4.out⟩, by simp [intOf]; omega⟩
    · obtain rfl : j = q := by omega
      go_wp2_with (go_at_call 7; refine (AW.out.go _).mono ?_; rintro e w2 ⟨rfl, hb2⟩)
      go_ret
      have h6 := HB1.out.trans (HD.out.mono HB1.out.size)
      exact ⟨rfl, h6.trans (hb2.mono h6.size)⟩
set_option maxHeartbeats 1000000 in
set_option maxRecDepth 100000 in
theorem wb_ok3 (q : Nat) (a : Option Addr) (cap : Nat) (bs : List Bool) (hn : bs.length ≤ 300) (hq : bs.length = q * 2 ^ 3) (W : World) (hr : BRow W a bs) :
    Calls Try.prog 6 #[.int .i64 3, .slice a bs.length cap] W fun e w' => e = .returned (.bool true) ∧ Below W.heap.size W w' := by
  have h1 : ¬ (300 : Int) < (bs.length : Int) := by omega
  have HB := wbits_ok 3 q (by decide) a cap bs (by omega) hq W hr
  have AW : Hid (Ret 7 #[] (.bool true)) := awake9
  have hq' : bs.length = q * 8 := hq
  have h3 : (bs.length : Int).tmod 8 = 0 := by rw [Int.tmod_eq_emod_of_nonneg (by omega)]; omega
  have h4 : (bs.length : Int).tdiv 8 = (q : Int) := by rw [Int.tdiv_eq_ediv_of_nonneg (by omega)]; omega
  have h5 : wrap64 (q : Int) = q := by unfold wrap64; omega
  have hq3 : q ≤ 300 := by omega
  have HR : Hid (BRow W a bs) := hr
  have HQ : Hid (bs.length = q * 2 ^ 3) := hq
  clear hr hq hq'
  go_enter Try.func6, Try.ntmps6
  go_wp2_with (go_at_call 22; refine HB.mono ?_; rintro e w1 ⟨p, rfl, hE, hb1⟩)
  have HE : Hid (ERow w1 (some ⟨p, 0, none⟩) (gB 3 q bs)) := hE
  have HB1 : Hid (Below W.heap.size W w1) := hb1
  clear hE hb1 HB h3 h4
  go_loopw [8] (fun u wr => ∃ j : Nat, j ≤ q ∧ u = .int .i64 j ∧ Below w1.heap.size w1 wr) (fun u _ => q - (intOf u).toNat)
  case atStart => exact ⟨0, Nat.zero_le _, rfl, by go_grown⟩
  case round =>
    obtain ⟨j, hj, rfl, hD⟩ := hrel
    have HD : Hid (Below w1.heap.size w1 wr) := hD
    clear hD
    by_cases hlt : j < q
    · obtain ⟨p', o', e, _, c1, c0⟩ := (HE.out.below HD.out).cells j (by rw [gB_len]; exact hlt)
      simp only [Option.some.injEq, Addr.mk.injEq] at e
      obtain ⟨rfl, rfl, _⟩ := e
      rw [Nat.zero_add] at c1 c0
      have HT : Hid (∀ w, Calls Try.prog 23 #[.int .i64 3, .agg #[.int .u64 (((gB 3 q bs).getD j (0, 0)).1 : Int), .int .u64 (((gB 3 q bs).getD j (0, 0)).2 : Int)]] w fun e w' => ∃ g, e = .returned (.slice (some ⟨g, 0, none⟩) 8 8) ∧ (w'.rowIs g 4 8 fun i => .bool (hasB ((gB 3 q bs).getD j (0, 0)).1 ((gB 3 q bs).getD j (0, 0)).2 i)) ∧ Below w.heap.size w w') := fun w => bits_any 3 (by decide) _ _ (gB_lt 3 q (by decide) bs HQ.out j hlt).1 (gB_lt 3 q (by decide) bs HQ.out j hlt).2 (gB_of 3 q (by decide) bs HQ.out j hlt) w
      have HX : Hid (∀ m, m < 8 → hasB ((gB 3 q bs).getD j (0, 0)).1 ((gB 3 q bs).getD j (0, 0)).2 m = bs.getD (j * 8 + m) false) := fun m hm => by have := gB_bit 3 q (by decide) bs HQ.out j hlt m hm; rw [show j * 2 ^ 3 + m = j * 8 + m by omega] at this; exact this
      generalize (gB 3 q bs).getD j (0, 0) = x at HT HX c1 c0
      go_wp2_with (go_at_call 23; refine (HT.out _).mono ?_; rintro e w3 ⟨g, rfl, hR, hb3⟩)
      have HRw : Hid (w3.rowIs g 4 8 fun i => .bool (hasB x.1 x.2 i)) := hR
      have HD3 : Hid (Below w1.heap.size w1 w3) := HD.out.trans (hb3.mono HD.out.size)
      clear hR hb3 HD c1 c0 HT
      go_loopw [10] (fun u ws => ∃ m : Nat, m ≤ 8 ∧ u = .int .i64 m ∧ Below w3.heap.size w3 ws) (fun u _ => 8 - (intOf u).toNat)
      case atStart => exact ⟨0, Nat.zero_le _, rfl, Below.refl _ _⟩
      case round =>
        obtain ⟨m, hm, rfl, hDs⟩ := hrel
        have HDs : Hid (Below w3.heap.size w3 wr) := hDs
        clear hDs
        by_cases hmlt : m < 8
        · have hin : j * 8 + m < bs.length := by rw [HQ.out]; have := Nat.mul_le_mul_right 8 (show j + 1 ≤ q from hlt); omega
          obtain ⟨b, off, rfl, hb, cb⟩ := HR.out.cells (j * 8 + m) hin
          have db : wr.cell? ⟨b, off + (j * 8 + m), none⟩ = some (.bool (bs.getD (j * 8 + m) false)) := keepc (HDs.out) (keepc ((HD3.out.mono (Nat.le_refl _))) (keepc HB1.out cb))
          have dg := keepc HDs.out (HRw.out.cell hmlt)
          rw [HX.out m hmlt] at dg
          have i1 : IntKind.i64.wrap ((j : Int) * 8) = (j : Int) * 8 := by rw [IntKind.wrap_i64]; omega
          have i2 : IntKind.i64.wrap ((j : Int) * 8 + (m : Int)) = (j : Int) * 8 + m := by rw [IntKind.wrap_i64]; omega
          have i3 : (0 : Int) ≤ (j : Int) * 8 + m := by omega
          have i4 : (j : Int) * 8 + m < (bs.length : Int) := by omega
          have i5 : ((j : Int) * 8 + m).toNat = j * 8 + m := by omega
          clear hin
          generalize bs.getD (j * 8 + m) false = y at *
          have HDs2 := HDs
          go_wp2_with fail
          go_region_held3 (fun w => w.cell? ⟨g, m, none⟩ = some (.bool y) ∧ w.cell? ⟨b, off + (j * 8 + m), none⟩ = some (.bool y)) (go_keep) (fail)
          go_wp2
          exact ⟨⟨m + 1, hmlt, by simp, HDs2.out.drew⟩, by simp [intOf]; omega⟩
        · obtain rfl : m = 8 := by omega
          have HD4 : Hid (Below w1.heap.size w1 wr) := HD3.out.trans (HDs.out.mono HD3.out.size)
          clear HDs HRw HX
          go_wp2
          exact ⟨⟨j + 1, hlt, by simp, HD4.out⟩, by simp [intOf]; omega⟩
    · obtain rfl : j = q := by omega
      go_wp2_with (go_at_call 7; refine (AW.out.go _).mono ?_; rintro e w2 ⟨rfl, hb2⟩)
      go_ret
      have h6 := HB1.out.trans (HD.out.mono HB1.out.size)
      exact ⟨rfl, h6.trans (hb2.mono h6.size)⟩
set_option maxHeartbeats 1000000 in
set_option maxRecDepth 100000 in
theorem wb_ok4 (q : Nat) (a : Option Addr) (cap : Nat) (bs : List Bool) (hn : bs.length ≤ 300) (hq : bs.length = q * 2 ^ 4) (W : World) (hr : BRow W a bs) :
    Calls Try.prog 6 #[.int .i64 4, .slice a bs.length cap] W fun e w' => e = .returned (.bool true) ∧ Below W.heap.size W w' := by
  have h1 : ¬ (300 : Int) < (bs.length : Int) := by omega
  have HB := wbits_ok 4 q (by decide) a cap bs (by omega) hq W hr
  have AW : Hid (Ret 7 #[] (.bool true)) := awake9
  have hq' : bs.length = q * 16 := hq
  have h3 : (bs.length : Int).tmod 16 = 0 := by rw [Int.tmod_eq_emod_of_nonneg (by omega)]; omega
  have h4 : (bs.length : Int).tdiv 16 = (q : Int) := by rw [Int.tdiv_eq_ediv_of_nonneg (by omega)]; omega
  have h5 : wrap64 (q : Int) = q := by unfold wrap64; omega
  have hq3 : q ≤ 300 := by omega
  have HR : Hid (BRow W a bs) := hr
  have HQ : Hid (bs.length = q * 2 ^ 4) := hq
  clear hr hq hq'
  go_enter Try.func6, Try.ntmps6
  go_wp2_with (go_at_call 22; refine HB.mono ?_; rintro e w1 ⟨p, rfl, hE, hb1⟩)
  have HE : Hid (ERow w1 (some ⟨p, 0, none⟩) (gB 4 q bs)) := hE
  have HB1 : Hid (Below W.heap.size W w1) := hb1
  clear hE hb1 HB h3 h4
  go_loopw [8] (fun u wr => ∃ j : Nat, j ≤ q ∧ u = .int .i64 j ∧ Below w1.heap.size w1 wr) (fun u _ => q - (intOf u).toNat)
  case atStart => exact ⟨0, Nat.zero_le _, rfl, by go_grown⟩
  case round =>
    obtain ⟨j, hj, rfl, hD⟩ := hrel
    have HD : Hid (Below w1.heap.size w1 wr) := hD
    clear hD
    by_cases hlt : j < q
    · obtain ⟨p', o', e, _, c1, c0⟩ := (HE.out.below HD.out).cells j (by rw [gB_len]; exact hlt)
      simp only [Option.some.injEq, Addr.mk.injEq] at e
      obtain ⟨rfl, rfl, _⟩ := e
      rw [Nat.zero_add] at c1 c0
      have HT : Hid (∀ w, Calls Try.prog 23 #[.int .i64 4, .agg #[.int .u64 (((gB 4 q bs).getD j (0, 0)).1 : Int), .int .u64 (((gB 4 q bs).getD j (0, 0)).2 : Int)]] w fun e w' => ∃ g, e = .returned (.slice (some ⟨g, 0, none⟩) 16 16) ∧ (w'.rowIs g 4 16 fun i => .bool (hasB ((gB 4 q bs).getD j (0, 0)).1 ((gB 4 q bs).getD j (0, 0)).2 i)) ∧ Below w.heap.size w w') := fun w => bits_any 4 (by decide) _ _ (gB_lt 4 q (by decide) bs HQ.out j hlt).1 (gB_lt 4 q (by decide) bs HQ.out j hlt).2 (gB_of 4 q (by decide) bs HQ.out j hlt) w
      have HX : Hid (∀ m, m < 16 → hasB ((gB 4 q bs).getD j (0, 0)).1 ((gB 4 q bs).getD j (0, 0)).2 m = bs.getD (j * 16 + m) false) := fun m hm => by have := gB_bit 4 q (by decide) bs HQ.out j hlt m hm; rw [show j * 2 ^ 4 + m = j * 16 + m by omega] at this; exact this
      generalize (gB 4 q bs).getD j (0, 0) = x at HT HX c1 c0
      go_wp2_with (go_at_call 23; refine (HT.out _).mono ?_; rintro e w3 ⟨g, rfl, hR, hb3⟩)
      have HRw : Hid (w3.rowIs g 4 16 fun i => .bool (hasB x.1 x.2 i)) := hR
      have HD3 : Hid (Below w1.heap.size w1 w3) := HD.out.trans (hb3.mono HD.out.size)
      clear hR hb3 HD c1 c0 HT
      go_loopw [10] (fun u ws => ∃ m : Nat, m ≤ 16 ∧ u = .int .i64 m ∧ Below w3.heap.size w3 ws) (fun u _ => 16 - (intOf u).toNat)
      case atStart => exact ⟨0, Nat.zero_le _, rfl, Below.refl _ _⟩
      case round =>
        obtain ⟨m, hm, rfl, hDs⟩ := hrel
        have HDs : Hid (Below w3.heap.size w3 wr) := hDs
        clear hDs
        by_cases hmlt : m < 16
        · have hin : j * 16 + m < bs.length := by rw [HQ.out]; have := Nat.mul_le_mul_right 16 (show j + 1 ≤ q from hlt); omega
          obtain ⟨b, off, rfl, hb, cb⟩ := HR.out.cells (j * 16 + m) hin
          have db : wr.cell? ⟨b, off + (j * 16 + m), none⟩ = some (.bool (bs.getD (j * 16 + m) false)) := keepc (HDs.out) (keepc ((HD3.out.mono (Nat.le_refl _))) (keepc HB1.out cb))
          have dg := keepc HDs.out (HRw.out.cell hmlt)
          rw [HX.out m hmlt] at dg
          have i1 : IntKind.i64.wrap ((j : Int) * 16) = (j : Int) * 16 := by rw [IntKind.wrap_i64]; omega
          have i2 : IntKind.i64.wrap ((j : Int) * 16 + (m : Int)) = (j : Int) * 16 + m := by rw [IntKind.wrap_i64]; omega
          have i3 : (0 : Int) ≤ (j : Int) * 16 + m := by omega
          have i4 : (j : Int) * 16 + m < (bs.length : Int) := by omega
          have i5 : ((j : Int) * 16 + m).toNat = j * 16 + m := by omega
          clear hin
          generalize bs.getD (j * 16 + m) false = y at *
          have HDs2 := HDs
          go_wp2_with fail
          go_region_held3 (fun w => w.cell? ⟨g, m, none⟩ = some (.bool y) ∧ w.cell? ⟨b, off + (j * 16 + m), none⟩ = some (.bool y)) (go_keep) (fail)
          go_wp2
          exact ⟨⟨m + 1, hmlt, by simp, HDs2.out.drew⟩, by simp [intOf]; omega⟩
        · obtain rfl : m = 16 := by omega
          have HD4 : Hid (Below w1.heap.size w1 wr) := HD3.out.trans (HDs.out.mono HD3.out.size)
          clear HDs HRw HX
          go_wp2
          exact ⟨⟨j + 1, hlt, by simp, HD4.out⟩, by simp [intOf]; omega⟩
    · obtain rfl : j = q := by omega
      go_wp2_with (go_at_call 7; refine (AW.out.go _).mono ?_; rintro e w2 ⟨rfl, hb2⟩)
      go_ret
      have h6 := HB1.out.trans (HD.out.mono HB1.out.size)
      exact ⟨rfl, h6.trans (hb2.mono h6.size)⟩
set_option maxHeartbeats 1000000 in
set_option maxRecDepth 100000 in
theorem wb_ok5 (q : Nat) (a : Option Addr) (cap : Nat) (bs : List Bool) (hn : bs.length ≤ 300) (hq : bs.length = q * 2 ^ 5) (W : World) (hr : BRow W a bs) :
    Calls Try.prog 6 #[.int .i64 5, .slice a bs.length cap] W fun e w' => e = .returned (.bool true) ∧ Below W.heap.size W w' := by
  have h1 : ¬ (300 : Int) < (bs.length : Int) := by omega
  have HB := wbits_ok 5 q (by decide) a cap bs (by omega) hq W hr
  have AW : Hid (Ret 7 #[] (.bool true)) := awake9
  have hq' : bs.length = q * 32 := hq
  have h3 : (bs.length : Int).tmod 32 = 0 := by rw [Int.tmod_eq_emod_of_nonneg (by omega)]; omega
  have h4 : (bs.length : Int).tdiv 32 = (q : Int) := by rw [Int.tdiv_eq_ediv_of_nonneg (by omega)]; omega
  have h5 : wrap64 (q : Int) = q := by unfold wrap64; omega
  have hq3 : q ≤ 300 := by omega
  have HR : Hid (BRow W a bs) := hr
  have HQ : Hid (bs.length = q * 2 ^ 5) := hq
  clear hr hq hq'
  go_enter Try.func6, Try.ntmps6
  go_wp2_with (go_at_call 22; refine HB.mono ?_; rintro e w1 ⟨p, rfl, hE, hb1⟩)
  have HE : Hid (ERow w1 (some ⟨p, 0, none⟩) (gB 5 q bs)) := hE
  have HB1 : Hid (Below W.heap.size W w1) := hb1
  clear hE hb1 HB h3 h4
  go_loopw [8] (fun u wr => ∃ j : Nat, j ≤ q ∧ u = .int .i64 j ∧ Below w1.heap.size w1 wr) (fun u _ => q - (intOf u).toNat)
  case atStart => exact ⟨0, Nat.zero_le _, rfl, by go_grown⟩
  case round =>
    obtain ⟨j, hj, rfl, hD⟩ := hrel
    have HD : Hid (Below w1.heap.size w1 wr) := hD
    clear hD
    by_cases hlt : j < q
    · obtain ⟨p', o', e, _, c1, c0⟩ := (HE.out.below HD.out).cells j (by rw [gB_len]; exact hlt)
      simp only [Option.some.injEq, Addr.mk.injEq] at e
      obtain ⟨rfl, rfl, _⟩ := e
      rw [Nat.zero_add] at c1 c0
      have HT : Hid (∀ w, Calls Try.prog 23 #[.int .i64 5, .agg #[.int .u64 (((gB 5 q bs).getD j (0, 0)).1 : Int), .int .u64 (((gB 5 q bs).getD j (0, 0)).2 : Int)]] w fun e w' => ∃ g, e = .returned (.slice (some ⟨g, 0, none⟩) 32 32) ∧ (w'.rowIs g 4 32 fun i => .bool (hasB ((gB 5 q bs).getD j (0, 0)).1 ((gB 5 q bs).getD j (0, 0)).2 i)) ∧ Below w.heap.size w w') := fun w => bits_any 5 (by decide) _ _ (gB_lt 5 q (by decide) bs HQ.out j hlt).1 (gB_lt 5 q (by decide) bs HQ.out j hlt).2 (gB_of 5 q (by decide) bs HQ.out j hlt) w
      have HX : Hid (∀ m, m < 32 → hasB ((gB 5 q bs).getD j (0, 0)).1 ((gB 5 q bs).getD j (0, 0)).2 m = bs.getD (j * 32 + m) false) := fun m hm => by have := gB_bit 5 q (by decide) bs HQ.out j hlt m hm; rw [show j * 2 ^ 5 + m = j * 32 + m by omega] at this; exact this
      generalize (gB 5 q bs).getD j (0, 0) = x at HT HX c1 c0
      go_wp2_with (go_at_call 23; refine (HT.out _).mono ?_; rintro e w3 ⟨g, rfl, hR, hb3⟩)
      have HRw : Hid (w3.rowIs g 4 32 fun i => .bool (hasB x.1 x.2 i)) := hR
      have HD3 : Hid (Below w1.heap.size w1 w3) := HD.out.trans (hb3.mono HD.out.size)
      clear hR hb3 HD c1 c0 HT
      go_loopw [10] (fun u ws => ∃ m : Nat, m ≤ 32 ∧ u = .int .i64 m ∧ Below w3.heap.size w3 ws) (fun u _ => 32 - (intOf u).toNat)
      case atStart => exact ⟨0, Nat.zero_le _, rfl, Below.refl _ _⟩
      case round =>
        obtain ⟨m, hm, rfl, hDs⟩ := hrel
        have HDs : Hid (Below w3.heap.size w3 wr) := hDs
        clear hDs
        by_cases hmlt : m < 32
        · have hin : j * 32 + m < bs.length := by rw [HQ.out]; have := Nat.mul_le_mul_right 32 (show j + 1 ≤ q from hlt); omega
          obtain ⟨b, off, rfl, hb, cb⟩ := HR.out.cells (j * 32 + m) hin
          have db : wr.cell? ⟨b, off + (j * 32 + m), none⟩ = some (.bool (bs.getD (j * 32 + m) false)) := keepc (HDs.out) (keepc ((HD3.out.mono (Nat.le_refl _))) (keepc HB1.out cb))
          have dg := keepc HDs.out (HRw.out.cell hmlt)
          rw [HX.out m hmlt] at dg
          have i1 : IntKind.i64.wrap ((j : Int) * 32) = (j : Int) * 32 := by rw [IntKind.wrap_i64]; omega
          have i2 : IntKind.i64.wrap ((j : Int) * 32 + (m : Int)) = (j : Int) * 32 + m := by rw [IntKind.wrap_i64]; omega
          have i3 : (0 : Int) ≤ (j : Int) * 32 + m := by omega
          have i4 : (j : Int) * 32 + m < (bs.length : Int) := by omega
          have i5 : ((j : Int) * 32 + m).toNat = j * 32 + m := by omega
          clear hin
          generalize bs.getD (j * 32 + m) false = y at *
          have HDs2 := HDs
          go_wp2_with fail
          go_region_held3 (fun w => w.cell? ⟨g, m, none⟩ = some (.bool y) ∧ w.cell? ⟨b, off + (j * 32 + m), none⟩ = some (.bool y)) (go_keep) (fail)
          go_wp2
          exact ⟨⟨m + 1, hmlt, by simp, HDs2.out.drew⟩, by simp [intOf]; omega⟩
        · obtain rfl : m = 32 := by omega
          have HD4 : Hid (Below w1.heap.size w1 wr) := HD3.out.trans (HDs.out.mono HD3.out.size)
          clear HDs HRw HX
          go_wp2
          exact ⟨⟨j + 1, hlt, by simp, HD4.out⟩, by simp [intOf]; omega⟩
    · obtain rfl : j = q := by omega
      go_wp2_with (go_at_call 7; refine (AW.out.go _).mono ?_; rintro e w2 ⟨rfl, hb2⟩)
      go_ret
      have h6 := HB1.out.trans (HD.out.mono HB1.out.size)
      exact ⟨rfl, h6.trans (hb2.mono h6.size)⟩
set_option maxHeartbeats 1000000 in
set_option maxRecDepth 100000 in
theorem wb_ok6 (q : Nat) (a : Option Addr) (cap : Nat) (bs : List Bool) (hn : bs.length ≤ 300) (hq : bs.length = q * 2 ^ 6) (W : World) (hr : BRow W a bs) :
    Calls Try.prog 6 #[.int .i64 6, .slice a bs.length cap] W fun e w' => e = .returned (.bool true) ∧ Below W.heap.size W w' := by
  have h1 : ¬ (300 : Int) < (bs.length : Int) := by omega
  have HB := wbits_ok 6 q (by decide) a cap bs (by omega) hq W hr
  have AW : Hid (Ret 7 #[] (.bool true)) := awake9
  have hq' : bs.length = q * 64 := hq
  have h3 : (bs.length : Int).tmod 64 = 0 := by rw [Int.tmod_eq_emod_of_nonneg (by omega)]; omega
  have h4 : (bs.length : Int).tdiv 64 = (q : Int) := by rw [Int.tdiv_eq_ediv_of_nonneg (by omega)]; omega
  have h5 : wrap64 (q : Int) = q := by unfold wrap64; omega
  have hq3 : q ≤ 300 := by omega
  have HR : Hid (BRow W a bs) := hr
  have HQ : Hid (bs.length = q * 2 ^ 6) := hq
  clear hr hq hq'
  go_enter Try.func6, Try.ntmps6
  go_wp2_with (go_at_call 22; refine HB.mono ?_; rintro e w1 ⟨p, rfl, hE, hb1⟩)
  have HE : Hid (ERow w1 (some ⟨p, 0, none⟩) (gB 6 q bs)) := hE
  have HB1 : Hid (Below W.heap.size W w1) := hb1
  clear hE hb1 HB h3 h4
  go_loopw [8] (fun u wr => ∃ j : Nat, j ≤ q ∧ u = .int .i64 j ∧ Below w1.heap.size w1 wr) (fun u _ => q - (intOf u).toNat)
  case atStart => exact ⟨0, Nat.zero_le _, rfl, by go_grown⟩
  case round =>
    obtain ⟨j, hj, rfl, hD⟩ := hrel
    have HD : Hid (Below w1.heap.size w1 wr) := hD
    clear hD
    by_cases hlt : j < q
    · obtain ⟨p', o', e, _, c1, c0⟩ := (HE.out.below HD.out).cells j (by rw [gB_len]; exact hlt)
      simp only [Option.some.injEq, Addr.mk.injEq] at e
      obtain ⟨rfl, rfl, _⟩ := e
      rw [Nat.zero_add] at c1 c0
      have HT : Hid (∀ w, Calls Try.prog 23 #[.int .i64 6, .agg #[.int .u64 (((gB 6 q bs).getD j (0, 0)).1 : Int), .int .u64 (((gB 6 q bs).getD j (0, 0)).2 : Int)]] w fun e w' => ∃ g, e = .returned (.slice (some ⟨g, 0, none⟩) 64 64) ∧ (w'.rowIs g 4 64 fun i => .bool (hasB ((gB 6 q bs).getD j (0, 0)).1 ((gB 6 q bs).getD j (0, 0)).2 i)) ∧ Below w.heap.size w w') := fun w => bits_any 6 (by decide) _ _ (gB_lt 6 q (by decide) bs HQ.out j hlt).1 (gB_lt 6 q (by decide) bs HQ.out j hlt).2 (gB_of 6 q (by decide) bs HQ.out j hlt) w
      have HX : Hid (∀ m, m < 64 → hasB ((gB 6 q bs).getD j (0, 0)).1 ((gB 6 q bs).getD j (0, 0)).2 m = bs.getD (j * 64 + m) false) := fun m hm => by have := gB_bit 6 q (by decide) bs HQ.out j hlt m hm; rw [show j * 2 ^ 6 + m = j * 64 + m by omega] at this; exact this
      generalize (gB 6 q bs).getD j (0, 0) = x at HT HX c1 c0
      go_wp2_with (go_at_call 23; refine (HT.out _).mono ?_; rintro e w3 ⟨g, rfl, hR, hb3⟩)
      have HRw : Hid (w3.rowIs g 4 64 fun i => .bool (hasB x.1 x.2 i)) := hR
      have HD3 : Hid (Below w1.heap.size w1 w3) := HD.out.trans (hb3.mono HD.out.size)
      clear hR hb3 HD c1 c0 HT
      go_loopw [10] (fun u ws => ∃ m : Nat, m ≤ 64 ∧ u = .int .i64 m ∧ Below w3.heap.size w3 ws) (fun u _ => 64 - (intOf u).toNat)
      case atStart => exact ⟨0, Nat.zero_le _, rfl, Below.refl _ _⟩
      case round =>
        obtain ⟨m, hm, rfl, hDs⟩ := hrel
        have HDs : Hid (Below w3.heap.size w3 wr) := hDs
        clear hDs
        by_cases hmlt : m < 64
        · have hin : j * 64 + m < bs.length := by rw [HQ.out]; have := Nat.mul_le_mul_right 64 (show j + 1 ≤ q from hlt); omega
          obtain ⟨b, off, rfl, hb, cb⟩ := HR.out.cells (j * 64 + m) hin
          have db : wr.cell? ⟨b, off + (j * 64 + m), none⟩ = some (.bool (bs.getD (j * 64 + m) false)) := keepc (HDs.out) (keepc ((HD3.out.mono (Nat.le_refl _))) (keepc HB1.out cb))
          have dg := keepc HDs.out (HRw.out.cell hmlt)
          rw [HX.out m hmlt] at dg
          have i1 : IntKind.i64.wrap ((j : Int) * 64) = (j : Int) * 64 := by rw [IntKind.wrap_i64]; omega
          have i2 : IntKind.i64.wrap ((j : Int) * 64 + (m : Int)) = (j : Int) * 64 + m := by rw [IntKind.wrap_i64]; omega
          have i3 : (0 : Int) ≤ (j : Int) * 64 + m := by omega
          have i4 : (j : Int) * 64 + m < (bs.length : Int) := by omega
          have i5 : ((j : Int) * 64 + m).toNat = j * 64 + m := by omega
          clear hin
          generalize bs.getD (j * 64 + m) false = y at *
          have HDs2 := HDs
          go_wp2_with fail
          go_region_held3 (fun w => w.cell? ⟨g, m, none⟩ = some (.bool y) ∧ w.cell? ⟨b, off + (j * 64 + m), none⟩ = some (.bool y)) (go_keep) (fail)
          go_wp2
          exact ⟨⟨m + 1, hmlt, by simp, HDs2.out.drew⟩, by simp [intOf]; omega⟩
        · obtain rfl : m = 64 := by omega
          have HD4 : Hid (Below w1.heap.size w1 wr) := HD3.out.trans (HDs.out.mono HD3.out.size)
          clear HDs HRw HX
          go_wp2
          exact ⟨⟨j + 1, hlt, by simp, HD4.out⟩, by simp [intOf]; omega⟩
    · obtain rfl : j = q := by omega
      go_wp2_with (go_at_call 7; refine (AW.out.go _).mono ?_; rintro e w2 ⟨rfl, hb2⟩)
      go_ret
      have h6 := HB1.out.trans (HD.out.mono HB1.out.size)
      exact ⟨rfl, h6.trans (hb2.mono h6.size)⟩
set_option maxHeartbeats 1000000 in
set_option maxRecDepth 100000 in
theorem wb_ok7 (q : Nat) (a : Option Addr) (cap : Nat) (bs : List Bool) (hn : bs.length ≤ 300) (hq : bs.length = q * 2 ^ 7) (W : World) (hr : BRow W a bs) :
    Calls Try.prog 6 #[.int .i64 7, .slice a bs.length cap] W fun e w' => e = .returned (.bool true) ∧ Below W.heap.size W w' := by
  have h1 : ¬ (300 : Int) < (bs.length : Int) := by omega
  have HB := wbits_ok 7 q (by decide) a cap bs (by omega) hq W hr
  have AW : Hid (Ret 7 #[] (.bool true)) := awake9
  have hq' : bs.length = q * 128 := hq
  have h3 : (bs.length : Int).tmod 128 = 0 := by rw [Int.tmod_eq_emod_of_nonneg (by omega)]; omega
  have h4 : (bs.length : Int).tdiv 128 = (q : Int) := by rw [Int.tdiv_eq_ediv_of_nonneg (by omega)]; omega
  have h5 : wrap64 (q : Int) = q := by unfold wrap64; omega
  have hq3 : q ≤ 300 := by omega
  have HR : Hid (BRow W a bs) := hr
  have HQ : Hid (bs.length = q * 2 ^ 7) := hq
  clear hr hq hq'
  go_enter Try.func6, Try.ntmps6
  go_wp2_with (go_at_call 22; refine HB.mono ?_; rintro e w1 ⟨p, rfl, hE, hb1⟩)
  have HE : Hid (ERow w1 (some ⟨p, 0, none⟩) (gB 7 q bs)) := hE
  have HB1 : Hid (Below W.heap.size W w1) := hb1
  clear hE hb1 HB h3 h4
  go_loopw [8] (fun u wr => ∃ j : Nat, j ≤ q ∧ u = .int .i64 j ∧ Below w1.heap.size w1 wr) (fun u _ => q - (intOf u).toNat)
  case atStart => exact ⟨0, Nat.zero_le _, rfl, by go_grown⟩
  case round =>
    obtain ⟨j, hj, rfl, hD⟩ := hrel
    have HD : Hid (Below w1.heap.size w1 wr) := hD
    clear hD
    by_cases hlt : j < q
    · obtain ⟨p', o', e, _, c1, c0⟩ := (HE.out.below HD.out).cells j (by rw [gB_len]; exact hlt)
      simp only [Option.some.injEq, Addr.mk.injEq] at e
      obtain ⟨rfl, rfl, _⟩ := e
      rw [Nat.zero_add] at c1 c0
      have HT : Hid (∀ w, Calls Try.prog 23 #[.int .i64 7, .agg #[.int .u64 (((gB 7 q bs).getD j (0, 0)).1 : Int), .int .u64 (((gB 7 q bs).getD j (0, 0)).2 : Int)]] w fun e w' => ∃ g, e = .returned (.slice (some ⟨g, 0, none⟩) 128 128) ∧ (w'.rowIs g 4 128 fun i => .bool (hasB ((gB 7 q bs).getD j (0, 0)).1 ((gB 7 q bs).getD j (0, 0)).2 i)) ∧ Below w.heap.size w w') := fun w => bits_any 7 (by decide) _ _ (gB_lt 7 q (by decide) bs HQ.out j hlt).1 (gB_lt 7 q (by decide) bs HQ.out j hlt).2 (gB_of 7 q (by decide) bs HQ.out j hlt) w
      have HX : Hid (∀ m, m < 128 → hasB ((gB 7 q bs).getD j (0, 0)).1 ((gB 7 q bs).getD j (0, 0)).2 m = bs.getD (j * 128 + m) false) := fun m hm => by have := gB_bit 7 q (by decide) bs HQ.out j hlt m hm; rw [show j * 2 ^ 7 + m = j * 128 + m by omega] at this; exact this
      generalize (gB 7 q bs).getD j (0, 0) = x at HT HX c1 c0
      go_wp2_with (go_at_call 23; refine (HT.out _).mono ?_; rintro e w3 ⟨g, rfl, hR, hb3⟩)
      have HRw : Hid (w3.rowIs g 4 128 fun i => .bool (hasB x.1 x.2 i)) := hR
      have HD3 : Hid (Below w1.heap.size w1 w3) := HD.out.trans (hb3.mono HD.out.size)
      clear hR hb3 HD c1 c0 HT
      go_loopw [10] (fun u ws => ∃ m : Nat, m ≤ 128 ∧ u = .int .i64 m ∧ Below w3.heap.size w3 ws) (fun u _ => 128 - (intOf u).toNat)
      case atStart => exact ⟨0, Nat.zero_le _, rfl, Below.refl _ _⟩
      case round =>
        obtain ⟨m, hm, rfl, hDs⟩ := hrel
        have HDs : Hid (Below w3.heap.size w3 wr) := hDs
        clear hDs
        by_cases hmlt : m < 128
        · have hin : j * 128 + m < bs.length := by rw [HQ.out]; have := Nat.mul_le_mul_right 128 (show j + 1 ≤ q from hlt); omega
          obtain ⟨b, off, rfl, hb, cb⟩ := HR.out.cells (j * 128 + m) hin
          have db : wr.cell? ⟨b, off + (j * 128 + m), none⟩ = some (.bool (bs.getD (j * 128 + m) false)) := keepc (HDs.out) (keepc ((HD3.out.mono (Nat.le_refl _))) (keepc HB1.out cb))
          have dg := keepc HDs.out (HRw.out.cell hmlt)
          rw [HX.out m hmlt] at dg
          have i1 : IntKind.i64.wrap ((j : Int) * 128) = (j : Int) * 128 := by rw [IntKind.wrap_i64]; omega
          have i2 : IntKind.i64.wrap ((j : Int) * 128 + (m : Int)) = (j : Int) * 128 + m := by rw [IntKind.wrap_i64]; omega
          have i3 : (0 : Int) ≤ (j : Int) * 128 + m := by omega
          have i4 : (j : Int) * 128 + m < (bs.length : Int) := by omega
          have i5 : ((j : Int) * 128 + m).toNat = j * 128 + m := by omega
          clear hin
          generalize bs.getD (j * 128 + m) false = y at *
          have HDs2 := HDs
          go_wp2_with fail
          go_region_held3 (fun w => w.cell? ⟨g, m, none⟩ = some (.bool y) ∧ w.cell? ⟨b, off + (j * 128 + m), none⟩ = some (.bool y)) (go_keep) (fail)
          go_wp2
          exact ⟨⟨m + 1, hmlt, by simp, HDs2.out.drew⟩, by simp [intOf]; omega⟩
        · obtain rfl : m = 128 := by omega
          have HD4 : Hid (Below w1.heap.size w1 wr) := HD3.out.trans (HDs.out.mono HD3.out.size)
          clear HDs HRw HX
          go_wp2
          exact ⟨⟨j + 1, hlt, by simp, HD4.out⟩, by simp [intOf]; omega⟩
    · obtain rfl : j = q := by omega
      go_wp2_with (go_at_call 7; refine (AW.out.go _).mono ?_; rintro e w2 ⟨rfl, hb2⟩)
      go_ret
      have h6 := HB1.out.trans (HD.out.mono HB1.out.size)
      exact ⟨rfl, h6.trans (hb2.mono h6.size)⟩
theorem wb_any (l : Int) (a : Option Addr) (cap : Nat) (bs : List Bool) (W : World) (hr : BRow W a bs) :
    Calls Try.prog 6 #[.int .i64 l, .slice a bs.length cap] W fun e w' => e = .returned (.bool true) ∧ Below W.heap.size W w' := by
  by_cases hn : 300 < bs.length
  · exact wb_long l a bs.length cap hn W
  have hn : bs.length ≤ 300 := by omega
  by_cases hl : 0 ≤ l ∧ l ≤ 7
  · have hc : l = 0 ∨ l = 1 ∨ l = 2 ∨ l = 3 ∨ l = 4 ∨ l = 5 ∨ l = 6 ∨ l = 7 := by omega
    rcases hc with rfl | rfl | rfl | rfl | rfl | rfl | rfl | rfl
    · exact wb_ok0 bs.length a cap bs hn (Nat.mul_one _).symm W hr
    · by_cases h : bs.length % 2 ^ 1 = 0
      · exact wb_ok1 (bs.length / 2 ^ 1) a cap bs hn (Nat.div_mul_cancel (Nat.dvd_of_mod_eq_zero h)).symm W hr
      · exact wb_size1 a cap bs hn h W hr
    · by_cases h : bs.length % 2 ^ 2 = 0
      · exact wb_ok2 (bs.length / 2 ^ 2) a cap bs hn (Nat.div_mul_cancel (Nat.dvd_of_mod_eq_zero h)).symm W hr
      · exact wb_size2 a cap bs hn h W hr
    · by_cases h : bs.length % 2 ^ 3 = 0
      · exact wb_ok3 (bs.length / 2 ^ 3) a cap bs hn (Nat.div_mul_cancel (Nat.dvd_of_mod_eq_zero h)).symm W hr
      · exact wb_size3 a cap bs hn h W hr
    · by_cases h : bs.length % 2 ^ 4 = 0
      · exact wb_ok4 (bs.length / 2 ^ 4) a cap bs hn (Nat.div_mul_cancel (Nat.dvd_of_mod_eq_zero h)).symm W hr
      · exact wb_size4 a cap bs hn h W hr
    · by_cases h : bs.length % 2 ^ 5 = 0
      · exact wb_ok5 (bs.length / 2 ^ 5) a cap bs hn (Nat.div_mul_cancel (Nat.dvd_of_mod_eq_zero h)).symm W hr
      · exact wb_size5 a cap bs hn h W hr
    · by_cases h : bs.length % 2 ^ 6 = 0
      · exact wb_ok6 (bs.length / 2 ^ 6) a cap bs hn (Nat.div_mul_cancel (Nat.dvd_of_mod_eq_zero h)).symm W hr
      · exact wb_size6 a cap bs hn h W hr
    · by_cases h : bs.length % 2 ^ 7 = 0
      · exact wb_ok7 (bs.length / 2 ^ 7) a cap bs hn (Nat.div_mul_cancel (Nat.dvd_of_mod_eq_zero h)).symm W hr
      · exact wb_size7 a cap bs hn h W hr
  · exact wb_arg l hl a cap bs hn W hr
end Go.Proofs.Ytflkchhdgiojgaa
