/- Walk of steeplelaw02.TowerBits over the seat's translation, over the contracts of what it calls. -/
import Derived.Test.YtdjndcgocmmmcaaTwBu
namespace Go.Proofs.Ytdjndcgocmmmcaa
open Go.RowKit

/-- An element and its bits. -/
structure Ust (W w : World) (g n : Nat) (hb : Nat → Bool) (ah al : Nat) : Prop where
  a : Ew w W.heap.size ah al
  row : w.rowIs g 4 n fun i => .bool (hb i)
  d : Below W.heap.size W w
theorem Ust.below {W w w' : World} {g n : Nat} {hb : Nat → Bool} {ah al : Nat} (h : Ust W w g n hb ah al) (k : Below w.heap.size w w') : Ust W w' g n hb ah al := ⟨h.a.below k, rowIs_below h.row k, h.d.trans (k.mono h.d.size)⟩
theorem Ust.drew {W w : World} {g n : Nat} {hb : Nat → Bool} {ah al : Nat} (h : Ust W w g n hb ah al) : Ust W w.drew g n hb ah al := ⟨h.a.drew, h.row, h.d.drew⟩
theorem Ust.alloc {W w : World} {g n : Nat} {hb : Nat → Bool} {ah al : Nat} (h : Ust W w g n hb ah al) (o : Obj) : Ust W (w.alloc o) g n hb ah al := h.below ((Below.refl _ _).alloc (Nat.le_refl _) o)
theorem Ust.facts {W w : World} {g n : Nat} {hb : Nat → Bool} {ah al : Nat} (h : Ust W w g n hb ah al) : w.cell? ⟨W.heap.size, 0, none⟩ = some (.int .u64 (ah : Int)) ∧ w.cell? ⟨W.heap.size, 1, none⟩ = some (.int .u64 (al : Int)) := ⟨h.a.hi, h.a.lo⟩
/-- .. at one place of the row. -/
structure Vst (W w : World) (g n j : Nat) (b : Bool) (hb : Nat → Bool) (ah al : Nat) : Prop where
  u : Ust W w g n hb ah al
  lt : j < n
  e : hb j = b
theorem Vst.below {W w w' : World} {g n j : Nat} {b : Bool} {hb : Nat → Bool} {ah al : Nat} (h : Vst W w g n j b hb ah al) (k : Below w.heap.size w w') : Vst W w' g n j b hb ah al := ⟨h.u.below k, h.lt, h.e⟩
theorem Vst.drew {W w : World} {g n j : Nat} {b : Bool} {hb : Nat → Bool} {ah al : Nat} (h : Vst W w g n j b hb ah al) : Vst W w.drew g n j b hb ah al := ⟨h.u.drew, h.lt, h.e⟩
theorem Vst.facts {W w : World} {g n j : Nat} {b : Bool} {hb : Nat → Bool} {ah al : Nat} (h : Vst W w g n j b hb ah al) : (w.cell? ⟨W.heap.size, 0, none⟩ = some (.int .u64 (ah : Int)) ∧ w.cell? ⟨W.heap.size, 1, none⟩ = some (.int .u64 (al : Int))) ∧ w.cell? ⟨g, j, none⟩ = some (.bool b) := ⟨h.u.facts, by rw [h.u.row.cell h.lt, h.e]⟩
set_option maxHeartbeats 4000000 in
set_option maxRecDepth 100000 in
theorem bits_zero (n lv : Int) (ah al vh vl : Nat) (hb : Nat → Bool)
    (HB : ∀ W, Calls Try.prog 19 #[.int .i64 0, .agg #[.int .u64 (ah : Int), .int .u64 (al : Int)]] W fun e w' => ∃ g, e = .returned (.slice (some ⟨g, 0, none⟩) 1 1) ∧ (w'.rowIs g 4 1 fun i => .bool (hb i)) ∧ Below W.heap.size W w')
    (B1 : Ret 20 #[.int .i64 n] (.agg #[.int .u64 (vh : Int), .int .u64 (vl : Int)])) (B2 : Ret 21 #[.int .i64 n] (.agg #[.int .u64 (vh : Int), .int .u64 (vl : Int)])) (S1 : Ret 10 #[.agg #[.int .u64 (vh : Int), .int .u64 (vl : Int)], .agg #[.int .u64 (vh : Int), .int .u64 (vl : Int)]] (.bool true))
    (L1 : Ret 22 #[.agg #[.int .u64 (ah : Int), .int .u64 (al : Int)]] (.int .i64 lv)) (R1 : Ret 13 #[.agg #[.int .u64 (ah : Int), .int .u64 (al : Int)]] (.agg #[.int .u64 (ah : Int), .int .u64 (al : Int)])) (L2 : Ret 23 #[.agg #[.int .u64 (ah : Int), .int .u64 (al : Int)]] (.int .i64 lv))
    (O1 : Ret 24 #[.int .i64 0, .agg #[.int .u64 (ah : Int), .int .u64 (al : Int)]] (.bool true)) (AW : Ret 9 #[] (.bool true))
    (HH : Hid (∀ j : Nat, j < 1 → Ret 25 #[.agg #[.int .u64 (ah : Int), .int .u64 (al : Int)], .int .i64 (j : Int)] (.bool (hb j))))
    (SP : Ret 26 #[.int .i64 0, .agg #[.int .u64 (ah : Int), .int .u64 (al : Int)]] (.tuple #[.agg #[.int .u64 0, .int .u64 0], .agg #[.int .u64 0, .int .u64 0]])) (JO : Ret 27 #[.int .i64 0, .agg #[.int .u64 0, .int .u64 0], .agg #[.int .u64 0, .int .u64 0]] (.agg #[.int .u64 0, .int .u64 0])) (W : World) :
    Calls Try.prog 4 #[.int .i64 0, .int .i64 n, .agg #[.int .u64 (ah : Int), .int .u64 (al : Int)]] W fun e w' => e = .returned (.bool true) ∧ Below W.heap.size W w' := by
  go_enter Try.func4, Try.ntmps4
  go_wp2_with fail
  refine (HB _).mono ?_
  rintro e w1 ⟨g, rfl, hrow, hb1⟩
  have K : Ust W w1 g 1 hb ah al := ⟨Ew.below ⟨⟨by simp [go_sem], by simp [go_sem]⟩, by simp [go_sem], by simp [go_sem]⟩ hb1, hrow, ((Below.refl _ _).alloc (Nat.le_refl _) _).trans (hb1.mono (by simp <;> omega))⟩
  clear hb1 hrow HB
  go_upto_region 2 with fail
  have F := K.facts
  go_region_held3 (fun w => w.cell? ⟨W.heap.size, 0, none⟩ = some (.int .u64 (ah : Int)) ∧ w.cell? ⟨W.heap.size, 1, none⟩ = some (.int .u64 (al : Int))) (go_keep) (first | (go_at_call 20; refine (B1.go _).mono ?_; rintro e w' ⟨rfl, hb'⟩; have K'' := Ust.below (w' := w') (by first | exact K | exact K.drew) hb'; clear F K hb'; have K := K''; clear K''; have F := K.facts) | (go_at_call 21; refine (B2.go _).mono ?_; rintro e w' ⟨rfl, hb'⟩; have K'' := Ust.below (w' := w') (by first | exact K | exact K.drew) hb'; clear F K hb'; have K := K''; clear K''; have F := K.facts) | (go_at_call 10; refine (S1.go _).mono ?_; rintro e w' ⟨rfl, hb'⟩; have K'' := Ust.below (w' := w') (by first | exact K | exact K.drew) hb'; clear F K hb'; have K := K''; clear K''; have F := K.facts) | (go_at_call 22; refine (L1.go _).mono ?_; rintro e w' ⟨rfl, hb'⟩; have K'' := Ust.below (w' := w') (by first | exact K | exact K.drew) hb'; clear F K hb'; have K := K''; clear K''; have F := K.facts) | (go_at_call 13; refine (R1.go _).mono ?_; rintro e w' ⟨rfl, hb'⟩; have K'' := Ust.below (w' := w') (by first | exact K | exact K.drew) hb'; clear F K hb'; have K := K''; clear K''; have F := K.facts) | (go_at_call 23; refine (L2.go _).mono ?_; rintro e w' ⟨rfl, hb'⟩; have K'' := Ust.below (w' := w') (by first | exact K | exact K.drew) hb'; clear F K hb'; have K := K''; clear K''; have F := K.facts))
  go_upto_region 4 with fail
  obtain ⟨f1, f0⟩ := F
  have HK : Hid (Ust W _ g 1 hb ah al) := K
  clear K B1 B2 S1 L1 L2
  go_wp2_with fail
  refine (R1.go _).mono ?_
  rintro e w2 ⟨rfl, hb2⟩
  have HK2 : Hid (Ust W w2 g 1 hb ah al) := HK.out.below hb2
  clear hb2 HK f1 f0
  go_wp2_with fail
  refine (O1.go _).mono ?_
  rintro e w3 ⟨rfl, hb3⟩
  have HK3 : Hid (Ust W w3 g 1 hb ah al) := HK2.out.below hb3
  clear hb3 HK2 O1
  go_wp2_with fail
  go_loopw [9] (fun u wr => ∃ j : Nat, j ≤ 1 ∧ u = .int .i64 j ∧ Ust W wr g 1 hb ah al) (fun u _ => 1 - (intOf u).toNat)
  case atStart => exact ⟨0, Nat.zero_le _, rfl, HK3.out.alloc _⟩
  case round =>
    obtain ⟨j, hj, rfl, hU⟩ := hrel
    by_cases hlt : j < 1
    · have H1 := HH.out j hlt
      have KV : Vst W wr g 1 j (hb j) hb ah al := ⟨hU, hlt, rfl⟩
      clear hU HK3
      generalize hbj : hb j = b at *
      cases b
      · have K := KV
        clear KV
        go_upto_region 12 with fail
        have F := K.facts
        go_region_held3 (fun w => (w.cell? ⟨W.heap.size, 0, none⟩ = some (.int .u64 (ah : Int)) ∧ w.cell? ⟨W.heap.size, 1, none⟩ = some (.int .u64 (al : Int))) ∧ w.cell? ⟨g, j, none⟩ = some (.bool false)) (go_keep) (first | (go_at_call 13; refine (R1.go _).mono ?_; rintro e w' ⟨rfl, hb'⟩; have K'' := Vst.below (w' := w') (by first | exact K | exact K.drew) hb'; clear F K hb'; have K := K''; clear K''; have F := K.facts) | (go_at_call 25; refine (H1.go _).mono ?_; rintro e w' ⟨rfl, hb'⟩; have K'' := Vst.below (w' := w') (by first | exact K | exact K.drew) hb'; clear F K hb'; have K := K''; clear K''; have F := K.facts))
        all_goals
          go_wp2
          exact ⟨⟨j + 1, hlt, by simp, K.u⟩, by simp [intOf]; omega⟩
      · have K := KV
        clear KV
        go_upto_region 12 with fail
        have F := K.facts
        go_region_held3 (fun w => (w.cell? ⟨W.heap.size, 0, none⟩ = some (.int .u64 (ah : Int)) ∧ w.cell? ⟨W.heap.size, 1, none⟩ = some (.int .u64 (al : Int))) ∧ w.cell? ⟨g, j, none⟩ = some (.bool true)) (go_keep) (first | (go_at_call 13; refine (R1.go _).mono ?_; rintro e w' ⟨rfl, hb'⟩; have K'' := Vst.below (w' := w') (by first | exact K | exact K.drew) hb'; clear F K hb'; have K := K''; clear K''; have F := K.facts) | (go_at_call 25; refine (H1.go _).mono ?_; rintro e w' ⟨rfl, hb'⟩; have K'' := Vst.below (w' := w') (by first | exact K | exact K.drew) hb'; clear F K hb'; have K := K''; clear K''; have F := K.facts))
        all_goals
          go_wp2
          exact ⟨⟨j + 1, hlt, by simp, K.u⟩, by simp [intOf]; omega⟩
    · obtain rfl : j = 1 := by omega
      have HU : Hid (Ust W wr g 1 hb ah al) := hU
      have f1 := hU.a.hi
      have f0 := hU.a.lo
      clear hU HK3 HH
      go_wp2_with fail
      refine (SP.go _).mono ?_
      rintro e w5 ⟨rfl, hb5⟩
      have HD5 : Hid (Below W.heap.size W w5) := HU.out.d.trans (hb5.mono HU.out.d.size)
      clear hb5 HU f1 f0 SP
      go_wp2_with fail
      refine (AW.go _).mono ?_
      rintro e w6 ⟨rfl, hb6⟩
      have c1 : w6.cell? ⟨w5.heap.size, 0, none⟩ = some (.int .u64 0) := keepc hb6 (by simp [go_sem])
      have c0 : w6.cell? ⟨w5.heap.size, 1, none⟩ = some (.int .u64 0) := keepc hb6 (by simp [go_sem])
      have d1 : w6.cell? ⟨w5.heap.size + 1, 0, none⟩ = some (.int .u64 0) := keepc hb6 (by simp [go_sem])
      have d0 : w6.cell? ⟨w5.heap.size + 1, 1, none⟩ = some (.int .u64 0) := keepc hb6 (by simp [go_sem])
      have HD6 : Hid (Below W.heap.size W w6) := ((HD5.out.alloc HD5.out.size _).alloc (by have := HD5.out.size; simp; omega) _).trans (hb6.mono (by have := HD5.out.size; simp; omega))
      clear hb6 HD5 AW
      go_wp2_with fail
      refine (JO.go _).mono ?_
      rintro e w7 ⟨rfl, hb7⟩
      have HD7 : Hid (Below W.heap.size W w7) := HD6.out.trans (hb7.mono HD6.out.size)
      clear hb7 HD6 c1 c0 d1 d0 JO
      go_wp2
      go_ret
      exact ⟨rfl, HD7.out⟩
end Go.Proofs.Ytdjndcgocmmmcaa
