/- The contracts of steeplelaw18.same and awake over the seat's translation. -/
import Derived.Test.YthfebbmmhjkglaaTuB
namespace Go.Proofs.Ythfebbmmhjkglaa
open Go.RowKit

theorem take_bs (l : List Bool) (i : Nat) (h : i < l.length) : l.take (i + 1) = l.take i ++ [l.getD i false] := by
  rw [List.take_succ_eq_append_getElem h]; simp [h]
set_option maxHeartbeats 4000000 in
set_option maxRecDepth 100000 in
theorem tsame (a c : Option Addr) (cap cap2 : Nat) (xs ys : List Bool) (h1 : xs.length ≤ 1000) (W : World) (hx : Bow W a xs) (hy : Bow W c ys) :
    Calls Try.prog 15 #[.slice a xs.length cap, .slice c ys.length cap2] W fun e w' => e = .returned (.bool (decide (xs = ys))) ∧ Below W.heap.size W w' := by
  by_cases hl : xs.length = ys.length
  · have HX : Hid (Bow W a xs ∧ Bow W c ys) := ⟨hx, hy⟩
    obtain ⟨z, hz⟩ : ∃ z, z = decide (xs = ys) := ⟨_, rfl⟩
    rw [← hz]
    have HZ : Hid (z = decide (xs = ys)) := hz
    have HL : Hid (xs.length = ys.length) := hl
    have hl2 : (ys.length : Int) = (xs.length : Int) := by omega
    have hyx : ys.length = xs.length := by omega
    clear hx hy hz hl
    go_enter Try.func15, Try.ntmps15
    go_wp2_with fail
    go_loopw [5] (fun u wr => ∃ i : Nat, i ≤ xs.length ∧ u = .int .i64 i ∧ Hid (xs.take i = ys.take i) ∧ Below W.heap.size W wr) (fun u _ => xs.length - (intOf u).toNat)
    case atStart => exact ⟨0, Nat.zero_le _, rfl, rfl, Below.refl _ _⟩
    case round =>
      obtain ⟨i, hi, rfl, HT, hD⟩ := hrel
      by_cases hlt : i < xs.length
      · obtain ⟨b0, off, rfl, hb0, c0⟩ := HX.out.1.cells i hlt
        obtain ⟨b1, off1, rfl, hb1, c1⟩ := HX.out.2.cells i (by rw [← HL.out]; exact hlt)
        have C0 := keepc hD c0
        have C1 := keepc hD c1
        have HD : Hid (Below W.heap.size W wr) := hD
        have H1 : Hid (xs.take (i + 1) = xs.take i ++ [xs.getD i false]) := take_bs xs i hlt
        have H2 : Hid (ys.take (i + 1) = ys.take i ++ [ys.getD i false]) := take_bs ys i (by rw [← HL.out]; exact hlt)
        have HN : Hid (xs = ys → xs.getD i false = ys.getD i false) := fun h => by rw [h]
        have g1 : (i : Int) < (xs.length : Int) := by omega
        have g2 : (0 : Int) ≤ (i : Int) := by omega
        clear c0 c1 hD HX HL hb0 hb1
        generalize xs.getD i false = x at *
        generalize ys.getD i false = y at *
        go_wp2_with fail
        have F : _ ∧ _ := ⟨C0, C1⟩
        go_region_held3 (fun w => w.cell? ⟨b0, off + i, none⟩ = some (.bool x) ∧ w.cell? ⟨b1, off1 + i, none⟩ = some (.bool y)) (go_keep) (fail)
        cases x <;> cases y
        · go_wp2
          refine ⟨⟨i + 1, hlt, by simp, (by show _ = _; rw [H1.out, H2.out, HT.out]), HD.out.drew⟩, by simp [intOf]; omega⟩
        · go_wp2
          go_ret
          refine ⟨?_, HD.out.drew⟩
          rw [HZ.out, decide_eq_false (fun h => by have := HN.out h; cases this)]; rfl
        · go_wp2
          go_ret
          refine ⟨?_, HD.out.drew⟩
          rw [HZ.out, decide_eq_false (fun h => by have := HN.out h; cases this)]; rfl
        · go_wp2
          refine ⟨⟨i + 1, hlt, by simp, (by show _ = _; rw [H1.out, H2.out, HT.out]), HD.out.drew⟩, by simp [intOf]; omega⟩
      · obtain rfl : i = xs.length := by omega
        have HV : Hid (z = true) := by
          have h := HT.out
          rw [List.take_of_length_le (Nat.le_refl _), HL.out, List.take_of_length_le (Nat.le_refl _)] at h
          show _ = _
          rw [HZ.out, decide_eq_true h]
        have HD : Hid (Below W.heap.size W wr) := hD
        clear hD HX HT
        go_wp2
        go_ret
        exact ⟨by rw [HV.out]; rfl, HD.out⟩
  · rw [decide_eq_false (fun h => hl (by rw [h]))]
    have hl2 : ((xs.length : Int) != (ys.length : Int)) = true := by simp; omega
    clear hx hy hl
    go_enter Try.func15, Try.ntmps15
    go_wp2
    go_ret
    exact ⟨rfl, by first | exact Below.refl _ _ | go_grown⟩
theorem bow4 {w : World} {b : Nat} {x y z t : Bool} (h0 : w.cell? ⟨b, 0, none⟩ = some (.bool x)) (h1 : w.cell? ⟨b, 1, none⟩ = some (.bool y)) (h2 : w.cell? ⟨b, 2, none⟩ = some (.bool z)) (h3 : w.cell? ⟨b, 3, none⟩ = some (.bool t)) : Bow w (some ⟨b, 0, none⟩) [x, y, z, t] := ⟨fun i hi => by
  simp at hi
  refine ⟨b, 0, rfl, cell_lt h0, ?_⟩
  rw [Nat.zero_add]
  obtain rfl | rfl | rfl | rfl : i = 0 ∨ i = 1 ∨ i = 2 ∨ i = 3 := by omega
  · exact h0
  · exact h1
  · exact h2
  · exact h3⟩
theorem aw1 : trn 4 (fun i : Nat => frI 1 2 1 (i : Int)) [true, true, false, false] = [false, true, true, false] := by decide +kernel
theorem aw2 : trn 4 (fun i : Nat => frI 3 2 1 (i : Int)) [false, false, false, true] = [true, false, false, false] := by decide +kernel
set_option maxHeartbeats 4000000 in
set_option maxRecDepth 100000 in
theorem awake18 : Ret 9 #[] (.bool true) := by
  intro W
  have B1 : Hid (∀ w a, Bow w a [true, true, false, false] → Calls Try.prog 10 #[.int .i64 1, .int .i64 2, .int .i64 1, .slice a 4 4] w fun e w' => ∃ g, e = .returned (.tuple #[.slice (some ⟨g, 0, none⟩) 4 4, .int .i64 0]) ∧ Bow w' (some ⟨g, 0, none⟩) [false, true, true, false] ∧ Below w.heap.size w w') := fun w a h => by
    have := tbits_ok 1 2 1 (by decide) 4 rfl a 4 [true, true, false, false] rfl (by decide) w h
    rw [aw1] at this
    exact this
  have B2 : Hid (∀ w a, Bow w a [false, false, false, true] → Calls Try.prog 10 #[.int .i64 3, .int .i64 2, .int .i64 1, .slice a 4 4] w fun e w' => ∃ g, e = .returned (.tuple #[.slice (some ⟨g, 0, none⟩) 4 4, .int .i64 0]) ∧ Bow w' (some ⟨g, 0, none⟩) [true, false, false, false] ∧ Below w.heap.size w w') := fun w a h => by
    have := tbits_ok 3 2 1 (by decide) 4 rfl a 4 [false, false, false, true] rfl (by decide) w h
    rw [aw2] at this
    exact this
  have S1 : Hid (∀ w a c, Bow w a [false, true, true, false] → Bow w c [false, true, true, false] → Calls Try.prog 15 #[.slice a 4 4, .slice c 4 4] w fun e w' => e = .returned (.bool true) ∧ Below w.heap.size w w') := fun w a c h1 h2 => tsame a c 4 4 [false, true, true, false] [false, true, true, false] (by decide) w h1 h2
  have S2 : Hid (∀ w a c, Bow w a [true, false, false, false] → Bow w c [true, false, false, false] → Calls Try.prog 15 #[.slice a 4 4, .slice c 4 4] w fun e w' => e = .returned (.bool true) ∧ Below w.heap.size w w') := fun w a c h1 h2 => tsame a c 4 4 [true, false, false, false] [true, false, false, false] (by decide) w h1 h2
  go_enter Try.func9, Try.ntmps9
  go_wp2_with (first
    | (go_at_call_of 10 (Value.int .i64 3); refine (B2.out _ _ (bow4 (by simp [go_sem]) (by simp [go_sem]) (by simp [go_sem]) (by simp [go_sem]))).mono ?_; rintro e w2 ⟨g2, rfl, R2, hb2⟩; have D2 : Hid (Below W.heap.size W w2 ∧ Bow w2 (some ⟨g, 0, none⟩) [false, true, true, false] ∧ Bow w2 (some ⟨g2, 0, none⟩) [true, false, false, false]) := ⟨(D1.out.1.alloc D1.out.1.size _).trans (hb2.mono (by have := D1.out.1.size; simp; omega)), (D1.out.2.below ((Below.refl _ _).alloc (Nat.le_refl _) _)).below hb2, R2⟩; clear hb2 R2 D1)
    | (go_at_call 10; refine (B1.out _ _ (bow4 (by simp [go_sem]) (by simp [go_sem]) (by simp [go_sem]) (by simp [go_sem]))).mono ?_; rintro e w1 ⟨g, rfl, R1, hb1⟩; have D1 : Hid (Below W.heap.size W w1 ∧ Bow w1 (some ⟨g, 0, none⟩) [false, true, true, false]) := ⟨((Below.refl _ _).alloc (Nat.le_refl _) _).trans (hb1.mono (by simp)), R1⟩; clear hb1 R1 B1)
    | (go_at_call_of 15 (Value.slice (some ⟨g, 0, none⟩) 4 4); refine (S1.out _ _ _ (D2.out.2.1.below ((Below.refl _ _).alloc (Nat.le_refl _) _)) (bow4 (by simp [go_sem]) (by simp [go_sem]) (by simp [go_sem]) (by simp [go_sem]))).mono ?_; rintro e w3 ⟨rfl, hb3⟩; have D3 : Hid (Below W.heap.size W w3 ∧ Bow w3 (some ⟨g2, 0, none⟩) [true, false, false, false]) := ⟨(D2.out.1.alloc D2.out.1.size _).trans (hb3.mono (by have := D2.out.1.size; simp; omega)), (D2.out.2.2.below ((Below.refl _ _).alloc (Nat.le_refl _) _)).below hb3⟩; clear hb3 D2 S1)
    | (go_at_call 15; refine (S2.out _ _ _ (D3.out.2.below ((Below.refl _ _).alloc (Nat.le_refl _) _)) (bow4 (by simp [go_sem]) (by simp [go_sem]) (by simp [go_sem]) (by simp [go_sem]))).mono ?_; rintro e w4 ⟨rfl, hb4⟩; have D4 : Hid (Below W.heap.size W w4) := (D3.out.1.alloc D3.out.1.size _).trans (hb4.mono (by have := D3.out.1.size; simp; omega)); clear hb4 D3))
  go_ret
  exact ⟨rfl, D4.out⟩
end Go.Proofs.Ythfebbmmhjkglaa
