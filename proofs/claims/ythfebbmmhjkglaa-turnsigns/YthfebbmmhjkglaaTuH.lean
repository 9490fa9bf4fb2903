/- Contracts of turn.isLevel, allOf and hindrance (of one point) over the seat's translation. -/
import Derived.Test.YthfebbmmhjkglaaTuQ
namespace Go.Proofs.Ythfebbmmhjkglaa
open Go.RowKit
open Cb
open Tw (pm)

theorem tlevel (l : Int) : Ret 67 #[.int .i64 l] (.bool (decide (0 ≤ l ∧ l ≤ 7))) := by
  intro W
  by_cases h : 0 ≤ l ∧ l ≤ 7
  · rw [decide_eq_true h]
    obtain ⟨h1, h2⟩ := h
    go_enter Try.func67, Try.ntmps67
    go_wp2
    go_ret
    exact ⟨rfl, by first | exact Below.refl _ _ | go_grown⟩
  · rw [decide_eq_false h]
    rcases Int.lt_or_le l 0 with h1 | h1
    · have h2 : ¬ 0 ≤ l := by omega
      clear h
      go_enter Try.func67, Try.ntmps67
      go_wp2
      go_ret
      exact ⟨rfl, by first | exact Below.refl _ _ | go_grown⟩
    · have h2 : ¬ l ≤ 7 := by omega
      clear h
      go_enter Try.func67, Try.ntmps67
      go_wp2
      go_ret
      exact ⟨rfl, by first | exact Below.refl _ _ | go_grown⟩
set_option maxHeartbeats 2000000 in
/-- Are all elements of a level? -/
theorem tall (l : Int) (a : Option Addr) (cap : Nat) (es : List (Nat × Nat)) (hes : ltE es) (W : World) (hr : ERow W a es) (h10 : es.length ≤ 100000) :
    Calls Try.prog 68 #[.int .i64 l, .slice a es.length cap] W fun e w' => e = .returned (.bool (es.all fun e => ofB l (e.1 : Int) (e.2 : Int))) ∧ Below W.heap.size W w' := by
  have HR : Hid (ERow W a es) := hr
  have HO : Hid (∀ j : Nat, Ret 55 #[.int .i64 l, .agg #[.int .u64 ((es.getD j (0, 0)).1 : Int), .int .u64 ((es.getD j (0, 0)).2 : Int)]] (.bool (ofB l ((es.getD j (0, 0)).1 : Int) ((es.getD j (0, 0)).2 : Int)))) := fun j => of_ret l _ _ (hes.at j).2
  clear hr hes
  go_enter Try.func68, Try.ntmps68
  go_wp2_with fail
  go_loopw [9] (fun u wr => ∃ j : Nat, j ≤ es.length ∧ u = .int .i64 j ∧ Hid ((es.take j).all (fun e => ofB l (e.1 : Int) (e.2 : Int)) = true) ∧ Below W.heap.size W wr) (fun u _ => es.length - (intOf u).toNat)
  case atStart => exact ⟨0, Nat.zero_le _, rfl, (by rfl), Below.refl _ _⟩
  case round =>
    obtain ⟨j, hj, rfl, HT, hD⟩ := hrel
    by_cases hlt : j < es.length
    · obtain ⟨b, off, rfl, hb, c1, c0⟩ := HR.out.cells j hlt
      have d1 : wr.cell? ⟨b, off + j * 2, none⟩ = some (.int .u64 ((es.getD j (0, 0)).1 : Nat)) := by rw [hD.cell (p := ⟨b, off + j * 2, none⟩) hb]; exact c1
      have d0 : wr.cell? ⟨b, off + j * 2 + 1, none⟩ = some (.int .u64 ((es.getD j (0, 0)).2 : Nat)) := by rw [hD.cell (p := ⟨b, off + j * 2 + 1, none⟩) hb]; exact c0
      have H1 := HO.out j
      have HD : Hid (Below W.heap.size W wr) := hD
      have HS : Hid (es.take (j + 1) = es.take j ++ [es.getD j (0, 0)]) := take_sn es j hlt
      have HM : Hid (es.getD j (0, 0) ∈ es) := by show _ ∈ _; rw [show es.getD j (0, 0) = es[j] by simp [hlt]]; exact List.getElem_mem hlt
      clear hD c1 c0 HR HO
      generalize es.getD j (0, 0) = x at *
      rcases hB : ofB l (x.1 : Int) (x.2 : Int) with _ | _
      · rw [hB] at H1
        go_wp2_with fail
        refine (H1.go _).mono ?_
        rintro e w4 ⟨rfl, hb4⟩
        have HD4 : Hid (Below W.heap.size W w4) := (HD.out.alloc HD.out.size _).trans (hb4.mono (by have := HD.out.size; simp; omega))
        clear hb4 d1 d0 HD
        go_wp2
        go_ret
        refine ⟨?_, HD4.out⟩
        rw [show (es.all fun e => ofB l (e.1 : Int) (e.2 : Int)) = false from by
          rw [List.all_eq_false]; exact ⟨x, HM.out, by rw [hB]; decide⟩]
        rfl
      · rw [hB] at H1
        go_wp2_with fail
        refine (H1.go _).mono ?_
        rintro e w4 ⟨rfl, hb4⟩
        have HD4 : Hid (Below W.heap.size W w4) := (HD.out.alloc HD.out.size _).trans (hb4.mono (by have := HD.out.size; simp; omega))
        clear hb4 d1 d0 HD
        go_wp2
        exact ⟨⟨j + 1, hlt, by simp, (by show _ = _; rw [HS.out, List.all_append, HT.out]; simp [hB]), HD4.out⟩, by simp [intOf]; omega⟩
    · have HD : Hid (Below W.heap.size W wr) := hD
      obtain rfl : j = es.length := by omega
      clear hD
      go_wp2
      go_ret
      refine ⟨?_, HD.out⟩
      have := HT.out
      rw [List.take_of_length_le (Nat.le_refl _)] at this
      rw [this]
      rfl
/-- What hinders a turn from having signs at a point. -/
def hd1 (l : Int) (q : Nat) (p : List (Nat × Nat)) : Int := if 0 ≤ l ∧ l ≤ 7 then (if p.length = q then (if (p.all fun e => ofB l (e.1 : Int) (e.2 : Int)) = true then 0 else 5) else 6) else 1
set_option maxHeartbeats 4000000 in
set_option maxRecDepth 100000 in
theorem thind1 (l k : Int) (q t : Nat) (hf : ftB k (q : Int) (t : Int) = true) (b : Nat) (a : Option Addr) (cap : Nat) (p : List (Nat × Nat)) (hp : ltE p) (h10 : p.length ≤ 1000) (W : World) (hr : ERow W a p) (hb : W.cell? ⟨b, 0, none⟩ = some (.slice a p.length cap)) :
    Calls Try.prog 42 #[.int .i64 l, .int .i64 k, .int .i64 (q : Int), .int .i64 (t : Int), .slice (some ⟨b, 0, none⟩) 1 1] W fun e w' => e = .returned (.int .i64 (hd1 l q p)) ∧ Below W.heap.size W w' := by
  have HL := Hid.mkT (tlevel l)
  have HF := Hid.mkT (tfits k (q : Int) (t : Int))
  rw [hf] at HF
  obtain ⟨z, hz⟩ : ∃ z, z = hd1 l q p := ⟨_, rfl⟩
  rw [← hz]
  by_cases hl : 0 ≤ l ∧ l ≤ 7
  · rw [decide_eq_true hl] at HL
    unfold hd1 at hz
    rw [if_pos hl] at hz
    by_cases hq : p.length = q
    · rw [if_pos hq] at hz
      have HA : Hid (∀ w, Below W.heap.size W w → Calls Try.prog 68 #[.int .i64 l, .slice a p.length cap] w fun e w' => e = .returned (.bool (p.all fun e => ofB l (e.1 : Int) (e.2 : Int))) ∧ Below w.heap.size w w') := fun w hb => tall l a cap p hp w (hr.below hb) (by omega)
      have HB : Hid (W.cell? ⟨b, 0, none⟩ = some (.slice a p.length cap)) := hb
      have hq' : (q : Int) = (p.length : Int) := by omega
      have HZ : Hid (z = if (p.all fun e => ofB l (e.1 : Int) (e.2 : Int)) = true then 0 else 5) := hz
      generalize (p.all fun e => ofB l (e.1 : Int) (e.2 : Int)) = x at *
      clear hf hz hr hp hq hl hb
      rw [hq'] at HF ⊢
      clear hq'
      go_enter Try.func42, Try.ntmps42
      go_wp2_with (first | (go_at_call 67; refine (HL.out.go _).mono ?_; rintro e w1 ⟨rfl, hb1⟩; have D1 : Hid (Below W.heap.size W w1) := hb1; clear hb1) | (go_at_call 13; refine (HF.out.go _).mono ?_; rintro e w2 ⟨rfl, hb2⟩; have D2 : Hid (Below W.heap.size W w2) := D1.out.trans (hb2.mono D1.out.size); clear hb2 D1))
      go_loopw [27] (fun u wr => ∃ i : Nat, i ≤ 1 ∧ u = .int .i64 i ∧ Hid (Below W.heap.size W wr)) (fun u _ => 1 - (intOf u).toNat)
      case atStart => exact ⟨0, by decide, rfl, D2⟩
      case round =>
        obtain ⟨i, hi, rfl, HI⟩ := hrel
        clear D2
        by_cases hlt : i < 1
        · obtain rfl : i = 0 := by omega
          have c0 := keepc HI.out HB.out
          go_wp2
          exact ⟨⟨1, by decide, by simp, HI⟩, by simp [intOf]⟩
        · have hi1 : ¬ (i : Int) < 1 := by omega
          go_wp2_with fail
          go_loopw [38] (fun u wr => ∃ i : Nat, i ≤ 1 ∧ u = .int .i64 i ∧ Hid (i = 0 ∨ x = true) ∧ Hid (Below W.heap.size W wr)) (fun u _ => 1 - (intOf u).toNat)
          case atStart => exact ⟨0, by decide, rfl, .inl rfl, HI⟩
          case round =>
            obtain ⟨i', hi', rfl, HX, HI2⟩ := hrel
            clear HI
            by_cases hlt' : i' < 1
            · obtain rfl : i' = 0 := by omega
              have c0 := keepc HI2.out HB.out
              cases x
              · go_wp2_with (go_at_call 68; refine (HA.out _ HI2.out).mono ?_; rintro e w3 ⟨rfl, hb3⟩)
                go_ret
                refine ⟨?_, HI2.out.trans (hb3.mono HI2.out.size)⟩
                rw [HZ.out, if_neg (by decide)]; rfl
              · go_wp2_with (go_at_call 68; refine (HA.out _ HI2.out).mono ?_; rintro e w3 ⟨rfl, hb3⟩)
                exact ⟨⟨1, by decide, by simp, .inr (by trivial), HI2.out.trans (hb3.mono HI2.out.size)⟩, by simp [intOf]⟩
            · have hi2 : ¬ (i' : Int) < 1 := by omega
              have hx : x = true := HX.out.resolve_left (by omega)
              rw [if_pos hx] at HZ
              clear hx
              go_wp2
              go_ret
              exact ⟨by rw [HZ.out]; rfl, HI2.out⟩
    · rw [if_neg hq] at hz
      have HB : Hid (W.cell? ⟨b, 0, none⟩ = some (.slice a p.length cap)) := hb
      have hq' : ((p.length : Int) != (q : Int)) = true := by simp; omega
      subst hz
      clear hf hr hp hq hl hb
      go_enter Try.func42, Try.ntmps42
      go_wp2_with (first | (go_at_call 67; refine (HL.out.go _).mono ?_; rintro e w1 ⟨rfl, hb1⟩; have D1 : Hid (Below W.heap.size W w1) := hb1; clear hb1) | (go_at_call 13; refine (HF.out.go _).mono ?_; rintro e w2 ⟨rfl, hb2⟩; have D2 : Hid (Below W.heap.size W w2) := D1.out.trans (hb2.mono D1.out.size); clear hb2 D1))
      have c0 := keepc D2.out HB.out
      refine wp_loop_rounds 1 ?_
      rw [rounds_succ]
      go_wp2
      go_ret
      exact ⟨rfl, D2.out⟩
  · rw [decide_eq_false hl] at HL
    unfold hd1 at hz
    rw [if_neg hl] at hz
    subst hz
    clear hf hr hp hl hb HF
    go_enter Try.func42, Try.ntmps42
    go_wp2_with (go_at_call 67; refine (HL.out.go _).mono ?_; rintro e w1 ⟨rfl, hb1⟩)
    go_ret
    exact ⟨rfl, hb1⟩
end Go.Proofs.Ythfebbmmhjkglaa
