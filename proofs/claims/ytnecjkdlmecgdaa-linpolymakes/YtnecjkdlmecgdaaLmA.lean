/- The document's Check of layer 5, and Points where there are none, over the seat's translation. -/
import Derived.Test.YtnecjkdlmecgdaaPRowSp
import Derived.Test.YtnecjkdlmecgdaaLqG
namespace Go.Proofs.Ytnecjkdlmecgdaa
open Go.RowKit
open Cb Rg Sq Lq
open Tw (pm)

set_option maxHeartbeats 2000000 in
theorem rcheck_arg (l : Int) (a : Option Addr) (n cap : Nat) (h : ¬ (0 ≤ l ∧ l ≤ 7)) : Ret 11 #[.int .i64 l, .slice a n cap] (.int .i64 1) := by
  intro W
  by_cases h0 : l < 0
  · clear h
    go_enter Try.func11, Try.ntmps11
    go_wp2
    go_ret
    exact ⟨rfl, by first | exact Below.refl _ _ | go_grown⟩
  · have h7 : 7 < l := by omega
    clear h
    go_enter Try.func11, Try.ntmps11
    go_wp2
    go_ret
    exact ⟨rfl, by first | exact Below.refl _ _ | go_grown⟩
set_option maxHeartbeats 2000000 in
theorem rcheck_long (l : Int) (a : Option Addr) (n cap : Nat) (h : 0 ≤ l ∧ l ≤ 7) (hn : 10 < n) : Ret 11 #[.int .i64 l, .slice a n cap] (.int .i64 2) := by
  intro W
  have l0 : ¬ l < 0 := by omega
  have l7 : ¬ 7 < l := by omega
  have n10 : (10 : Int) < (n : Int) := by omega
  clear h
  go_enter Try.func11, Try.ntmps11
  go_wp2
  go_ret
  exact ⟨rfl, by first | exact Below.refl _ _ | go_grown⟩
set_option maxHeartbeats 4000000 in
theorem rcheck_field (l : Int) (a : Option Addr) (cap : Nat) (es : List (Nat × Nat)) (hes : ltE es) (h0 : 0 ≤ l ∧ l ≤ 7) (h10 : es.length ≤ 10) (ho : (es.all fun e => ofB l (e.1 : Int) (e.2 : Int)) = false) (W : World) (hr : ERow W a es) :
    Calls Try.prog 11 #[.int .i64 l, .slice a es.length cap] W fun e w' => e = .returned (.int .i64 5) ∧ Below W.heap.size W w' := by
  have HO : Hid (∀ j : Nat, j < es.length → ∀ b, ofB l ((el es j).1 : Int) ((el es j).2 : Int) = b → Ret 16 #[.int .i64 l, .agg #[.int .u64 ((el es j).1 : Int), .int .u64 ((el es j).2 : Int)]] (.bool b)) := fun j hj b hb => by
    have := rof_any l (el es j).1 (el es j).2 (ltE_el hes j).1 (ltE_el hes j).2
    rw [hb] at this
    exact this
  have HR := hidT hr
  have HF := hidT ho
  have l0 : ¬ l < 0 := by omega
  have l7 : ¬ 7 < l := by omega
  have n10 : ¬ (10 : Int) < (es.length : Int) := by omega
  clear hes ho hr h0
  go_enter Try.func11, Try.ntmps11
  go_wp2_with fail
  go_loopw [5] (fun u wr => ∃ j : Nat, j ≤ es.length ∧ Hid (((es.take j).all fun e => ofB l (e.1 : Int) (e.2 : Int)) = true) ∧ u = .int .i64 j ∧ Hid (Below W.heap.size W wr)) (fun u _ => es.length - (intOf u).toNat)
  case atStart => exact ⟨0, Nat.zero_le _, (by rfl), rfl, Below.refl _ _⟩
  case round =>
    obtain ⟨j, hj, HT, rfl, D⟩ := hrel
    by_cases hlt : j < es.length
    · obtain ⟨g, off, rfl, _, z1, z0⟩ := HR.out.cells j hlt
      replace z1 : W.cell? ⟨g, off + j * 2, none⟩ = some (.int .u64 ((el es j).1 : Int)) := z1
      replace z0 : W.cell? ⟨g, off + j * 2 + 1, none⟩ = some (.int .u64 ((el es j).2 : Int)) := z0
      have y1 := keepc D.out z1
      have y0 := keepc D.out z0
      have j1 : (j : Int) < (es.length : Int) := by omega
      have HTn : Hid (∀ b, ofB l ((el es j).1 : Int) ((el es j).2 : Int) = b → ((es.take (j + 1)).all fun e => ofB l (e.1 : Int) (e.2 : Int)) = b) := fun b hb => by
        rw [take_el hlt, List.all_append, HT.out]
        simpa using hb
      cases hb : ofB l ((el es j).1 : Int) ((el es j).2 : Int)
      · have HO1 := hidT (HO.out j hlt _ hb)
        clear HO HR z1 z0 HF HT HTn hb
        generalize el es j = y at *
        go_wp2_with (go_at_call 16; refine (HO1.out.go _).mono ?_; rintro e w9 ⟨rfl, hb⟩; have D9 := hidT (D.out.trans (hb.mono D.out.size)); clear hb D y1 y0)
        go_ret
        exact ⟨rfl, D9.out⟩
      · have HO1 := hidT (HO.out j hlt _ hb)
        have HT1 := hidT (HTn.out _ hb)
        clear HO HR z1 z0 HF HT HTn hb
        generalize el es j = y at *
        go_wp2_with (go_at_call 16; refine (HO1.out.go _).mono ?_; rintro e w9 ⟨rfl, hb⟩; have D9 := hidT (D.out.trans (hb.mono D.out.size)); clear hb D y1 y0)
        exact ⟨⟨j + 1, hlt, HT1, by simp, D9⟩, by simp [intOf]; omega⟩
    · have := HT.out
      rw [List.take_of_length_le (by omega), HF.out] at this
      cases this
set_option linter.unusedSimpArgs false in
set_option maxHeartbeats 8000000 in
set_option maxRecDepth 100000 in
theorem rcheck_rule (l : Int) (a : Option Addr) (cap : Nat) (es : List (Nat × Nat)) (hes : ltE es) (h0 : 0 ≤ l ∧ l ≤ 7) (h10 : es.length ≤ 10) (ho : (es.all fun e => ofB l (e.1 : Int) (e.2 : Int)) = true) (hcap : es.length ≤ cap) (hf : ¬ Free es es.length) (W : World) (hr : ERow W a es) :
    Calls Try.prog 11 #[.int .i64 l, .slice a es.length cap] W fun e w' => e = .returned (.int .i64 7) ∧ Below W.heap.size W w' := by
  have HO : Hid (∀ j : Nat, j < es.length → Ret 16 #[.int .i64 l, .agg #[.int .u64 ((el es j).1 : Int), .int .u64 ((el es j).2 : Int)]] (.bool true)) := fun j hj => by
    have := rof_any l (el es j).1 (el es j).2 (ltE_el hes j).1 (ltE_el hes j).2
    rw [show ofB l ((el es j).1 : Int) ((el es j).2 : Int) = true from List.all_eq_true.1 ho (el es j) (by rw [show el es j = es[j] from by simp [el, hj]]; exact List.getElem_mem hj)] at this
    exact this
  have HIn : Hid (∀ j : Nat, j < es.length → ∀ b : Bool, (decide ((rb (es.take j ++ [el es j])).length = (rb (es.take j)).length)) = b → ∀ w, Below W.heap.size W w → Calls Try.prog 45 #[.slice a j cap, .agg #[.int .u64 ((el es j).1 : Int), .int .u64 ((el es j).2 : Int)]] w fun e w' => e = .returned (.bool b) ∧ Below w.heap.size w w') := fun j hj b hb w hw => by
    have hl : (es.take j).length = j := by rw [List.length_take]; omega
    have := rIn04 a cap (es.take j) (fun e he => hes e (List.mem_of_mem_take he)) (by omega) (el es j) (ltE_el hes j) w (hr.below hw).take
    rw [hl, hb] at this
    exact this
  have HS : Hid (∀ j : Nat, j < es.length → (Sp (es.take j) (el es j) → decide ((rb (es.take j ++ [el es j])).length = (rb (es.take j)).length) = true) ∧ (¬ Sp (es.take j) (el es j) → decide ((rb (es.take j ++ [el es j])).length = (rb (es.take j)).length) = false)) := fun j hj => by
    have e1 := rb_in (l := es.take j) (fun e he => hes e (List.mem_of_mem_take he)) (ltE_el hes j)
    exact ⟨fun h => decide_eq_true (e1.1 h), fun h => decide_eq_false fun e => h (e1.2 e)⟩
  have HR := hidT hr
  have l0 : ¬ l < 0 := by omega
  have l7 : ¬ 7 < l := by omega
  have n10 : ¬ (10 : Int) < (es.length : Int) := by omega
  have HF := hidT hf
  clear hes ho hr h0
  go_enter Try.func11, Try.ntmps11
  go_wp2_with fail
  go_loopw [5] (fun u wr => ∃ j : Nat, j ≤ es.length ∧ u = .int .i64 j ∧ Hid (Below W.heap.size W wr)) (fun u _ => es.length - (intOf u).toNat)
  case atStart => exact ⟨0, Nat.zero_le _, rfl, Below.refl _ _⟩
  case round =>
    obtain ⟨j, hj, rfl, D⟩ := hrel
    by_cases hlt : j < es.length
    · obtain ⟨g, off, rfl, _, z1, z0⟩ := HR.out.cells j hlt
      replace z1 : W.cell? ⟨g, off + j * 2, none⟩ = some (.int .u64 ((el es j).1 : Int)) := z1
      replace z0 : W.cell? ⟨g, off + j * 2 + 1, none⟩ = some (.int .u64 ((el es j).2 : Int)) := z0
      have y1 := keepc D.out z1
      have y0 := keepc D.out z0
      have HO1 := hidT (HO.out j hlt)
      have j1 : (j : Int) < (es.length : Int) := by omega
      clear HO HIn HS HR z1 z0 HF
      generalize el es j = y at *
      go_wp2_with (go_at_call 16; refine (HO1.out.go _).mono ?_; rintro e w9 ⟨rfl, hb⟩; have D9 := hidT (D.out.trans (hb.mono D.out.size)); clear hb D y1 y0)
      exact ⟨⟨j + 1, hlt, by simp, D9⟩, by simp [intOf]; omega⟩
    · obtain rfl : j = es.length := by omega
      clear hlt
      go_wp2_with fail
      go_loopw [6] (fun u wr => ∃ j : Nat, j ≤ es.length ∧ Hid (∀ i, i < j → ¬ Sp (es.take i) (el es i)) ∧ u = .int .i64 j ∧ Hid (Below W.heap.size W wr)) (fun u _ => es.length - (intOf u).toNat)
      case atStart => exact ⟨0, Nat.zero_le _, (fun i hi => absurd hi (Nat.not_lt_zero _)), rfl, D⟩
      case round =>
        clear D
        obtain ⟨j, hj, HN, rfl, D⟩ := hrel
        by_cases hlt : j < es.length
        · obtain ⟨g, off, rfl, _, z1, z0⟩ := HR.out.cells j hlt
          replace z1 : W.cell? ⟨g, off + j * 2, none⟩ = some (.int .u64 ((el es j).1 : Int)) := z1
          replace z0 : W.cell? ⟨g, off + j * 2 + 1, none⟩ = some (.int .u64 ((el es j).2 : Int)) := z0
          have y1 := keepc D.out z1
          have y0 := keepc D.out z0
          have j1 : (j : Int) < (es.length : Int) := by omega
          have jc : (j : Int) ≤ (cap : Int) := by have := hcap; omega
          have j0 : (0 : Int) ≤ (j : Int) := by omega
          have K : Hid (Below wr.heap.size wr wr) := Below.refl _ _
          have HI0 := hidT (fun b e w (hb : Below wr.heap.size wr w) => HIn.out j hlt b e w (D.out.trans (hb.mono D.out.size)))
          clear z1 z0 HO HIn HR
          by_cases hsp : Sp (es.take j) (el es j)
          · have HI := hidT (HI0.out true ((HS.out j hlt).1 hsp))
            clear HI0 HS HF HN hsp
            generalize el es j = y at *
            go_upto_region 13 with fail
            refine wp_region_noPanic ?_
            refine wp_region_held_drew (S := fun w => w.cell? ⟨g, off + j * 2, none⟩ = some (.int .u64 (y.1 : Int)) ∧ w.cell? ⟨g, off + j * 2 + 1, none⟩ = some (.int .u64 (y.2 : Int))) (by kernel_rfl) (⟨keepc K.out.drew y1, keepc K.out.drew y0⟩) (fun hHeld => ?_)
            refine wpAnyH_take (i := 0) (oi := _) (v := ?_) rfl (by kernel_rfl) (by kernel_rfl) (by kernel_rfl) (fun _ _ _ h => h) (Or.inl ⟨by rfl, ?_⟩) (by assumption) ?_
            rotate_left
            · ((intro w hSw; (try dsimp only at hSw); go_simp) <;> (try with_reducible rfl))
            show wpAnyH _ _ _ _ _ _ _ (Act.put _ (some 35) _) _
            simp only [Act.put, List.setIfInBounds_toArray, List.set_cons_succ, List.set_cons_zero]
            refine wpAnyH_take (i := 1) (oi := _) (v := ?_) rfl (by kernel_rfl) (by kernel_rfl) (by kernel_rfl) (fun _ _ _ h => h) (Or.inl ⟨by rfl, ?_⟩) (by assumption) ?_
            rotate_left
            · ((intro w hSw; (try dsimp only at hSw); go_simp) <;> (try with_reducible rfl))
            show wpAnyH _ _ _ _ _ _ _ (Act.put _ (some 36) _) _
            simp only [Act.put, List.setIfInBounds_toArray, List.set_cons_succ, List.set_cons_zero]
            refine wpAnyH_take (i := 2) (oi := _) (v := ?_) rfl (by kernel_rfl) (by kernel_rfl) (by kernel_rfl) (fun _ _ _ h => h) (Or.inl ⟨by rfl, ?_⟩) (by assumption) ?_
            rotate_left
            · ((intro w hSw; (try dsimp only at hSw); go_simp) <;> (try with_reducible rfl))
            show wpAnyH _ _ _ _ _ _ _ (Act.put _ (some 37) _) _
            simp only [Act.put, List.setIfInBounds_toArray, List.set_cons_succ, List.set_cons_zero]
            refine wpAnyH_take (i := 3) (oi := _) (v := ?_) rfl (by kernel_rfl) (by kernel_rfl) (by kernel_rfl) (fun _ _ _ h => h) (Or.inl ⟨by rfl, ?_⟩) (by assumption) ?_
            rotate_left
            · ((intro w hSw; (try dsimp only at hSw); go_simp) <;> (try with_reducible rfl))
            show wpAnyH _ _ _ _ _ _ _ (Act.put _ (some 38) _) _
            simp only [Act.put, List.setIfInBounds_toArray, List.set_cons_succ, List.set_cons_zero]
            refine wpAnyH_take (i := 4) (oi := _) (v := ?_) rfl (by kernel_rfl) (by kernel_rfl) (by kernel_rfl) (fun _ _ _ h => h) (Or.inl ⟨by rfl, ?_⟩) (by assumption) ?_
            rotate_left
            · ((intro w hSw; (try dsimp only at hSw); go_simp) <;> (try with_reducible rfl))
            show wpAnyH _ _ _ _ _ _ _ (Act.put _ (some 39) _) _
            simp only [Act.put, List.setIfInBounds_toArray, List.set_cons_succ, List.set_cons_zero]
            refine wpAnyH_take (i := 5) (oi := _) (v := ?_) rfl (by kernel_rfl) (by kernel_rfl) (by kernel_rfl) (fun _ _ _ h => h) (Or.inl ⟨by rfl, ?_⟩) (by assumption) ?_
            rotate_left
            · ((intro w hSw; (try dsimp only at hSw); go_simp) <;> (try with_reducible rfl))
            show wpAnyH _ _ _ _ _ _ _ (Act.put _ (some 40) _) _
            simp only [Act.put, List.setIfInBounds_toArray, List.set_cons_succ, List.set_cons_zero]
            refine wpAnyH_take (i := 6) (oi := _) (v := ?_) rfl (by kernel_rfl) (by kernel_rfl) (by kernel_rfl) (fun _ _ _ h => h) (Or.inl ⟨by rfl, ?_⟩) (by assumption) ?_
            rotate_left
            · ((intro w hSw; (try dsimp only at hSw); go_simp) <;> (try with_reducible rfl))
            show wpAnyH _ _ _ _ _ _ _ (Act.put _ (some 41) _) _
            simp only [Act.put, List.setIfInBounds_toArray, List.set_cons_succ, List.set_cons_zero]
            refine wpAnyH_ready (rs := [7]) (by kernel_rfl) (by simp) ?_
            refine AllReadyH.cons (o := _) rfl (fun KK hKK => ?_) AllReadyH.nil
            go_simp
            (go_at_call 45; refine (HI.out _ (by first | exact K.out | exact K.out.drew)).mono ?_; rintro e w9 ⟨rfl, hb⟩)
            have K'' : Hid (Below wr.heap.size wr w9) := (by first | exact K.out.trans (hb.mono K.out.size) | exact K.out.drew.trans (hb.mono K.out.drew.size))
            clear K hb
            have K := K''
            clear K''
            refine hKK.out _ _ ?_ (fun hHeld => ?_)
            · exact ⟨keepc K.out y1, keepc K.out y0⟩
            clear hKK KK
            try simp only [Act.put]
            refine wpAnyH_done (by kernel_rfl) ?_ _
            refine NoPanic.normal ?_
            have D9 := hidT (D.out.trans (K.out.mono D.out.size))
            clear K y1 y0 D HI
            go_wp2
            go_ret
            exact ⟨rfl, D9.out⟩
          · have HI := hidT (HI0.out false ((HS.out j hlt).2 hsp))
            have HN1 : Hid (∀ i, i < j + 1 → ¬ Sp (es.take i) (el es i)) := fun i hi => by
              by_cases h : i < j
              · exact HN.out i h
              · obtain rfl : i = j := by omega
                exact hsp
            clear HI0 HS HF hsp HN
            generalize el es j = y at *
            go_upto_region 13 with fail
            refine wp_region_noPanic ?_
            refine wp_region_held_drew (S := fun w => w.cell? ⟨g, off + j * 2, none⟩ = some (.int .u64 (y.1 : Int)) ∧ w.cell? ⟨g, off + j * 2 + 1, none⟩ = some (.int .u64 (y.2 : Int))) (by kernel_rfl) (⟨keepc K.out.drew y1, keepc K.out.drew y0⟩) (fun hHeld => ?_)
            refine wpAnyH_take (i := 0) (oi := _) (v := ?_) rfl (by kernel_rfl) (by kernel_rfl) (by kernel_rfl) (fun _ _ _ h => h) (Or.inl ⟨by rfl, ?_⟩) (by assumption) ?_
            rotate_left
            · ((intro w hSw; (try dsimp only at hSw); go_simp) <;> (try with_reducible rfl))
            show wpAnyH _ _ _ _ _ _ _ (Act.put _ (some 35) _) _
            simp only [Act.put, List.setIfInBounds_toArray, List.set_cons_succ, List.set_cons_zero]
            refine wpAnyH_take (i := 1) (oi := _) (v := ?_) rfl (by kernel_rfl) (by kernel_rfl) (by kernel_rfl) (fun _ _ _ h => h) (Or.inl ⟨by rfl, ?_⟩) (by assumption) ?_
            rotate_left
            · ((intro w hSw; (try dsimp only at hSw); go_simp) <;> (try with_reducible rfl))
            show wpAnyH _ _ _ _ _ _ _ (Act.put _ (some 36) _) _
            simp only [Act.put, List.setIfInBounds_toArray, List.set_cons_succ, List.set_cons_zero]
            refine wpAnyH_take (i := 2) (oi := _) (v := ?_) rfl (by kernel_rfl) (by kernel_rfl) (by kernel_rfl) (fun _ _ _ h => h) (Or.inl ⟨by rfl, ?_⟩) (by assumption) ?_
            rotate_left
            · ((intro w hSw; (try dsimp only at hSw); go_simp) <;> (try with_reducible rfl))
            show wpAnyH _ _ _ _ _ _ _ (Act.put _ (some 37) _) _
            simp only [Act.put, List.setIfInBounds_toArray, List.set_cons_succ, List.set_cons_zero]
            refine wpAnyH_take (i := 3) (oi := _) (v := ?_) rfl (by kernel_rfl) (by kernel_rfl) (by kernel_rfl) (fun _ _ _ h => h) (Or.inl ⟨by rfl, ?_⟩) (by assumption) ?_
            rotate_left
            · ((intro w hSw; (try dsimp only at hSw); go_simp) <;> (try with_reducible rfl))
            show wpAnyH _ _ _ _ _ _ _ (Act.put _ (some 38) _) _
            simp only [Act.put, List.setIfInBounds_toArray, List.set_cons_succ, List.set_cons_zero]
            refine wpAnyH_take (i := 4) (oi := _) (v := ?_) rfl (by kernel_rfl) (by kernel_rfl) (by kernel_rfl) (fun _ _ _ h => h) (Or.inl ⟨by rfl, ?_⟩) (by assumption) ?_
            rotate_left
            · ((intro w hSw; (try dsimp only at hSw); go_simp) <;> (try with_reducible rfl))
            show wpAnyH _ _ _ _ _ _ _ (Act.put _ (some 39) _) _
            simp only [Act.put, List.setIfInBounds_toArray, List.set_cons_succ, List.set_cons_zero]
            refine wpAnyH_take (i := 5) (oi := _) (v := ?_) rfl (by kernel_rfl) (by kernel_rfl) (by kernel_rfl) (fun _ _ _ h => h) (Or.inl ⟨by rfl, ?_⟩) (by assumption) ?_
            rotate_left
            · ((intro w hSw; (try dsimp only at hSw); go_simp) <;> (try with_reducible rfl))
            show wpAnyH _ _ _ _ _ _ _ (Act.put _ (some 40) _) _
            simp only [Act.put, List.setIfInBounds_toArray, List.set_cons_succ, List.set_cons_zero]
            refine wpAnyH_take (i := 6) (oi := _) (v := ?_) rfl (by kernel_rfl) (by kernel_rfl) (by kernel_rfl) (fun _ _ _ h => h) (Or.inl ⟨by rfl, ?_⟩) (by assumption) ?_
            rotate_left
            · ((intro w hSw; (try dsimp only at hSw); go_simp) <;> (try with_reducible rfl))
            show wpAnyH _ _ _ _ _ _ _ (Act.put _ (some 41) _) _
            simp only [Act.put, List.setIfInBounds_toArray, List.set_cons_succ, List.set_cons_zero]
            refine wpAnyH_ready (rs := [7]) (by kernel_rfl) (by simp) ?_
            refine AllReadyH.cons (o := _) rfl (fun KK hKK => ?_) AllReadyH.nil
            go_simp
            (go_at_call 45; refine (HI.out _ (by first | exact K.out | exact K.out.drew)).mono ?_; rintro e w9 ⟨rfl, hb⟩)
            have K'' : Hid (Below wr.heap.size wr w9) := (by first | exact K.out.trans (hb.mono K.out.size) | exact K.out.drew.trans (hb.mono K.out.drew.size))
            clear K hb
            have K := K''
            clear K''
            refine hKK.out _ _ ?_ (fun hHeld => ?_)
            · exact ⟨keepc K.out y1, keepc K.out y0⟩
            clear hKK KK
            try simp only [Act.put]
            refine wpAnyH_done (by kernel_rfl) ?_ _
            refine NoPanic.normal ?_
            have D9 := hidT (D.out.trans (K.out.mono D.out.size))
            clear K y1 y0 D HI
            go_wp2
            exact ⟨⟨j + 1, hlt, HN1, by simp, D9⟩, by simp [intOf]; omega⟩
        · obtain rfl : j = es.length := by omega
          exact absurd HN.out HF.out
set_option linter.unusedSimpArgs false in
set_option maxHeartbeats 8000000 in
set_option maxRecDepth 100000 in
theorem rcheck_ok (l : Int) (a : Option Addr) (cap : Nat) (es : List (Nat × Nat)) (hes : ltE es) (h0 : 0 ≤ l ∧ l ≤ 7) (h10 : es.length ≤ 10) (ho : (es.all fun e => ofB l (e.1 : Int) (e.2 : Int)) = true) (hcap : es.length ≤ cap) (hf : Free es es.length) (W : World) (hr : ERow W a es) :
    Calls Try.prog 11 #[.int .i64 l, .slice a es.length cap] W fun e w' => e = .returned (.int .i64 0) ∧ Below W.heap.size W w' := by
  have HO : Hid (∀ j : Nat, j < es.length → Ret 16 #[.int .i64 l, .agg #[.int .u64 ((el es j).1 : Int), .int .u64 ((el es j).2 : Int)]] (.bool true)) := fun j hj => by
    have := rof_any l (el es j).1 (el es j).2 (ltE_el hes j).1 (ltE_el hes j).2
    rw [show ofB l ((el es j).1 : Int) ((el es j).2 : Int) = true from List.all_eq_true.1 ho (el es j) (by rw [show el es j = es[j] from by simp [el, hj]]; exact List.getElem_mem hj)] at this
    exact this
  have HIn : Hid (∀ j : Nat, j < es.length → ∀ b : Bool, (decide ((rb (es.take j ++ [el es j])).length = (rb (es.take j)).length)) = b → ∀ w, Below W.heap.size W w → Calls Try.prog 45 #[.slice a j cap, .agg #[.int .u64 ((el es j).1 : Int), .int .u64 ((el es j).2 : Int)]] w fun e w' => e = .returned (.bool b) ∧ Below w.heap.size w w') := fun j hj b hb w hw => by
    have hl : (es.take j).length = j := by rw [List.length_take]; omega
    have := rIn04 a cap (es.take j) (fun e he => hes e (List.mem_of_mem_take he)) (by omega) (el es j) (ltE_el hes j) w (hr.below hw).take
    rw [hl, hb] at this
    exact this
  have HS : Hid (∀ j : Nat, j < es.length → (Sp (es.take j) (el es j) → decide ((rb (es.take j ++ [el es j])).length = (rb (es.take j)).length) = true) ∧ (¬ Sp (es.take j) (el es j) → decide ((rb (es.take j ++ [el es j])).length = (rb (es.take j)).length) = false)) := fun j hj => by
    have e1 := rb_in (l := es.take j) (fun e he => hes e (List.mem_of_mem_take he)) (ltE_el hes j)
    exact ⟨fun h => decide_eq_true (e1.1 h), fun h => decide_eq_false fun e => h (e1.2 e)⟩
  have HR := hidT hr
  have l0 : ¬ l < 0 := by omega
  have l7 : ¬ 7 < l := by omega
  have n10 : ¬ (10 : Int) < (es.length : Int) := by omega
  have HF := hidT hf
  clear hes ho hr h0
  go_enter Try.func11, Try.ntmps11
  go_wp2_with fail
  go_loopw [5] (fun u wr => ∃ j : Nat, j ≤ es.length ∧ u = .int .i64 j ∧ Hid (Below W.heap.size W wr)) (fun u _ => es.length - (intOf u).toNat)
  case atStart => exact ⟨0, Nat.zero_le _, rfl, Below.refl _ _⟩
  case round =>
    obtain ⟨j, hj, rfl, D⟩ := hrel
    by_cases hlt : j < es.length
    · obtain ⟨g, off, rfl, _, z1, z0⟩ := HR.out.cells j hlt
      replace z1 : W.cell? ⟨g, off + j * 2, none⟩ = some (.int .u64 ((el es j).1 : Int)) := z1
      replace z0 : W.cell? ⟨g, off + j * 2 + 1, none⟩ = some (.int .u64 ((el es j).2 : Int)) := z0
      have y1 := keepc D.out z1
      have y0 := keepc D.out z0
      have HO1 := hidT (HO.out j hlt)
      have j1 : (j : Int) < (es.length : Int) := by omega
      clear HO HIn HS HR z1 z0 HF
      generalize el es j = y at *
      go_wp2_with (go_at_call 16; refine (HO1.out.go _).mono ?_; rintro e w9 ⟨rfl, hb⟩; have D9 := hidT (D.out.trans (hb.mono D.out.size)); clear hb D y1 y0)
      exact ⟨⟨j + 1, hlt, by simp, D9⟩, by simp [intOf]; omega⟩
    · obtain rfl : j = es.length := by omega
      clear hlt
      go_wp2_with fail
      go_loopw [6] (fun u wr => ∃ j : Nat, j ≤ es.length ∧ Hid (∀ i, i < j → ¬ Sp (es.take i) (el es i)) ∧ u = .int .i64 j ∧ Hid (Below W.heap.size W wr)) (fun u _ => es.length - (intOf u).toNat)
      case atStart => exact ⟨0, Nat.zero_le _, (fun i hi => absurd hi (Nat.not_lt_zero _)), rfl, D⟩
      case round =>
        clear D
        obtain ⟨j, hj, HN, rfl, D⟩ := hrel
        by_cases hlt : j < es.length
        · obtain ⟨g, off, rfl, _, z1, z0⟩ := HR.out.cells j hlt
          replace z1 : W.cell? ⟨g, off + j * 2, none⟩ = some (.int .u64 ((el es j).1 : Int)) := z1
          replace z0 : W.cell? ⟨g, off + j * 2 + 1, none⟩ = some (.int .u64 ((el es j).2 : Int)) := z0
          have y1 := keepc D.out z1
          have y0 := keepc D.out z0
          have j1 : (j : Int) < (es.length : Int) := by omega
          have jc : (j : Int) ≤ (cap : Int) := by have := hcap; omega
          have j0 : (0 : Int) ≤ (j : Int) := by omega
          have K : Hid (Below wr.heap.size wr wr) := Below.refl _ _
          have HI0 := hidT (fun b e w (hb : Below wr.heap.size wr w) => HIn.out j hlt b e w (D.out.trans (hb.mono D.out.size)))
          clear z1 z0 HO HIn HR
          by_cases hsp : Sp (es.take j) (el es j)
          · have HI := hidT (HI0.out true ((HS.out j hlt).1 hsp))
            exact absurd hsp (HF.out j hlt)
          · have HI := hidT (HI0.out false ((HS.out j hlt).2 hsp))
            have HN1 : Hid (∀ i, i < j + 1 → ¬ Sp (es.take i) (el es i)) := fun i hi => by
              by_cases h : i < j
              · exact HN.out i h
              · obtain rfl : i = j := by omega
                exact hsp
            clear HI0 HS HF hsp HN
            generalize el es j = y at *
            go_upto_region 13 with fail
            refine wp_region_noPanic ?_
            refine wp_region_held_drew (S := fun w => w.cell? ⟨g, off + j * 2, none⟩ = some (.int .u64 (y.1 : Int)) ∧ w.cell? ⟨g, off + j * 2 + 1, none⟩ = some (.int .u64 (y.2 : Int))) (by kernel_rfl) (⟨keepc K.out.drew y1, keepc K.out.drew y0⟩) (fun hHeld => ?_)
            refine wpAnyH_take (i := 0) (oi := _) (v := ?_) rfl (by kernel_rfl) (by kernel_rfl) (by kernel_rfl) (fun _ _ _ h => h) (Or.inl ⟨by rfl, ?_⟩) (by assumption) ?_
            rotate_left
            · ((intro w hSw; (try dsimp only at hSw); go_simp) <;> (try with_reducible rfl))
            show wpAnyH _ _ _ _ _ _ _ (Act.put _ (some 35) _) _
            simp only [Act.put, List.setIfInBounds_toArray, List.set_cons_succ, List.set_cons_zero]
            refine wpAnyH_take (i := 1) (oi := _) (v := ?_) rfl (by kernel_rfl) (by kernel_rfl) (by kernel_rfl) (fun _ _ _ h => h) (Or.inl ⟨by rfl, ?_⟩) (by assumption) ?_
            rotate_left
            · ((intro w hSw; (try dsimp only at hSw); go_simp) <;> (try with_reducible rfl))
            show wpAnyH _ _ _ _ _ _ _ (Act.put _ (some 36) _) _
            simp only [Act.put, List.setIfInBounds_toArray, List.set_cons_succ, List.set_cons_zero]
            refine wpAnyH_take (i := 2) (oi := _) (v := ?_) rfl (by kernel_rfl) (by kernel_rfl) (by kernel_rfl) (fun _ _ _ h => h) (Or.inl ⟨by rfl, ?_⟩) (by assumption) ?_
            rotate_left
            · ((intro w hSw; (try dsimp only at hSw); go_simp) <;> (try with_reducible rfl))
            show wpAnyH _ _ _ _ _ _ _ (Act.put _ (some 37) _) _
            simp only [Act.put, List.setIfInBounds_toArray, List.set_cons_succ, List.set_cons_zero]
            refine wpAnyH_take (i := 3) (oi := _) (v := ?_) rfl (by kernel_rfl) (by kernel_rfl) (by kernel_rfl) (fun _ _ _ h => h) (Or.inl ⟨by rfl, ?_⟩) (by assumption) ?_
            rotate_left
            · ((intro w hSw; (try dsimp only at hSw); go_simp) <;> (try with_reducible rfl))
            show wpAnyH _ _ _ _ _ _ _ (Act.put _ (some 38) _) _
            simp only [Act.put, List.setIfInBounds_toArray, List.set_cons_succ, List.set_cons_zero]
            refine wpAnyH_take (i := 4) (oi := _) (v := ?_) rfl (by kernel_rfl) (by kernel_rfl) (by kernel_rfl) (fun _ _ _ h => h) (Or.inl ⟨by rfl, ?_⟩) (by assumption) ?_
            rotate_left
            · ((intro w hSw; (try dsimp only at hSw); go_simp) <;> (try with_reducible rfl))
            show wpAnyH _ _ _ _ _ _ _ (Act.put _ (some 39) _) _
            simp only [Act.put, List.setIfInBounds_toArray, List.set_cons_succ, List.set_cons_zero]
            refine wpAnyH_take (i := 5) (oi := _) (v := ?_) rfl (by kernel_rfl) (by kernel_rfl) (by kernel_rfl) (fun _ _ _ h => h) (Or.inl ⟨by rfl, ?_⟩) (by assumption) ?_
            rotate_left
            · ((intro w hSw; (try dsimp only at hSw); go_simp) <;> (try with_reducible rfl))
            show wpAnyH _ _ _ _ _ _ _ (Act.put _ (some 40) _) _
            simp only [Act.put, List.setIfInBounds_toArray, List.set_cons_succ, List.set_cons_zero]
            refine wpAnyH_take (i := 6) (oi := _) (v := ?_) rfl (by kernel_rfl) (by kernel_rfl) (by kernel_rfl) (fun _ _ _ h => h) (Or.inl ⟨by rfl, ?_⟩) (by assumption) ?_
            rotate_left
            · ((intro w hSw; (try dsimp only at hSw); go_simp) <;> (try with_reducible rfl))
            show wpAnyH _ _ _ _ _ _ _ (Act.put _ (some 41) _) _
            simp only [Act.put, List.setIfInBounds_toArray, List.set_cons_succ, List.set_cons_zero]
            refine wpAnyH_ready (rs := [7]) (by kernel_rfl) (by simp) ?_
            refine AllReadyH.cons (o := _) rfl (fun KK hKK => ?_) AllReadyH.nil
            go_simp
            (go_at_call 45; refine (HI.out _ (by first | exact K.out | exact K.out.drew)).mono ?_; rintro e w9 ⟨rfl, hb⟩)
            have K'' : Hid (Below wr.heap.size wr w9) := (by first | exact K.out.trans (hb.mono K.out.size) | exact K.out.drew.trans (hb.mono K.out.drew.size))
            clear K hb
            have K := K''
            clear K''
            refine hKK.out _ _ ?_ (fun hHeld => ?_)
            · exact ⟨keepc K.out y1, keepc K.out y0⟩
            clear hKK KK
            try simp only [Act.put]
            refine wpAnyH_done (by kernel_rfl) ?_ _
            refine NoPanic.normal ?_
            have D9 := hidT (D.out.trans (K.out.mono D.out.size))
            clear K y1 y0 D HI
            go_wp2
            exact ⟨⟨j + 1, hlt, HN1, by simp, D9⟩, by simp [intOf]; omega⟩
        · obtain rfl : j = es.length := by omega
          clear HO HIn HS HR HF HN hlt
          go_wp2
          go_ret
          exact ⟨rfl, D.out⟩
set_option maxHeartbeats 2000000 in
theorem spts_no {W : World} {p k : Nat} {es ts : List (Nat × Nat)} {a aT aB : Option Addr} {c cT cB : Nat} (hS : Spa W p k es ts a aT aB c cT cB) (n : Int) (s : Nat × Nat) (ls : lt2 s) (h : hsv k es.length n s = false) :
    Calls Try.prog 15 #[.pointer (some ⟨p, 0, none⟩), .int .i64 n, .agg #[.int .u64 (s.1 : Int), .int .u64 (s.2 : Int)]] W fun e w' => e = .returned (.slice none 0 0) ∧ Below W.heap.size W w' := by
  have HH := hidT (fun w (hb : Below W.heap.size W w) => has_all (hS.below hb) n s ls)
  rw [h] at HH
  clear hS ls h
  go_enter Try.func15, Try.ntmps15
  go_wp2_with fail
  have D0 : Below W.heap.size W (W.alloc (Obj.cells #[.int .u64 (s.1 : Int), .int .u64 (s.2 : Int)] 27)) := (Below.refl _ _).alloc (Nat.le_refl _) _
  refine (HH.out _ D0).mono ?_
  rintro e w1 ⟨rfl, hb1⟩
  have D1 := hidT (D0.trans (hb1.mono (by simp)))
  clear hb1 D0 HH
  go_wp2
  go_ret
  exact ⟨rfl, D1.out⟩
end Go.Proofs.Ytnecjkdlmecgdaa
