/- Contracts of expr.isLevel, hindrance and stepDegree over the seat's translation; degrees and errors of steps, no Go in sight. -/
import Derived.Test.YtfehecmajmhmaaaExA
import Derived.Deep.OwnRows
namespace Go.Proofs.Ytfehecmajmhmaaa
open Go.RowKit

theorem xlevel (l : Int) : Ret 36 #[.int .i64 l] (.bool (decide (0 ≤ l ∧ l ≤ 7))) := by
  intro W
  by_cases h : 0 ≤ l ∧ l ≤ 7
  · rw [decide_eq_true h]
    obtain ⟨h1, h2⟩ := h
    go_enter Try.func36, Try.ntmps36
    go_wp2
    go_ret
    exact ⟨rfl, by first | exact Below.refl _ _ | go_grown⟩
  · rw [decide_eq_false h]
    rcases Int.lt_or_le l 0 with h1 | h1
    · have h2 : ¬ 0 ≤ l := by omega
      clear h
      go_enter Try.func36, Try.ntmps36
      go_wp2
      go_ret
      exact ⟨rfl, by first | exact Below.refl _ _ | go_grown⟩
    · have h2 : ¬ l ≤ 7 := by omega
      clear h
      go_enter Try.func36, Try.ntmps36
      go_wp2
      go_ret
      exact ⟨rfl, by first | exact Below.refl _ _ | go_grown⟩
/-- What is wrong with a step that has n ahead of it, but for its degree. -/
def hnI (lv vr n : Int) (o : Stp) : Int :=
  if frm o n = true then (if ofB lv (o.v.1 : Int) (o.v.2 : Int) = true then (if o.k = 2 ∧ ¬ (0 ≤ o.a ∧ o.a < vr) then 4 else 0) else 5) else 3
set_option maxHeartbeats 4000000 in
set_option maxRecDepth 100000 in
theorem xhind (lv vr n : Int) (o : Stp) (ho : o.ok) : Ret 37 #[.int .i64 lv, .int .i64 vr, .int .i64 n, o.val] (.int .i64 (hnI lv vr n o)) := by
  intro W
  have HF := xformed o n
  have HO : Ret 39 #[.int .i64 lv, .agg #[.int .u64 (o.v.1 : Int), .int .u64 (o.v.2 : Int)]] (.bool (ofB lv (o.v.1 : Int) (o.v.2 : Int))) := fun w => of_any lv _ _ (by omega) (by have := ho.2; omega) w
  have HB := xbelow o.a vr
  unfold hnI
  clear ho
  obtain ⟨k, a, b, v⟩ := o
  unfold Stp.val at *
  dsimp only at *
  generalize frm ⟨k, a, b, v⟩ n = f at *
  generalize ofB lv (v.1 : Int) (v.2 : Int) = q at *
  have c0 : (W.alloc (Obj.cells #[.int .i64 k, .int .i64 a, .int .i64 b, .int .u64 (v.1 : Int), .int .u64 (v.2 : Int)] 32)).cell? ⟨W.heap.size, 0, none⟩ = some (.int .i64 k) := by simp [go_sem]
  have c1 : (W.alloc (Obj.cells #[.int .i64 k, .int .i64 a, .int .i64 b, .int .u64 (v.1 : Int), .int .u64 (v.2 : Int)] 32)).cell? ⟨W.heap.size, 1, none⟩ = some (.int .i64 a) := by simp [go_sem]
  have c2 : (W.alloc (Obj.cells #[.int .i64 k, .int .i64 a, .int .i64 b, .int .u64 (v.1 : Int), .int .u64 (v.2 : Int)] 32)).cell? ⟨W.heap.size, 2, none⟩ = some (.int .i64 b) := by simp [go_sem]
  have c3 : (W.alloc (Obj.cells #[.int .i64 k, .int .i64 a, .int .i64 b, .int .u64 (v.1 : Int), .int .u64 (v.2 : Int)] 32)).cell? ⟨W.heap.size, 3, none⟩ = some (.int .u64 (v.1 : Int)) := by simp [go_sem]
  have c4 : (W.alloc (Obj.cells #[.int .i64 k, .int .i64 a, .int .i64 b, .int .u64 (v.1 : Int), .int .u64 (v.2 : Int)] 32)).cell? ⟨W.heap.size, 4, none⟩ = some (.int .u64 (v.2 : Int)) := by simp [go_sem]
  have D0 : Hid (Below W.heap.size W (W.alloc (Obj.cells #[.int .i64 k, .int .i64 a, .int .i64 b, .int .u64 (v.1 : Int), .int .u64 (v.2 : Int)] 32))) := by show Below _ _ _; go_grown
  cases f
  · rw [if_neg (by decide)]
    go_enter Try.func37, Try.ntmps37
    go_wp2_with (go_at_call 47; refine (HF.go _).mono ?_; rintro e w1 ⟨rfl, hb1⟩; have D1 : Hid (Below W.heap.size W w1) := D0.out.trans (hb1.mono D0.out.size); have d0 := keepc hb1 c0; have d1 := keepc hb1 c1; have d3 := keepc hb1 c3; have d4 := keepc hb1 c4; clear hb1)
    go_ret
    exact ⟨rfl, D1.out⟩
  · rw [if_pos rfl]
    cases q
    · rw [if_neg (by decide)]
      go_enter Try.func37, Try.ntmps37
      go_wp2_with (first | (go_at_call 47; refine (HF.go _).mono ?_; rintro e w1 ⟨rfl, hb1⟩; have D1 : Hid (Below W.heap.size W w1) := D0.out.trans (hb1.mono D0.out.size); have d0 := keepc hb1 c0; have d1 := keepc hb1 c1; have d3 := keepc hb1 c3; have d4 := keepc hb1 c4; clear hb1) | (go_at_call 39; refine (HO.go _).mono ?_; rintro e w2 ⟨rfl, hb2⟩; have D2 : Hid (Below W.heap.size W w2) := D1.out.trans (hb2.mono D1.out.size); have e0 := keepc hb2 d0; have e1 := keepc hb2 d1; clear hb2))
      go_ret
      exact ⟨rfl, D2.out⟩
    · rw [if_pos rfl]
      by_cases h2 : k = 2
      · subst h2
        by_cases h3 : 0 ≤ a ∧ a < vr
        · rw [if_neg (fun h => h.2 h3)]
          rw [decide_eq_true h3] at HB
          clear h3
          go_enter Try.func37, Try.ntmps37
          go_wp2_with (first | (go_at_call 47; refine (HF.go _).mono ?_; rintro e w1 ⟨rfl, hb1⟩; have D1 : Hid (Below W.heap.size W w1) := D0.out.trans (hb1.mono D0.out.size); have d0 := keepc hb1 c0; have d1 := keepc hb1 c1; have d3 := keepc hb1 c3; have d4 := keepc hb1 c4; clear hb1) | (go_at_call 39; refine (HO.go _).mono ?_; rintro e w2 ⟨rfl, hb2⟩; have D2 : Hid (Below W.heap.size W w2) := D1.out.trans (hb2.mono D1.out.size); have e0 := keepc hb2 d0; have e1 := keepc hb2 d1; clear hb2) | (go_at_call 48; refine (HB.go _).mono ?_; rintro e w3 ⟨rfl, hb3⟩; have D3 : Hid (Below W.heap.size W w3) := D2.out.trans (hb3.mono D2.out.size); clear hb3))
          go_ret
          exact ⟨rfl, D3.out⟩
        · rw [if_pos ⟨rfl, h3⟩]
          rw [decide_eq_false h3] at HB
          clear h3
          go_enter Try.func37, Try.ntmps37
          go_wp2_with (first | (go_at_call 47; refine (HF.go _).mono ?_; rintro e w1 ⟨rfl, hb1⟩; have D1 : Hid (Below W.heap.size W w1) := D0.out.trans (hb1.mono D0.out.size); have d0 := keepc hb1 c0; have d1 := keepc hb1 c1; have d3 := keepc hb1 c3; have d4 := keepc hb1 c4; clear hb1) | (go_at_call 39; refine (HO.go _).mono ?_; rintro e w2 ⟨rfl, hb2⟩; have D2 : Hid (Below W.heap.size W w2) := D1.out.trans (hb2.mono D1.out.size); have e0 := keepc hb2 d0; have e1 := keepc hb2 d1; clear hb2) | (go_at_call 48; refine (HB.go _).mono ?_; rintro e w3 ⟨rfl, hb3⟩; have D3 : Hid (Below W.heap.size W w3) := D2.out.trans (hb3.mono D2.out.size); clear hb3))
          go_ret
          exact ⟨rfl, D3.out⟩
      · rw [if_neg (fun h => h2 h.1)]
        have g2 : (k == 2) = false := by rw [beq_eq_false_iff_ne]; exact h2
        go_enter Try.func37, Try.ntmps37
        go_wp2_with (first | (go_at_call 47; refine (HF.go _).mono ?_; rintro e w1 ⟨rfl, hb1⟩; have D1 : Hid (Below W.heap.size W w1) := D0.out.trans (hb1.mono D0.out.size); have d0 := keepc hb1 c0; have d1 := keepc hb1 c1; have d3 := keepc hb1 c3; have d4 := keepc hb1 c4; clear hb1) | (go_at_call 39; refine (HO.go _).mono ?_; rintro e w2 ⟨rfl, hb2⟩; have D2 : Hid (Below W.heap.size W w2) := D1.out.trans (hb2.mono D1.out.size); have e0 := keepc hb2 d0; have e1 := keepc hb2 d1; clear hb2))
        go_ret
        exact ⟨rfl, D2.out⟩
/-- The degree of a step, from those of the steps ahead. -/
def dg (o : Stp) (d : Nat → Nat) : Nat :=
  if o.k = 2 then 1 else if o.k = 3 then max (d o.a.toNat) (d o.b.toNat) else if o.k = 4 then d o.a.toNat + d o.b.toNat else 0
set_option maxHeartbeats 8000000 in
set_option maxRecDepth 100000 in
theorem xstep (g L n : Nat) (d : Nat → Nat) (hd : ∀ p, d p ≤ 8) (o : Stp) (hn : n ≤ L) (hs : o.k = 3 ∨ o.k = 4 → (0 ≤ o.a ∧ o.a < n) ∧ (0 ≤ o.b ∧ o.b < n)) (W : World) (hr : ∀ p, p < n → W.cell? ⟨g, p, none⟩ = some (.int .i64 (d p : Nat))) :
    Calls Try.prog 38 #[o.val, .slice (some ⟨g, 0, none⟩) L L] W fun e w' => e = .returned (.int .i64 (dg o d : Nat)) ∧ Below W.heap.size W w' := by
  obtain ⟨k, a, b, v⟩ := o
  unfold dg Stp.val
  dsimp only at *
  have c0 : (W.alloc (Obj.cells #[.int .i64 k, .int .i64 a, .int .i64 b, .int .u64 (v.1 : Int), .int .u64 (v.2 : Int)] 32)).cell? ⟨W.heap.size, 0, none⟩ = some (.int .i64 k) := by simp [go_sem]
  have c1 : (W.alloc (Obj.cells #[.int .i64 k, .int .i64 a, .int .i64 b, .int .u64 (v.1 : Int), .int .u64 (v.2 : Int)] 32)).cell? ⟨W.heap.size, 1, none⟩ = some (.int .i64 a) := by simp [go_sem]
  have c2 : (W.alloc (Obj.cells #[.int .i64 k, .int .i64 a, .int .i64 b, .int .u64 (v.1 : Int), .int .u64 (v.2 : Int)] 32)).cell? ⟨W.heap.size, 2, none⟩ = some (.int .i64 b) := by simp [go_sem]
  have c3 : (W.alloc (Obj.cells #[.int .i64 k, .int .i64 a, .int .i64 b, .int .u64 (v.1 : Int), .int .u64 (v.2 : Int)] 32)).cell? ⟨W.heap.size, 3, none⟩ = some (.int .u64 (v.1 : Int)) := by simp [go_sem]
  have c4 : (W.alloc (Obj.cells #[.int .i64 k, .int .i64 a, .int .i64 b, .int .u64 (v.1 : Int), .int .u64 (v.2 : Int)] 32)).cell? ⟨W.heap.size, 4, none⟩ = some (.int .u64 (v.2 : Int)) := by simp [go_sem]
  have D0 : Hid (Below W.heap.size W (W.alloc (Obj.cells #[.int .i64 k, .int .i64 a, .int .i64 b, .int .u64 (v.1 : Int), .int .u64 (v.2 : Int)] 32))) := by show Below _ _ _; go_grown
  by_cases h2 : k = 2
  · rw [if_pos h2]
    subst h2
    clear hr hd hs
    go_enter Try.func38, Try.ntmps38
    go_wp2
    go_ret
    exact ⟨rfl, D0.out⟩
  · rw [if_neg h2]
    have g2 : (k == 2) = false := by rw [beq_eq_false_iff_ne]; exact h2
    by_cases h3 : k = 3
    · rw [if_pos h3]
      obtain ⟨ha, hb⟩ := hs (.inl h3)
      subst h3
      obtain ⟨x, rfl⟩ : ∃ x : Nat, a = (x : Int) := ⟨a.toNat, by omega⟩
      obtain ⟨y, rfl⟩ : ∃ y : Nat, b = (y : Int) := ⟨b.toNat, by omega⟩
      have hx : (x : Int) < (L : Int) := by omega
      have hy : (y : Int) < (L : Int) := by omega
      have hx0 : (0 : Int) ≤ (x : Int) := by omega
      have hy0 : (0 : Int) ≤ (y : Int) := by omega
      have r1 : W.cell? ⟨g, x, none⟩ = some (.int .i64 (d x : Nat)) := hr x (by omega)
      have r2 : W.cell? ⟨g, y, none⟩ = some (.int .i64 (d y : Nat)) := hr y (by omega)
      have e1 := hd x
      have e2 := hd y
      rw [Int.toNat_natCast, Int.toNat_natCast]
      generalize d x = p at *
      generalize d y = q at *
      clear hr hd ha hb hs
      have em : max (p : Int) (q : Int) = ((max p q : Nat) : Int) := by omega
      have f1 : (W.alloc (Obj.cells #[.int .i64 3, .int .i64 (x : Int), .int .i64 (y : Int), .int .u64 (v.1 : Int), .int .u64 (v.2 : Int)] 32)).cell? ⟨g, x, none⟩ = some (.int .i64 (p : Nat)) := keepc ((Below.refl _ _).alloc (Nat.le_refl _) _) r1
      have f2 : (W.alloc (Obj.cells #[.int .i64 3, .int .i64 (x : Int), .int .i64 (y : Int), .int .u64 (v.1 : Int), .int .u64 (v.2 : Int)] 32)).cell? ⟨g, y, none⟩ = some (.int .i64 (q : Nat)) := keepc ((Below.refl _ _).alloc (Nat.le_refl _) _) r2
      clear r1 r2
      go_enter Try.func38, Try.ntmps38
      go_wp2_with fail
      generalize (W.alloc (Obj.cells #[.int .i64 3, .int .i64 (x : Int), .int .i64 (y : Int), .int .u64 (v.1 : Int), .int .u64 (v.2 : Int)] 32)) = w1 at *
      have F : _ ∧ _ ∧ _ ∧ _ := ⟨c1, c2, f1, f2⟩
      go_region_held3 (fun w => w.cell? ⟨W.heap.size, 1, none⟩ = some (.int .i64 (x : Int)) ∧ w.cell? ⟨W.heap.size, 2, none⟩ = some (.int .i64 (y : Int)) ∧ w.cell? ⟨g, x, none⟩ = some (.int .i64 (p : Nat)) ∧ w.cell? ⟨g, y, none⟩ = some (.int .i64 (q : Nat))) (go_keep) (fail)
      go_wp2
      all_goals
        go_ret
        refine ⟨?_, D0.out.drew⟩
        simp
        (try omega)
    · rw [if_neg h3]
      have g3 : (k == 3) = false := by rw [beq_eq_false_iff_ne]; exact h3
      by_cases h4 : k = 4
      · rw [if_pos h4]
        obtain ⟨ha, hb⟩ := hs (.inr h4)
        subst h4
        obtain ⟨x, rfl⟩ : ∃ x : Nat, a = (x : Int) := ⟨a.toNat, by omega⟩
        obtain ⟨y, rfl⟩ : ∃ y : Nat, b = (y : Int) := ⟨b.toNat, by omega⟩
        have hx : (x : Int) < (L : Int) := by omega
        have hy : (y : Int) < (L : Int) := by omega
        have hx0 : (0 : Int) ≤ (x : Int) := by omega
        have hy0 : (0 : Int) ≤ (y : Int) := by omega
        have r1 : W.cell? ⟨g, x, none⟩ = some (.int .i64 (d x : Nat)) := hr x (by omega)
        have r2 : W.cell? ⟨g, y, none⟩ = some (.int .i64 (d y : Nat)) := hr y (by omega)
        have e1 := hd x
        have e2 := hd y
        rw [Int.toNat_natCast, Int.toNat_natCast]
        generalize d x = p at *
        generalize d y = q at *
        clear hr hd ha hb hs
        have em : IntKind.i64.wrap ((p : Int) + (q : Int)) = ((p + q : Nat) : Int) := by rw [IntKind.wrap_i64]; omega
        have f1 : (W.alloc (Obj.cells #[.int .i64 4, .int .i64 (x : Int), .int .i64 (y : Int), .int .u64 (v.1 : Int), .int .u64 (v.2 : Int)] 32)).cell? ⟨g, x, none⟩ = some (.int .i64 (p : Nat)) := keepc ((Below.refl _ _).alloc (Nat.le_refl _) _) r1
        have f2 : (W.alloc (Obj.cells #[.int .i64 4, .int .i64 (x : Int), .int .i64 (y : Int), .int .u64 (v.1 : Int), .int .u64 (v.2 : Int)] 32)).cell? ⟨g, y, none⟩ = some (.int .i64 (q : Nat)) := keepc ((Below.refl _ _).alloc (Nat.le_refl _) _) r2
        clear r1 r2
        go_enter Try.func38, Try.ntmps38
        go_wp2_with fail
        generalize (W.alloc (Obj.cells #[.int .i64 4, .int .i64 (x : Int), .int .i64 (y : Int), .int .u64 (v.1 : Int), .int .u64 (v.2 : Int)] 32)) = w1 at *
        have F : _ ∧ _ ∧ _ ∧ _ := ⟨c1, c2, f1, f2⟩
        go_region_held3 (fun w => w.cell? ⟨W.heap.size, 1, none⟩ = some (.int .i64 (x : Int)) ∧ w.cell? ⟨W.heap.size, 2, none⟩ = some (.int .i64 (y : Int)) ∧ w.cell? ⟨g, x, none⟩ = some (.int .i64 (p : Nat)) ∧ w.cell? ⟨g, y, none⟩ = some (.int .i64 (q : Nat))) (go_keep) (fail)
        go_wp2
        all_goals
          go_ret
          refine ⟨?_, D0.out.drew⟩
          simp
          (try omega)
      · rw [if_neg h4]
        have g4 : (k == 4) = false := by rw [beq_eq_false_iff_ne]; exact h4
        clear hr hd hs
        go_enter Try.func38, Try.ntmps38
        go_wp2
        go_ret
        exact ⟨rfl, D0.out⟩
end Go.Proofs.Ytfehecmajmhmaaa
