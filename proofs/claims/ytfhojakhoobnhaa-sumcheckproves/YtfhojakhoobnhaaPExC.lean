/- Contracts of expr.isLevel, hindrance and stepDegree over the seat's translation; degrees and errors of steps, no Go in sight. -/
import Derived.Test.YtfhojakhoobnhaaExA
import Derived.Deep.OwnRows
namespace Go.Proofs.Ytfhojakhoobnhaa
open Go.RowKit

theorem xlevel (l : Int) : Ret 103 #[.int .i64 l] (.bool (decide (0 ≤ l ∧ l ≤ 7))) := by
  intro W
  by_cases h : 0 ≤ l ∧ l ≤ 7
  · rw [decide_eq_true h]
    obtain ⟨h1, h2⟩ := h
    go_enter Try.func103, Try.ntmps103
    go_wp2
    go_ret
    exact ⟨rfl, by first | exact Below.refl _ _ | go_grown⟩
  · rw [decide_eq_false h]
    rcases Int.lt_or_le l 0 with h1 | h1
    · have h2 : ¬ 0 ≤ l := by omega
      clear h
      go_enter Try.func103, Try.ntmps103
      go_wp2
      go_ret
      exact ⟨rfl, by first | exact Below.refl _ _ | go_grown⟩
    · have h2 : ¬ l ≤ 7 := by omega
      clear h
      go_enter Try.func103, Try.ntmps103
      go_wp2
      go_ret
      exact ⟨rfl, by first | exact Below.refl _ _ | go_grown⟩
/-- What is wrong with a step that has n ahead of it, but for its degree. -/
def hnI (lv vr n : Int) (o : Stp) : Int :=
  if frm o n = true then (if ofB lv (o.v.1 : Int) (o.v.2 : Int) = true then (if o.k = 2 ∧ ¬ (0 ≤ o.a ∧ o.a < vr) then 4 else 0) else 5) else 3
set_option maxHeartbeats 4000000 in
set_option maxRecDepth 100000 in
theorem xhind (lv vr n : Int) (o : Stp) (ho : o.ok) : Ret 104 #[.int .i64 lv, .int .i64 vr, .int .i64 n, o.val] (.int .i64 (hnI lv vr n o)) := by
  intro W
  have HF := xformed o n
  have HO : Ret 64 #[.int .i64 lv, .agg #[.int .u64 (o.v.1 : Int), .int .u64 (o.v.2 : Int)]] (.bool (ofB lv (o.v.1 : Int) (o.v.2 : Int))) := fun w => of_any lv _ _ (by omega) (by have := ho.2; omega) w
  have HB := xbelow o.a vr
  unfold hnI
  clear ho
  obtain ⟨k, a, b, v⟩ := o
  unfold Stp.val at *
  dsimp only at *
  generalize frm ⟨k, a, b, v⟩ n = f at *
  generalize ofB lv (v.1 : Int) (v.2 : Int) = q at *
  have c0 : (W.alloc (Obj.cells #[.int .i64 k, .int .i64 a, .int .i64 b, .int .u64 (v.1 : Int), .int .u64 (v.2 : Int)] 91)).cell? ⟨W.heap.size, 0, none⟩ = some (.int .i64 k) := by simp [go_sem]
  have c1 : (W.alloc (Obj.cells #[.int .i64 k, .int .i64 a, .int .i64 b, .int .u64 (v.1 : Int), .int .u64 (v.2 : Int)] 91)).cell? ⟨W.heap.size, 1, none⟩ = some (.int .i64 a) := by simp [go_sem]
  have c2 : (W.alloc (Obj.cells #[.int .i64 k, .int .i64 a, .int .i64 b, .int .u64 (v.1 : Int), .int .u64 (v.2 : Int)] 91)).cell? ⟨W.heap.size, 2, none⟩ = some (.int .i64 b) := by simp [go_sem]
  have c3 : (W.alloc (Obj.cells #[.int .i64 k, .int .i64 a, .int .i64 b, .int .u64 (v.1 : Int), .int .u64 (v.2 : Int)] 91)).cell? ⟨W.heap.size, 3, none⟩ = some (.int .u64 (v.1 : Int)) := by simp [go_sem]
  have c4 : (W.alloc (Obj.cells #[.int .i64 k, .int .i64 a, .int .i64 b, .int .u64 (v.1 : Int), .int .u64 (v.2 : Int)] 91)).cell? ⟨W.heap.size, 4, none⟩ = some (.int .u64 (v.2 : Int)) := by simp [go_sem]
  have D0 : Hid (Below W.heap.size W (W.alloc (Obj.cells #[.int .i64 k, .int .i64 a, .int .i64 b, .int .u64 (v.1 : Int), .int .u64 (v.2 : Int)] 91))) := by show Below _ _ _; go_grown
  cases f
  · rw [if_neg (by decide)]
    go_enter Try.func104, Try.ntmps104
    go_wp2_with (go_at_call 112; refine (HF.go _).mono ?_; rintro e w1 ⟨rfl, hb1⟩; have D1 : Hid (Below W.heap.size W w1) := D0.out.trans (hb1.mono D0.out.size); have d0 := keepc hb1 c0; have d1 := keepc hb1 c1; have d3 := keepc hb1 c3; have d4 := keepc hb1 c4; clear hb1)
    go_ret
    exact ⟨rfl, D1.out⟩
  · rw [if_pos rfl]
    cases q
    · rw [if_neg (by decide)]
      go_enter Try.func104, Try.ntmps104
      go_wp2_with (first | (go_at_call 112; refine (HF.go _).mono ?_; rintro e w1 ⟨rfl, hb1⟩; have D1 : Hid (Below W.heap.size W w1) := D0.out.trans (hb1.mono D0.out.size); have d0 := keepc hb1 c0; have d1 := keepc hb1 c1; have d3 := keepc hb1 c3; have d4 := keepc hb1 c4; clear hb1) | (go_at_call 64; refine (HO.go _).mono ?_; rintro e w2 ⟨rfl, hb2⟩; have D2 : Hid (Below W.heap.size W w2) := D1.out.trans (hb2.mono D1.out.size); have e0 := keepc hb2 d0; have e1 := keepc hb2 d1; clear hb2))
      go_ret
      exact ⟨rfl, D2.out⟩
    · rw [if_pos rfl]
      by_cases h2 : k = 2
      · subst h2
        by_cases h3 : 0 ≤ a ∧ a < vr
        · rw [if_neg (fun h => h.2 h3)]
          rw [decide_eq_true h3] at HB
          clear h3
          go_enter Try.func104, Try.ntmps104
          go_wp2_with (first | (go_at_call 112; refine (HF.go _).mono ?_; rintro e w1 ⟨rfl, hb1⟩; have D1 : Hid (Below W.heap.size W w1) := D0.out.trans (hb1.mono D0.out.size); have d0 := keepc hb1 c0; have d1 := keepc hb1 c1; have d3 := keepc hb1 c3; have d4 := keepc hb1 c4; clear hb1) | (go_at_call 64; refine (HO.go _).mono ?_; rintro e w2 ⟨rfl, hb2⟩; have D2 : Hid (Below W.heap.size W w2) := D1.out.trans (hb2.mono D1.out.size); have e0 := keepc hb2 d0; have e1 := keepc hb2 d1; clear hb2) | (go_at_call 113; refine (HB.go _).mono ?_; rintro e w3 ⟨rfl, hb3⟩; have D3 : Hid (Below W.heap.size W w3) := D2.out.trans (hb3.mono D2.out.size); clear hb3))
          go_ret
          exact ⟨rfl, D3.out⟩
        · rw [if_pos ⟨rfl, h3⟩]
          rw [decide_eq_false h3] at HB
          clear h3
          go_enter Try.func104, Try.ntmps104
          go_wp2_with (first | (go_at_call 112; refine (HF.go _).mono ?_; rintro e w1 ⟨rfl, hb1⟩; have D1 : Hid (Below W.heap.size W w1) := D0.out.trans (hb1.mono D0.out.size); have d0 := keepc hb1 c0; have d1 := keepc hb1 c1; have d3 := keepc hb1 c3; have d4 := keepc hb1 c4; clear hb1) | (go_at_call 64; refine (HO.go _).mono ?_; rintro e w2 ⟨rfl, hb2⟩; have D2 : Hid (Below W.heap.size W w2) := D1.out.trans (hb2.mono D1.out.size); have e0 := keepc hb2 d0; have e1 := keepc hb2 d1; clear hb2) | (go_at_call 113; refine (HB.go _).mono ?_; rintro e w3 ⟨rfl, hb3⟩; have D3 : Hid (Below W.heap.size W w3) := D2.out.trans (hb3.mono D2.out.size); clear hb3))
          go_ret
          exact ⟨rfl, D3.out⟩
      · rw [if_neg (fun h => h2 h.1)]
        have g2 : (k == 2) = false := by rw [beq_eq_false_iff_ne]; exact h2
        go_enter Try.func104, Try.ntmps104
        go_wp2_with (first | (go_at_call 112; refine (HF.go _).mono ?_; rintro e w1 ⟨rfl, hb1⟩; have D1 : Hid (Below W.heap.size W w1) := D0.out.trans (hb1.mono D0.out.size); have d0 := keepc hb1 c0; have d1 := keepc hb1 c1; have d3 := keepc hb1 c3; have d4 := keepc hb1 c4; clear hb1) | (go_at_call 64; refine (HO.go _).mono ?_; rintro e w2 ⟨rfl, hb2⟩; have D2 : Hid (Below W.heap.size W w2) := D1.out.trans (hb2.mono D1.out.size); have e0 := keepc hb2 d0; have e1 := keepc hb2 d1; clear hb2))
        go_ret
        exact ⟨rfl, D2.out⟩
/-- The degree of a step, from those of the steps ahead. -/
def dg (o : Stp) (d : Nat → Nat) : Nat :=
  if o.k = 2 then 1 else if o.k = 3 then max (d o.a.toNat) (d o.b.toNat) else if o.k = 4 then d o.a.toNat + d o.b.toNat else 0
set_option maxHeartbeats 8000000 in
set_option maxRecDepth 100000 in
theorem xstep (g L n : Nat) (d : Nat → Nat) (hd : ∀ p, d p ≤ 8) (o : Stp) (hn : n ≤ L) (hs : o.k = 3 ∨ o.k = 4 → (0 ≤ o.a ∧ o.a < n) ∧ (0 ≤ o.b ∧ o.b < n)) (W : World) (hr : ∀ p, p < n → W.cell? ⟨g, p, none⟩ = some (.int .i64 (d p : Nat))) :
    Calls Try.prog 105 #[o.val, .slice (some ⟨g, 0, none⟩) L L] W fun e w' => e = .returned (.int .i64 (dg o d : Nat)) ∧ Below W.heap.size W w' := by
  obtain ⟨k, a, b, v⟩ := o
  unfold dg Stp.val
  dsimp only at *
  have c0 : (W.alloc (Obj.cells #[.int .i64 k, .int .i64 a, .int .i64 b, .int .u64 (v.1 : Int), .int .u64 (v.2 : Int)] 91)).cell? ⟨W.heap.size, 0, none⟩ = some (.int .i64 k) := by simp [go_sem]
  have c1 : (W.alloc (Obj.cells #[.int .i64 k, .int .i64 a, .int .i64 b, .int .u64 (v.1 : Int), .int .u64 (v.2 : Int)] 91)).cell? ⟨W.heap.size, 1, none⟩ = some (.int .i64 a) := by simp [go_sem]
  have c2 : (W.alloc (Obj.cells #[.int .i64 k, .int .i64 a, .int .i64 b, .int .u64 (v.1 : Int), .int .u64 (v.2 : Int)] 91)).cell? ⟨W.heap.size, 2, none⟩ = some (.int .i64 b) := by simp [go_sem]
  have c3 : (W.alloc (Obj.cells #[.int .i64 k, .int .i64 a, .int .i64 b, .int .u64 (v.1 : Int), .int .u64 (v.2 : Int)] 91)).cell? ⟨W.heap.size, 3, none⟩ = some (.int .u64 (v.1 : Int)) := by simp [go_sem]
  have c4 : (W.alloc (Obj.cells #[.int .i64 k, .int .i64 a, .int .i64 b, .int .u64 (v.1 : Int), .int .u64 (v.2 : Int)] 91)).cell? ⟨W.heap.size, 4, none⟩ = some (.int .u64 (v.2 : Int)) := by simp [go_sem]
  have D0 : Hid (Below W.heap.size W (W.alloc (Obj.cells #[.int .i64 k, .int .i64 a, .int .i64 b, .int .u64 (v.1 : Int), .int .u64 (v.2 : Int)] 91))) := by show Below _ _ _; go_grown
  by_cases h2 : k = 2
  · rw [if_pos h2]
    subst h2
    clear hr hd hs
    go_enter Try.func105, Try.ntmps105
    go_wp2
    go_ret
    exact ⟨rfl, D0.out⟩
  · rw [if_neg h2]
    have g2 : (k == 2) = false := by rw [beq_eq_false_iff_ne]; exact h2
    by_cases h3 : k = 3
    · rw [if_pos h3]
      obtain ⟨ha, hb⟩ := hs (.inl h3)
      subst h3
      obtain ⟨x, rfl⟩ : ∃ x : Nat, a = (x : Int) := ⟨a.toNat, by omega⟩
      obtain ⟨y, rfl⟩ : ∃ y : Nat, b = (y : Int) := ⟨b.toNat, by omega⟩
      have hx : (x : Int) < (L : Int) := by omega
      have hy : (y : Int) < (L : Int) := by omega
      have hx0 : (0 : Int) ≤ (x : Int) := by omega
      have hy0 : (0 : Int) ≤ (y : Int) := by omega
      have r1 : W.cell? ⟨g, x, none⟩ = some (.int .i64 (d x : Nat)) := hr x (by omega)
      have r2 : W.cell? ⟨g, y, none⟩ = some (.int .i64 (d y : Nat)) := hr y (by omega)
      have e1 := hd x
      have e2 := hd y
      rw [Int.toNat_natCast, Int.toNat_natCast]
      generalize d x = p at *
      generalize d y = q at *
      clear hr hd ha hb hs
      have em : max (p : Int) (q : Int) = ((max p q : Nat) : Int) := by omega
      have f1 : (W.alloc (Obj.cells #[.int .i64 3, .int .i64 (x : Int), .int .i64 (y : Int), .int .u64 (v.1 : Int), .int .u64 (v.2 : Int)] 91)).cell? ⟨g, x, none⟩ = some (.int .i64 (p : Nat)) := keepc ((Below.refl _ _).alloc (Nat.le_refl _) _) r1
      have f2 : (W.alloc (Obj.cells #[.int .i64 3, .int .i64 (x : Int), .int .i64 (y : Int), .int .u64 (v.1 : Int), .int .u64 (v.2 : Int)] 91)).cell? ⟨g, y, none⟩ = some (.int .i64 (q : Nat)) := keepc ((Below.refl _ _).alloc (Nat.le_refl _) _) r2
      clear r1 r2
      go_enter Try.func105, Try.ntmps105
      go_wp2_with fail
      generalize (W.alloc (Obj.cells #[.int .i64 3, .int .i64 (x : Int), .int .i64 (y : Int), .int .u64 (v.1 : Int), .int .u64 (v.2 : Int)] 91)) = w1 at *
      have F : _ ∧ _ ∧ _ ∧ _ := ⟨c1, c2, f1, f2⟩
      go_region_held3 (fun w => w.cell? ⟨W.heap.size, 1, none⟩ = some (.int .i64 (x : Int)) ∧ w.cell? ⟨W.heap.size, 2, none⟩ = some (.int .i64 (y : Int)) ∧ w.cell? ⟨g, x, none⟩ = some (.int .i64 (p : Nat)) ∧ w.cell? ⟨g, y, none⟩ = some (.int .i64 (q : Nat))) (go_keep) (fail)
      go_wp2
      all_goals
        go_ret
        refine ⟨?_, D0.out.drew⟩
        simp
        (try omega)
    · rw [if_neg h3]
      have g3 : (k == 3) = false := by rw [beq_eq_false_iff_ne]; exact h3
      by_cases h4 : k = 4
      · rw [if_pos h4]
        obtain ⟨ha, hb⟩ := hs (.inr h4)
        subst h4
        obtain ⟨x, rfl⟩ : ∃ x : Nat, a = (x : Int) := ⟨a.toNat, by omega⟩
        obtain ⟨y, rfl⟩ : ∃ y : Nat, b = (y : Int) := ⟨b.toNat, by omega⟩
        have hx : (x : Int) < (L : Int) := by omega
        have hy : (y : Int) < (L : Int) := by omega
        have hx0 : (0 : Int) ≤ (x : Int) := by omega
        have hy0 : (0 : Int) ≤ (y : Int) := by omega
        have r1 : W.cell? ⟨g, x, none⟩ = some (.int .i64 (d x : Nat)) := hr x (by omega)
        have r2 : W.cell? ⟨g, y, none⟩ = some (.int .i64 (d y : Nat)) := hr y (by omega)
        have e1 := hd x
        have e2 := hd y
        rw [Int.toNat_natCast, Int.toNat_natCast]
        generalize d x = p at *
        generalize d y = q at *
        clear hr hd ha hb hs
        have em : IntKind.i64.wrap ((p : Int) + (q : Int)) = ((p + q : Nat) : Int) := by rw [IntKind.wrap_i64]; omega
        have f1 : (W.alloc (Obj.cells #[.int .i64 4, .int .i64 (x : Int), .int .i64 (y : Int), .int .u64 (v.1 : Int), .int .u64 (v.2 : Int)] 91)).cell? ⟨g, x, none⟩ = some (.int .i64 (p : Nat)) := keepc ((Below.refl _ _).alloc (Nat.le_refl _) _) r1
        have f2 : (W.alloc (Obj.cells #[.int .i64 4, .int .i64 (x : Int), .int .i64 (y : Int), .int .u64 (v.1 : Int), .int .u64 (v.2 : Int)] 91)).cell? ⟨g, y, none⟩ = some (.int .i64 (q : Nat)) := keepc ((Below.refl _ _).alloc (Nat.le_refl _) _) r2
        clear r1 r2
        go_enter Try.func105, Try.ntmps105
        go_wp2_with fail
        generalize (W.alloc (Obj.cells #[.int .i64 4, .int .i64 (x : Int), .int .i64 (y : Int), .int .u64 (v.1 : Int), .int .u64 (v.2 : Int)] 91)) = w1 at *
        have F : _ ∧ _ ∧ _ ∧ _ := ⟨c1, c2, f1, f2⟩
        go_region_held3 (fun w => w.cell? ⟨W.heap.size, 1, none⟩ = some (.int .i64 (x : Int)) ∧ w.cell? ⟨W.heap.size, 2, none⟩ = some (.int .i64 (y : Int)) ∧ w.cell? ⟨g, x, none⟩ = some (.int .i64 (p : Nat)) ∧ w.cell? ⟨g, y, none⟩ = some (.int .i64 (q : Nat))) (go_keep) (fail)
        go_wp2
        all_goals
          go_ret
          refine ⟨?_, D0.out.drew⟩
          simp
          (try omega)
      · rw [if_neg h4]
        have g4 : (k == 4) = false := by rw [beq_eq_false_iff_ne]; exact h4
        clear hr hd hs
        go_enter Try.func105, Try.ntmps105
        go_wp2
        go_ret
        exact ⟨rfl, D0.out⟩
end Go.Proofs.Ytfhojakhoobnhaa

/- The contract of expr.degree over the seat's translation: what Check and Degree say. -/
namespace Go.Proofs.Ytfhojakhoobnhaa
open Go.RowKit

/-- The degrees of all steps. -/
def dgs (l : List Stp) : List Nat := l.foldl (fun ds o => ds ++ [dg o fun p => ds.getD p 0]) []
theorem dgs_snoc (l : List Stp) (o : Stp) : dgs (l ++ [o]) = dgs l ++ [dg o fun p => (dgs l).getD p 0] := by simp [dgs]
theorem dgs_len (l : List Stp) : (dgs l).length = l.length := by
  have : ∀ (r : List Stp) (ds : List Nat), (r.foldl (fun ds o => ds ++ [dg o fun p => ds.getD p 0]) ds).length = ds.length + r.length := by
    intro r
    induction r with
    | nil => intro ds; rfl
    | cons o r ih => intro ds; rw [List.foldl_cons, ih]; simp; omega
  have h := this l []
  simpa [dgs] using h
def dfun (l : List Stp) (p : Nat) : Nat := (dgs l).getD p 0
theorem take_st (l : List Stp) (i : Nat) (h : i < l.length) : l.take (i + 1) = l.take i ++ [l.getD i zst] := by
  rw [List.take_succ_eq_append_getElem h]; simp [h]
theorem dfun_old {l : List Stp} {i p : Nat} (h : i < l.length) (hp : p < i) : dfun (l.take (i + 1)) p = dfun (l.take i) p := by
  unfold dfun
  rw [take_st l i h, dgs_snoc]
  have : p < (dgs (l.take i)).length := by rw [dgs_len, List.length_take]; omega
  simp [List.getD, List.getElem?_append_left this]
theorem dfun_new {l : List Stp} {i : Nat} (h : i < l.length) : dfun (l.take (i + 1)) i = dg (l.getD i zst) (dfun (l.take i)) := by
  unfold dfun
  rw [take_st l i h, dgs_snoc]
  have e : (dgs (l.take i)).length = i := by rw [dgs_len, List.length_take]; omega
  simp [List.getD, e]
theorem dfun_out {l : List Stp} {i p : Nat} (hp : ¬ p < i) : dfun (l.take i) p = 0 := by
  unfold dfun
  have : (dgs (l.take i)).length ≤ p := by rw [dgs_len, List.length_take]; omega
  simp [List.getD, List.getElem?_eq_none this]
/-- What is wrong with the step i. -/
def er (lv vr : Int) (l : List Stp) (i : Nat) : Int :=
  if hnI lv vr (i : Int) (l.getD i zst) = 0 then (if 8 < dg (l.getD i zst) (dfun (l.take i)) then 7 else 0) else hnI lv vr (i : Int) (l.getD i zst)
/-- The first thing that is wrong among the first steps. -/
def chkF (lv vr : Int) (l : List Stp) : Nat → Int
  | 0 => 0
  | i + 1 => if chkF lv vr l i = 0 then er lv vr l i else chkF lv vr l i
theorem chkF_stop {lv vr : Int} {l : List Stp} {i : Nat} (h : ¬ chkF lv vr l i = 0) : ∀ j, chkF lv vr l (i + j) = chkF lv vr l i
  | 0 => rfl
  | j + 1 => by rw [← Nat.add_assoc, chkF, chkF_stop h j, if_neg h]
theorem chkF_at {lv vr : Int} {l : List Stp} {i n : Nat} (h0 : chkF lv vr l i = 0) (he : ¬ er lv vr l i = 0) (hn : i < n) : chkF lv vr l n = er lv vr l i := by
  have e : chkF lv vr l (i + 1) = er lv vr l i := by rw [chkF, if_pos h0]
  obtain ⟨j, rfl⟩ := Nat.le.dest hn
  rw [chkF_stop (by rw [e]; exact he), e]
theorem dfun_le {lv vr : Int} {l : List Stp} : ∀ {i : Nat}, i ≤ l.length → chkF lv vr l i = 0 → ∀ p, dfun (l.take i) p ≤ 8
  | 0, _, _, p => by rw [dfun_out (by omega)]; omega
  | i + 1, hi, h, p => by
    have h0 : chkF lv vr l i = 0 := Classical.byContradiction fun hc => by
      rw [chkF, if_neg hc] at h; exact hc h
    by_cases hp : p < i
    · rw [dfun_old (by omega) hp]; exact dfun_le (by omega) h0 p
    · by_cases hq : p = i
      · subst hq
        rw [dfun_new (by omega)]
        rw [chkF, if_pos h0] at h
        unfold er at h
        by_cases h1 : hnI lv vr (p : Int) (l.getD p zst) = 0
        · rw [if_pos h1] at h
          by_cases h2 : 8 < dg (l.getD p zst) (dfun (l.take p))
          · rw [if_pos h2] at h; exact absurd h (by decide)
          · omega
        · rw [if_neg h1] at h; exact absurd h h1
      · rw [dfun_out (by omega)]; omega
/-- What is wrong with an expression. -/
def chk (lv vr : Int) (l : List Stp) : Int :=
  if (0 ≤ lv ∧ lv ≤ 7) ∧ 0 ≤ vr then (if l.length = 0 then 3 else if 200 < l.length then 2 else chkF lv vr l l.length) else 1
theorem info_int1 : ∃ i, Try.prog.info? 3 = some i ∧ i.zero = some (.int .i64 0) ∧ i.size = 1 ∧ i.bytes = 8 := by
  have h : (Try.prog.info? 3).map (fun i => (i.zero, i.size, i.bytes)) = some (some (.int .i64 0), 1, 8) := by kernel_rfl
  obtain ⟨i, hi, he⟩ := Option.map_eq_some_iff.1 h
  simp only [Prod.mk.injEq] at he
  exact ⟨i, hi, he.1, he.2.1, he.2.2⟩
theorem own_rowN {w : World} {base : Nat} {T : TypeId} {g n : Nat} {xs : List Value} (h : w.ownsRow base T 1 (.slice (some ⟨g, 0, none⟩) n n) n xs) : ∃ f, w.rowIs g T n f := by
  rcases h.2 with ⟨h1, _⟩ | ⟨g', cap, cur, e, _, hg, _, _, hs, _⟩
  · injection h1 with h2; cases h2
  · injection e with e1 e2 e3
    obtain rfl : g = g' := by injection e1 with e4; injection e4
    subst e3
    exact ⟨fun i => cur.getD i undef, cur, hg, by omega, fun i hi => by
      show cur[i]? = some (cur.getD i undef)
      rw [Array.getD_eq_getD_getElem?, Array.getElem?_eq_getElem (by omega)]; rfl⟩
end Go.Proofs.Ytfhojakhoobnhaa
