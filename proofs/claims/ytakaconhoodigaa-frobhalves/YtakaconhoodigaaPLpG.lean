/- Rows of any list that lie in a block of their own: read and written in place. -/
import Derived.Test.YtakaconhoodigaaLpT
import Derived.Test.YtakaconhoodigaaPeelP
import Derived.Test.YtakaconhoodigaaPPeelT
namespace Go.Proofs.Ytakaconhoodigaa
open Go.RowKit

/-- A store into a row of one's own. -/
theorem own_set {w : World} {base size g n cap : Nat} {T : TypeId} {xs : List Value} (h : w.ownsRow base T size (.slice (some ⟨g, 0, none⟩) n cap) n xs) (i : Nat) (u : Value) :
    (w.setCell ⟨g, i, none⟩ u).ownsRow base T size (.slice (some ⟨g, 0, none⟩) n cap) n (xs.set i u) := by
  obtain ⟨h1, h2⟩ := h
  refine ⟨by rw [List.length_set]; exact h1, ?_⟩
  rcases h2 with ⟨h3, _⟩ | ⟨g', cap', cur, e, hb, hg, hn, hm, hs, ht⟩
  · injection h3 with h4; cases h4
  · injection e with e1 e2 e3
    obtain rfl : g = g' := by injection e1 with e4; injection e4
    subst e3
    refine .inr ⟨g, cap, cur.setIfInBounds i u, rfl, hb, ?_, hn, hm, by simpa using hs, ?_⟩
    · simp [World.setCell, Array.getElem?_modify, hg]
    · rw [Array.toList_setIfInBounds, List.take_set, ht]
theorem own_cell {w : World} {base size g n cap : Nat} {T : TypeId} {xs : List Value} (h : w.ownsRow base T size (.slice (some ⟨g, 0, none⟩) n cap) n xs) (i : Nat) (hi : i < n * size) :
    w.cell? ⟨g, i, none⟩ = xs[i]? ∧ w.frozen? ⟨g, i, none⟩ = false := by
  obtain ⟨h1, h2⟩ := h
  rcases h2 with ⟨h3, _⟩ | ⟨g', cap', cur, e, hb, hg, hn, hm, hs, ht⟩
  · injection h3 with h4; cases h4
  · injection e with e1 e2 e3
    obtain rfl : g = g' := by injection e1 with e4; injection e4
    subst ht
    have hlt : i < cur.size := by
      rw [hs]
      exact Nat.lt_of_lt_of_le hi (Nat.mul_le_mul_right _ hn)
    refine ⟨?_, by simp [World.frozen?, hg]⟩
    rw [List.getElem?_take_of_lt hi]
    simp [World.cell?, hg, hlt]
/-- The cells of rows. -/
def flatR (rs : List ((Nat × Nat) × (Nat × Nat))) : List Value := rs.flatMap fun r => [.int .u64 (r.1.1 : Nat), .int .u64 (r.1.2 : Nat), .int .u64 (r.2.1 : Nat), .int .u64 (r.2.2 : Nat)]
theorem flatR_len (rs : List ((Nat × Nat) × (Nat × Nat))) : (flatR rs).length = rs.length * 4 := by
  induction rs with
  | nil => rfl
  | cons r rs ih => simp only [flatR, List.flatMap_cons, List.length_append] at *; simp [ih]; omega
theorem flatR_at (rs : List ((Nat × Nat) × (Nat × Nat))) : ∀ m, m < rs.length → (flatR rs)[m * 4]? = some (.int .u64 ((rs.getD m ((0, 0), (0, 0))).1.1 : Nat)) ∧ (flatR rs)[m * 4 + 1]? = some (.int .u64 ((rs.getD m ((0, 0), (0, 0))).1.2 : Nat)) ∧ (flatR rs)[m * 4 + 2]? = some (.int .u64 ((rs.getD m ((0, 0), (0, 0))).2.1 : Nat)) ∧ (flatR rs)[m * 4 + 3]? = some (.int .u64 ((rs.getD m ((0, 0), (0, 0))).2.2 : Nat)) := by
  induction rs with
  | nil => intro m hm; simp at hm
  | cons r rs ih =>
    intro m hm
    cases m with
    | zero => simp [flatR]
    | succ m =>
      have := ih m (by simpa using hm)
      have e : ∀ k, (flatR (r :: rs))[(m + 1) * 4 + k]? = (flatR rs)[m * 4 + k]? := fun k => by
        simp only [flatR, List.flatMap_cons]
        rw [List.getElem?_append_right (by simp; omega)]
        congr 1
        simp; omega
      have e0 := e 0
      rw [Nat.add_zero, Nat.add_zero] at e0
      rw [e0, e, e, e]
      simpa using this
theorem flatR_set (rs : List ((Nat × Nat) × (Nat × Nat))) (r : (Nat × Nat) × (Nat × Nat)) : ∀ m, m < rs.length → ((((flatR rs).set (m * 4) (.int .u64 (r.1.1 : Nat))).set (m * 4 + 1) (.int .u64 (r.1.2 : Nat))).set (m * 4 + 2) (.int .u64 (r.2.1 : Nat))).set (m * 4 + 3) (.int .u64 (r.2.2 : Nat)) = flatR (rs.set m r) := by
  induction rs with
  | nil => intro m hm; simp at hm
  | cons x rs ih =>
    intro m hm
    cases m with
    | zero => simp [flatR]
    | succ m =>
      have := ih m (by simpa using hm)
      have e : ∀ (ys : List Value) k u, (([.int .u64 (x.1.1 : Nat), .int .u64 (x.1.2 : Nat), .int .u64 (x.2.1 : Nat), .int .u64 (x.2.2 : Nat)] : List Value) ++ ys).set ((m + 1) * 4 + k) u = [.int .u64 (x.1.1 : Nat), .int .u64 (x.1.2 : Nat), .int .u64 (x.2.1 : Nat), .int .u64 (x.2.2 : Nat)] ++ ys.set (m * 4 + k) u := fun ys k u => by
        rw [List.set_append_right _ _ (by simp; omega)]
        congr 2
        simp; omega
      have e0 := fun ys u => e ys 0 u
      simp only [Nat.add_zero] at e0
      simp only [flatR, List.flatMap_cons, List.set_cons_succ] at this ⊢
      rw [e0, e, e, e, this]
/-- Rows of one's own are rows in memory. -/
theorem own_rrow {w : World} {base g cap : Nat} {rs : List ((Nat × Nat) × (Nat × Nat))} (h : w.ownsRow base 95 4 (.slice (some ⟨g, 0, none⟩) rs.length cap) rs.length (flatR rs)) : RRow w (some ⟨g, 0, none⟩) rs := ⟨fun i hi => by
  have a := flatR_at rs i hi
  have c0 := (own_cell h (i * 4) (by omega)).1
  have c1 := (own_cell h (i * 4 + 1) (by omega)).1
  have c2 := (own_cell h (i * 4 + 2) (by omega)).1
  have c3 := (own_cell h (i * 4 + 3) (by omega)).1
  rw [a.1] at c0
  rw [a.2.1] at c1
  rw [a.2.2.1] at c2
  rw [a.2.2.2] at c3
  exact ⟨g, 0, rfl, cell_lt c0, by rw [Nat.zero_add]; exact c0, by rw [Nat.zero_add]; exact c1, by rw [Nat.zero_add]; exact c2, by rw [Nat.zero_add]; exact c3⟩⟩
end Go.Proofs.Ytakaconhoodigaa

/- Contracts of span's add where there are no rows, over the seat's translation. -/
namespace Go.Proofs.Ytakaconhoodigaa
open Go.RowKit

theorem info_srow : ∃ i, Try.prog.info? 95 = some i ∧ i.zero = some (.agg #[.int .u64 0, .int .u64 0, .int .u64 0, .int .u64 0]) ∧ i.size = 4 ∧ i.bytes = 32 := by
  have h : (Try.prog.info? 95).map (fun i => (i.zero, i.size, i.bytes)) = some (some (.agg #[.int .u64 0, .int .u64 0, .int .u64 0, .int .u64 0]), 4, 32) := by kernel_rfl
  obtain ⟨i, hi, he⟩ := Option.map_eq_some_iff.1 h
  simp only [Prod.mk.injEq] at he
  exact ⟨i, hi, he.1, he.2.1, he.2.2⟩
set_option maxHeartbeats 8000000 in
set_option maxRecDepth 100000 in
theorem add_none (B sh sl oh ol : Nat) (L : Int) (v : Value) (W : World) (hB : B < W.heap.size) (c0 : W.cell? ⟨B, 0, none⟩ = some (.slice none 0 0)) (f0 : W.frozen? ⟨B, 0, none⟩ = false) (c1 : W.cell? ⟨B, 1, none⟩ = some v) (f1 : W.frozen? ⟨B, 1, none⟩ = false)
    (HL : Ret 65 #[.agg #[.int .u64 (sh : Int), .int .u64 (sl : Int)]] (.int .i64 L)) :
    Calls Try.prog 64 #[.pointer (some ⟨B, 0, none⟩), .agg #[.int .u64 (sh : Int), .int .u64 (sl : Int), .int .u64 (oh : Int), .int .u64 (ol : Int)]] W fun e w' => ∃ a c, e = .returned (.tuple #[]) ∧ w'.cell? ⟨B, 0, none⟩ = some (.slice a 1 c) ∧ w'.cell? ⟨B, 1, none⟩ = some v ∧ w'.frozen? ⟨B, 1, none⟩ = false ∧ Below B W w' := by
  have hne : ¬ W.heap.size = B ∧ ¬ B = W.heap.size := by omega
  have HK : Hid (W.cell? ⟨B, 0, none⟩ = some (.slice none 0 0) ∧ W.frozen? ⟨B, 0, none⟩ = false ∧ W.cell? ⟨B, 1, none⟩ = some v ∧ W.frozen? ⟨B, 1, none⟩ = false) := ⟨c0, f0, c1, f1⟩
  obtain ⟨i0, hi, hz0, hz1, hz2⟩ := info_srow
  have HN : Hid (Try.prog.info? 95 = some i0 ∧ i0.zero = some (.agg #[.int .u64 0, .int .u64 0, .int .u64 0, .int .u64 0]) ∧ i0.size = 4 ∧ i0.bytes = 32) := ⟨hi, hz0, hz1, hz2⟩
  clear c0 f0 c1 f1 hi hz0 hz1 hz2
  go_enter Try.func64, Try.ntmps64
  go_wp2_with fail
  refine (HL.go _).mono ?_
  rintro e w1 ⟨rfl, hb1⟩
  have D1 : Below W.heap.size W w1 := ((Below.refl _ _).alloc (Nat.le_refl _) _).trans (hb1.mono (by simp <;> omega))
  have r0 : w1.cell? ⟨W.heap.size, 0, none⟩ = some (.int .u64 (sh : Int)) := keepc hb1 (by simp [go_sem])
  have r1 : w1.cell? ⟨W.heap.size, 1, none⟩ = some (.int .u64 (sl : Int)) := keepc hb1 (by simp [go_sem])
  have r2 : w1.cell? ⟨W.heap.size, 2, none⟩ = some (.int .u64 (oh : Int)) := keepc hb1 (by simp [go_sem])
  have r3 : w1.cell? ⟨W.heap.size, 3, none⟩ = some (.int .u64 (ol : Int)) := keepc hb1 (by simp [go_sem])
  have e0 : w1.cell? ⟨B, 0, none⟩ = some (.slice none 0 0) := keepc D1 HK.out.1
  have hw1 : W.heap.size < w1.heap.size := cell_lt r0
  clear hb1
  go_wp2_with fail
  go_rounds 1
  go_upto_region 9 with fail
  refine wp_region_noPanic ?_
  refine wp_region_peel (S := fun w => w.cell? ⟨B, 0, none⟩ = some (.slice none 0 0) ∧ w.cell? ⟨W.heap.size, 0, none⟩ = some (.int .u64 (sh : Int)) ∧ w.cell? ⟨W.heap.size, 1, none⟩ = some (.int .u64 (sl : Int)) ∧ w.cell? ⟨W.heap.size, 2, none⟩ = some (.int .u64 (oh : Int)) ∧ w.cell? ⟨W.heap.size, 3, none⟩ = some (.int .u64 (ol : Int))) 10 (by kernel_rfl) rfl (by kernel_rfl) ?_ (fun hHeld => ?_)
  · exact ⟨e0, r0, r1, r2, r3⟩
  refine wpAnyH_take (i := 0) (oi := _) (v := ?_) rfl (by kernel_rfl) (by kernel_rfl) (by kernel_rfl) (fun _ _ _ h => h) (Or.inl ⟨by rfl, ?_⟩) (by assumption) ?_
  rotate_left
  · ((intro w hSw; (try dsimp only at hSw); go_simp) <;> (try with_reducible rfl))
  try simp only [Act.put]
  refine wpAnyH_take (i := 1) (oi := _) (v := ?_) rfl (by kernel_rfl) (by kernel_rfl) (by kernel_rfl) (fun _ _ _ h => h) (Or.inl ⟨by rfl, ?_⟩) (by assumption) ?_
  rotate_left
  · ((intro w hSw; (try dsimp only at hSw); go_simp) <;> (try with_reducible rfl))
  try simp only [Act.put]
  refine wpAnyH_take (i := 2) (oi := _) (v := ?_) rfl (by kernel_rfl) (by kernel_rfl) (by kernel_rfl) (fun _ _ _ h => h) (Or.inl ⟨by rfl, ?_⟩) (by assumption) ?_
  rotate_left
  · ((intro w hSw; (try dsimp only at hSw); go_simp) <;> (try with_reducible rfl))
  try simp only [Act.put]
  refine wpAnyH_take (i := 3) (oi := _) (v := ?_) rfl (by kernel_rfl) (by kernel_rfl) (by kernel_rfl) (fun _ _ _ h => h) (Or.inl ⟨by rfl, ?_⟩) (by assumption) ?_
  rotate_left
  · ((intro w hSw; (try dsimp only at hSw); go_simp) <;> (try with_reducible rfl))
  try simp only [Act.put]
  refine wpAnyH_take (i := 4) (oi := _) (v := ?_) rfl (by kernel_rfl) (by kernel_rfl) (by kernel_rfl) (fun _ _ _ h => h) (Or.inl ⟨by rfl, ?_⟩) (by assumption) ?_
  rotate_left
  · ((intro w hSw; (try dsimp only at hSw); go_simp) <;> (try with_reducible rfl))
  try simp only [Act.put]
  refine wpAnyH_take (i := 5) (oi := _) (v := ?_) rfl (by kernel_rfl) (by kernel_rfl) (by kernel_rfl) (fun _ _ _ h => h) (Or.inl ⟨by rfl, ?_⟩) (by assumption) ?_
  rotate_left
  · ((intro w hSw; (try dsimp only at hSw); go_simp) <;> (try with_reducible rfl))
  try simp only [Act.put]
  refine wpAnyH_ready (rs := [6]) (by kernel_rfl) (by simp) ?_
  refine AllReadyH.cons (o := _) rfl (fun KK hKK => ?_) AllReadyH.nil
  go_simp
  refine hKK.out _ _ ?_ (fun hHeld => ?_)
  · go_keep
  clear hKK KK
  try simp only [Act.put]
  refine wpAnyH_ready (rs := [7]) (by kernel_rfl) (by simp) ?_
  refine AllReadyH.cons (o := _) rfl (fun KK hKK => ?_) AllReadyH.nil
  simp only [Array.getElem_pop, List.getElem_toArray, List.getElem_cons_succ, List.getElem_cons_zero]
  rw [if_pos (by rfl)]
  refine wp_append_own _ _ _ 79 rfl (W.heap.size + 1) 95 i0 (.agg #[.int .u64 0, .int .u64 0, .int .u64 0, .int .u64 0]) 4 32 Try.underlying79 HN.out.1 HN.out.2.1 HN.out.2.2.1 HN.out.2.2.2 rfl (by decide) (.slice none 0 0) 0 [] rfl (World.ownsRow_nil _ _ _ _) ⟨w1.heap.size, 0, none⟩ 1 1 [.int .u64 (sh : Int), .int .u64 (sl : Int), .int .u64 (oh : Int), .int .u64 (ol : Int)] rfl rfl ?_ ?_ (by decide) (by decide) ?_ ?_
  · exact fun p u hu => by rcases p with _ | _ | _ | _ | p <;> simp at hu <;> subst hu <;> simp [go_sem]
  · intro u hu; simp at hu; rcases hu with rfl | rfl | rfl | rfl <;> rfl
  · simp; omega
  intro v' w' hown hgr _
  have BB : Below w1.heap.size w1 w' := ((Below.refl _ _).drew.alloc (Nat.le_refl _) _).grown hgr (by simp) (fun k hk => by simp [Value.ownBlock] at hk)
  obtain ⟨a2, c2, rfl⟩ : ∃ a c, v' = .slice a 1 c := by
    rcases hown.2 with ⟨_, h0⟩ | ⟨g, cap, cur, rfl, _⟩
    · omega
    · exact ⟨_, _, rfl⟩
  refine hKK.out _ _ ?_ (fun hHeld => ?_)
  · exact ⟨keepc BB e0, keepc BB r0, keepc BB r1, keepc BB r2, keepc BB r3⟩
  clear hKK KK
  try simp only [Act.put]
  refine wpAnyH_take (i := 8) (oi := _) (v := ?_) rfl (by kernel_rfl) (by kernel_rfl) (by kernel_rfl) (fun _ _ _ h => h) (Or.inl ⟨by rfl, ?_⟩) (by assumption) ?_
  rotate_left
  · ((intro w hSw; (try dsimp only at hSw); go_simp) <;> (try with_reducible rfl))
  try simp only [Act.put]
  refine wpAnyH_take (i := 9) (oi := _) (v := ?_) rfl (by kernel_rfl) (by kernel_rfl) (by kernel_rfl) (fun _ _ _ h => h) (Or.inl ⟨by rfl, ?_⟩) (by assumption) ?_
  rotate_left
  · ((intro w hSw; (try dsimp only at hSw); go_simp) <;> (try with_reducible rfl))
  try simp only [Act.put]
  refine wpAnyH_done (by kernel_rfl) ?_ _
  refine peel_last rfl (fun KK hKK => ?_)
  have BW : Below W.heap.size W w' := D1.trans (BB.mono D1.size)
  have e0' := keepc BW HK.out.1
  have g0' := keepf BW HK.out.1 HK.out.2.1
  have e1' := keepc BW HK.out.2.2.1
  have g1' := keepf BW HK.out.2.2.1 HK.out.2.2.2
  have F : Hid ((w'.setCell ⟨B, 0, none⟩ (.slice a2 1 c2)).cell? ⟨B, 0, none⟩ = some (.slice a2 1 c2) ∧ (w'.setCell ⟨B, 0, none⟩ (.slice a2 1 c2)).cell? ⟨B, 1, none⟩ = some v ∧ (w'.setCell ⟨B, 0, none⟩ (.slice a2 1 c2)).frozen? ⟨B, 1, none⟩ = false ∧ Below B W (w'.setCell ⟨B, 0, none⟩ (.slice a2 1 c2))) := ⟨by simp [go_sem, e0'], by simp [go_sem, e1'], by simp [go_sem, g1'], (BW.mono (Nat.le_of_lt hB)).setCell (Nat.le_refl _) _⟩
  clear hHeld r0 r1 r2 r3 e0 hown hgr BB BW D1 e1' g1'
  go_simp
  refine hKK _ _ ?_
  refine NoPanic.normal ?_
  clear hKK KK e0' g0'
  generalize w'.setCell ⟨B, 0, none⟩ (.slice a2 1 c2) = w9 at *
  go_wp2
  go_end0
  exact ⟨rfl, ⟨_, _, F.out.1⟩, F.out.2⟩
end Go.Proofs.Ytakaconhoodigaa
