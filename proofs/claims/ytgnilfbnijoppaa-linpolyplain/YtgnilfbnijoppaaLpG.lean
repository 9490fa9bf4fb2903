/- Contracts of span's add where there are no rows, over the seat's translation. -/
import Derived.Test.YtgnilfbnijoppaaLpD
import Derived.Test.YtgnilfbnijoppaaLpF
namespace Go.Proofs.Ytgnilfbnijoppaa
open Go.RowKit

theorem info_row : ∃ i, Try.prog.info? 88 = some i ∧ i.zero = some (.agg #[.int .u64 0, .int .u64 0, .int .u64 0, .int .u64 0]) ∧ i.size = 4 ∧ i.bytes = 32 := by
  have h : (Try.prog.info? 88).map (fun i => (i.zero, i.size, i.bytes)) = some (some (.agg #[.int .u64 0, .int .u64 0, .int .u64 0, .int .u64 0]), 4, 32) := by kernel_rfl
  obtain ⟨i, hi, he⟩ := Option.map_eq_some_iff.1 h
  simp only [Prod.mk.injEq] at he
  exact ⟨i, hi, he.1, he.2.1, he.2.2⟩
set_option maxHeartbeats 8000000 in
set_option maxRecDepth 100000 in
theorem add_none (B sh sl oh ol : Nat) (L : Int) (v : Value) (W : World) (hB : B < W.heap.size) (c0 : W.cell? ⟨B, 0, none⟩ = some (.slice none 0 0)) (f0 : W.frozen? ⟨B, 0, none⟩ = false) (c1 : W.cell? ⟨B, 1, none⟩ = some v) (f1 : W.frozen? ⟨B, 1, none⟩ = false)
    (HL : Ret 60 #[.agg #[.int .u64 (sh : Int), .int .u64 (sl : Int)]] (.int .i64 L)) :
    Calls Try.prog 58 #[.pointer (some ⟨B, 0, none⟩), .agg #[.int .u64 (sh : Int), .int .u64 (sl : Int), .int .u64 (oh : Int), .int .u64 (ol : Int)]] W fun e w' => ∃ a c, e = .returned (.tuple #[]) ∧ w'.cell? ⟨B, 0, none⟩ = some (.slice a 1 c) ∧ w'.cell? ⟨B, 1, none⟩ = some v ∧ w'.frozen? ⟨B, 1, none⟩ = false ∧ Below B W w' := by
  have hne : ¬ W.heap.size = B ∧ ¬ B = W.heap.size := by omega
  have HK : Hid (W.cell? ⟨B, 0, none⟩ = some (.slice none 0 0) ∧ W.frozen? ⟨B, 0, none⟩ = false ∧ W.cell? ⟨B, 1, none⟩ = some v ∧ W.frozen? ⟨B, 1, none⟩ = false) := ⟨c0, f0, c1, f1⟩
  obtain ⟨i0, hi, hz0, hz1, hz2⟩ := info_row
  have HN : Hid (Try.prog.info? 88 = some i0 ∧ i0.zero = some (.agg #[.int .u64 0, .int .u64 0, .int .u64 0, .int .u64 0]) ∧ i0.size = 4 ∧ i0.bytes = 32) := ⟨hi, hz0, hz1, hz2⟩
  clear c0 f0 c1 f1 hi hz0 hz1 hz2
  go_enter Try.func58, Try.ntmps58
  go_wp2_with fail
  refine (HL.go _).mono ?_
  rintro e w1 ⟨rfl, hb1⟩
  have D1 : Below W.heap.size W w1 := ((Below.refl _ _).alloc (Nat.le_refl _) _).trans (hb1.mono (by simp <;> omega))
  have r0 : w1.cell? ⟨W.heap.size, 0, none⟩ = some (.int .u64 (sh : Int)) := keepc hb1 (by simp [go_sem])
  have r1 : w1.cell? ⟨W.heap.size, 1, none⟩ = some (.int .u64 (sl : Int)) := keepc hb1 (by simp [go_sem])
  have r2 : w1.cell? ⟨W.heap.size, 2, none⟩ = some (.int .u64 (oh : Int)) := keepc hb1 (by simp [go_sem])
  have r3 : w1.cell? ⟨W.heap.size, 3, none⟩ = some (.int .u64 (ol : Int)) := keepc hb1 (by simp [go_sem])
  have e0 : w1.cell? ⟨B, 0, none⟩ = some (.slice none 0 0) := keepc D1 HK.out.1
  have hw1 : W.heap.size < w1.heap.size := cell_lt r0
  clear hb1
  go_wp2_with fail
  go_rounds 1
  go_upto_region 9 with fail
  refine wp_region_noPanic ?_
  refine wp_region_peel (S := fun w => w.cell? ⟨B, 0, none⟩ = some (.slice none 0 0) ∧ w.cell? ⟨W.heap.size, 0, none⟩ = some (.int .u64 (sh : Int)) ∧ w.cell? ⟨W.heap.size, 1, none⟩ = some (.int .u64 (sl : Int)) ∧ w.cell? ⟨W.heap.size, 2, none⟩ = some (.int .u64 (oh : Int)) ∧ w.cell? ⟨W.heap.size, 3, none⟩ = some (.int .u64 (ol : Int))) 10 (by kernel_rfl) rfl (by kernel_rfl) ?_ (fun hHeld => ?_)
  · exact ⟨e0, r0, r1, r2, r3⟩
  refine wpAnyH_take (i := 0) (oi := _) (v := ?_) rfl (by kernel_rfl) (by kernel_rfl) (by kernel_rfl) (fun _ _ _ h => h) (Or.inl ⟨by rfl, ?_⟩) (by assumption) ?_
  rotate_left
  · ((intro w hSw; (try dsimp only at hSw); go_simp) <;> (try with_reducible rfl))
  try simp only [Act.put]
  refine wpAnyH_take (i := 1) (oi := _) (v := ?_) rfl (by kernel_rfl) (by kernel_rfl) (by kernel_rfl) (fun _ _ _ h => h) (Or.inl ⟨by rfl, ?_⟩) (by assumption) ?_
  rotate_left
  · ((intro w hSw; (try dsimp only at hSw); go_simp) <;> (try with_reducible rfl))
  try simp only [Act.put]
  refine wpAnyH_take (i := 2) (oi := _) (v := ?_) rfl (by kernel_rfl) (by kernel_rfl) (by kernel_rfl) (fun _ _ _ h => h) (Or.inl ⟨by rfl, ?_⟩) (by assumption) ?_
  rotate_left
  · ((intro w hSw; (try dsimp only at hSw); go_simp) <;> (try with_reducible rfl))
  try simp only [Act.put]
  refine wpAnyH_take (i := 3) (oi := _) (v := ?_) rfl (by kernel_rfl) (by kernel_rfl) (by kernel_rfl) (fun _ _ _ h => h) (Or.inl ⟨by rfl, ?_⟩) (by assumption) ?_
  rotate_left
  · ((intro w hSw; (try dsimp only at hSw); go_simp) <;> (try with_reducible rfl))
  try simp only [Act.put]
  refine wpAnyH_take (i := 4) (oi := _) (v := ?_) rfl (by kernel_rfl) (by kernel_rfl) (by kernel_rfl) (fun _ _ _ h => h) (Or.inl ⟨by rfl, ?_⟩) (by assumption) ?_
  rotate_left
  · ((intro w hSw; (try dsimp only at hSw); go_simp) <;> (try with_reducible rfl))
  try simp only [Act.put]
  refine wpAnyH_take (i := 5) (oi := _) (v := ?_) rfl (by kernel_rfl) (by kernel_rfl) (by kernel_rfl) (fun _ _ _ h => h) (Or.inl ⟨by rfl, ?_⟩) (by assumption) ?_
  rotate_left
  · ((intro w hSw; (try dsimp only at hSw); go_simp) <;> (try with_reducible rfl))
  try simp only [Act.put]
  refine wpAnyH_ready (rs := [6]) (by kernel_rfl) (by simp) ?_
  refine AllReadyH.cons (o := _) rfl (fun KK hKK => ?_) AllReadyH.nil
  go_simp
  refine hKK.out _ _ ?_ (fun hHeld => ?_)
  · go_keep
  clear hKK KK
  try simp only [Act.put]
  refine wpAnyH_ready (rs := [7]) (by kernel_rfl) (by simp) ?_
  refine AllReadyH.cons (o := _) rfl (fun KK hKK => ?_) AllReadyH.nil
  simp only [Array.getElem_pop, List.getElem_toArray, List.getElem_cons_succ, List.getElem_cons_zero]
  rw [if_pos (by rfl)]
  refine wp_append_own _ _ _ 78 rfl (W.heap.size + 1) 88 i0 (.agg #[.int .u64 0, .int .u64 0, .int .u64 0, .int .u64 0]) 4 32 Try.underlying78 HN.out.1 HN.out.2.1 HN.out.2.2.1 HN.out.2.2.2 rfl (by decide) (.slice none 0 0) 0 [] rfl (World.ownsRow_nil _ _ _ _) ⟨w1.heap.size, 0, none⟩ 1 1 [.int .u64 (sh : Int), .int .u64 (sl : Int), .int .u64 (oh : Int), .int .u64 (ol : Int)] rfl rfl ?_ ?_ (by decide) (by decide) ?_ ?_
  · exact fun p u hu => by rcases p with _ | _ | _ | _ | p <;> simp at hu <;> subst hu <;> simp [go_sem]
  · intro u hu; simp at hu; rcases hu with rfl | rfl | rfl | rfl <;> rfl
  · simp; omega
  intro v' w' hown hgr _
  have BB : Below w1.heap.size w1 w' := ((Below.refl _ _).drew.alloc (Nat.le_refl _) _).grown hgr (by simp) (fun k hk => by simp [Value.ownBlock] at hk)
  obtain ⟨a2, c2, rfl⟩ : ∃ a c, v' = .slice a 1 c := by
    rcases hown.2 with ⟨_, h0⟩ | ⟨g, cap, cur, rfl, _⟩
    · omega
    · exact ⟨_, _, rfl⟩
  refine hKK.out _ _ ?_ (fun hHeld => ?_)
  · exact ⟨keepc BB e0, keepc BB r0, keepc BB r1, keepc BB r2, keepc BB r3⟩
  clear hKK KK
  try simp only [Act.put]
  refine wpAnyH_take (i := 8) (oi := _) (v := ?_) rfl (by kernel_rfl) (by kernel_rfl) (by kernel_rfl) (fun _ _ _ h => h) (Or.inl ⟨by rfl, ?_⟩) (by assumption) ?_
  rotate_left
  · ((intro w hSw; (try dsimp only at hSw); go_simp) <;> (try with_reducible rfl))
  try simp only [Act.put]
  refine wpAnyH_take (i := 9) (oi := _) (v := ?_) rfl (by kernel_rfl) (by kernel_rfl) (by kernel_rfl) (fun _ _ _ h => h) (Or.inl ⟨by rfl, ?_⟩) (by assumption) ?_
  rotate_left
  · ((intro w hSw; (try dsimp only at hSw); go_simp) <;> (try with_reducible rfl))
  try simp only [Act.put]
  refine wpAnyH_done (by kernel_rfl) ?_ _
  refine peel_last rfl (fun KK hKK => ?_)
  have BW : Below W.heap.size W w' := D1.trans (BB.mono D1.size)
  have e0' := keepc BW HK.out.1
  have g0' := keepf BW HK.out.1 HK.out.2.1
  have e1' := keepc BW HK.out.2.2.1
  have g1' := keepf BW HK.out.2.2.1 HK.out.2.2.2
  have F : Hid ((w'.setCell ⟨B, 0, none⟩ (.slice a2 1 c2)).cell? ⟨B, 0, none⟩ = some (.slice a2 1 c2) ∧ (w'.setCell ⟨B, 0, none⟩ (.slice a2 1 c2)).cell? ⟨B, 1, none⟩ = some v ∧ (w'.setCell ⟨B, 0, none⟩ (.slice a2 1 c2)).frozen? ⟨B, 1, none⟩ = false ∧ Below B W (w'.setCell ⟨B, 0, none⟩ (.slice a2 1 c2))) := ⟨by simp [go_sem, e0'], by simp [go_sem, e1'], by simp [go_sem, g1'], (BW.mono (Nat.le_of_lt hB)).setCell (Nat.le_refl _) _⟩
  clear hHeld r0 r1 r2 r3 e0 hown hgr BB BW D1 e1' g1'
  go_simp
  refine hKK _ _ ?_
  refine NoPanic.normal ?_
  clear hKK KK e0' g0'
  generalize w'.setCell ⟨B, 0, none⟩ (.slice a2 1 c2) = w9 at *
  go_wp2
  go_end0
  exact ⟨rfl, ⟨_, _, F.out.1⟩, F.out.2⟩
end Go.Proofs.Ytgnilfbnijoppaa
