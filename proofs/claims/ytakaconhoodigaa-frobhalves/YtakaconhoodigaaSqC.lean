/- The contract of span's add over any rows, over the seat's translation. -/
import Derived.Test.YtakaconhoodigaaSqB
namespace Go.Proofs.Ytakaconhoodigaa
open Go.RowKit
open Sq

set_option maxHeartbeats 8000000 in
set_option maxRecDepth 100000 in
theorem sadd_none (B sh sl oh ol : Nat) (L : Int) (v : Value) (W : World) (hB : B < W.heap.size) (c0 : W.cell? ⟨B, 0, none⟩ = some (.slice none 0 0)) (f0 : W.frozen? ⟨B, 0, none⟩ = false) (c1 : W.cell? ⟨B, 1, none⟩ = some v) (f1 : W.frozen? ⟨B, 1, none⟩ = false)
    (HL : Ret 65 #[.agg #[.int .u64 (sh : Int), .int .u64 (sl : Int)]] (.int .i64 L)) :
    Calls Try.prog 64 #[.pointer (some ⟨B, 0, none⟩), .agg #[.int .u64 (sh : Int), .int .u64 (sl : Int), .int .u64 (oh : Int), .int .u64 (ol : Int)]] W fun e w' => ∃ v', e = .returned (.tuple #[]) ∧ w'.cell? ⟨B, 0, none⟩ = some v' ∧ w'.frozen? ⟨B, 0, none⟩ = false ∧ w'.cell? ⟨B, 1, none⟩ = some v ∧ w'.frozen? ⟨B, 1, none⟩ = false ∧ w'.ownsRow (B + 1) 95 4 v' 1 (flatR [((sh, sl), (oh, ol))]) ∧ (∃ g', v'.ownBlock = some g' ∧ W.heap.size ≤ g') ∧ Below B W w' ∧ ∀ k, k < W.heap.size → k ≠ B → w'.heap[k]? = W.heap[k]? := by
  have hne : ¬ W.heap.size = B ∧ ¬ B = W.heap.size := by omega
  have HK : Hid (W.cell? ⟨B, 0, none⟩ = some (.slice none 0 0) ∧ W.frozen? ⟨B, 0, none⟩ = false ∧ W.cell? ⟨B, 1, none⟩ = some v ∧ W.frozen? ⟨B, 1, none⟩ = false) := ⟨c0, f0, c1, f1⟩
  obtain ⟨i0, hi, hz0, hz1, hz2⟩ := info_srow
  have HN : Hid (Try.prog.info? 95 = some i0 ∧ i0.zero = some (.agg #[.int .u64 0, .int .u64 0, .int .u64 0, .int .u64 0]) ∧ i0.size = 4 ∧ i0.bytes = 32) := ⟨hi, hz0, hz1, hz2⟩
  clear c0 f0 c1 f1 hi hz0 hz1 hz2
  go_enter Try.func64, Try.ntmps64
  go_wp2_with fail
  refine (HL.go _).mono ?_
  rintro e w1 ⟨rfl, hb1⟩
  have D1 : Below W.heap.size W w1 := ((Below.refl _ _).alloc (Nat.le_refl _) _).trans (hb1.mono (by simp <;> omega))
  have r0 : w1.cell? ⟨W.heap.size, 0, none⟩ = some (.int .u64 (sh : Int)) := keepc hb1 (by simp [go_sem])
  have r1 : w1.cell? ⟨W.heap.size, 1, none⟩ = some (.int .u64 (sl : Int)) := keepc hb1 (by simp [go_sem])
  have r2 : w1.cell? ⟨W.heap.size, 2, none⟩ = some (.int .u64 (oh : Int)) := keepc hb1 (by simp [go_sem])
  have r3 : w1.cell? ⟨W.heap.size, 3, none⟩ = some (.int .u64 (ol : Int)) := keepc hb1 (by simp [go_sem])
  have e0 : w1.cell? ⟨B, 0, none⟩ = some (.slice none 0 0) := keepc D1 HK.out.1
  have hw1 : W.heap.size < w1.heap.size := cell_lt r0
  clear hb1
  go_wp2_with fail
  go_rounds 1
  go_upto_region 9 with fail
  refine wp_region_noPanic ?_
  refine wp_region_peel (S := fun w => w.cell? ⟨B, 0, none⟩ = some (.slice none 0 0) ∧ w.cell? ⟨W.heap.size, 0, none⟩ = some (.int .u64 (sh : Int)) ∧ w.cell? ⟨W.heap.size, 1, none⟩ = some (.int .u64 (sl : Int)) ∧ w.cell? ⟨W.heap.size, 2, none⟩ = some (.int .u64 (oh : Int)) ∧ w.cell? ⟨W.heap.size, 3, none⟩ = some (.int .u64 (ol : Int))) 10 (by kernel_rfl) rfl (by kernel_rfl) ?_ (fun hHeld => ?_)
  · exact ⟨e0, r0, r1, r2, r3⟩
  refine wpAnyH_take (i := 0) (oi := _) (v := ?_) rfl (by kernel_rfl) (by kernel_rfl) (by kernel_rfl) (fun _ _ _ h => h) (Or.inl ⟨by rfl, ?_⟩) (by assumption) ?_
  rotate_left
  · ((intro w hSw; (try dsimp only at hSw); go_simp) <;> (try with_reducible rfl))
  try simp only [Act.put]
  refine wpAnyH_take (i := 1) (oi := _) (v := ?_) rfl (by kernel_rfl) (by kernel_rfl) (by kernel_rfl) (fun _ _ _ h => h) (Or.inl ⟨by rfl, ?_⟩) (by assumption) ?_
  rotate_left
  · ((intro w hSw; (try dsimp only at hSw); go_simp) <;> (try with_reducible rfl))
  try simp only [Act.put]
  refine wpAnyH_take (i := 2) (oi := _) (v := ?_) rfl (by kernel_rfl) (by kernel_rfl) (by kernel_rfl) (fun _ _ _ h => h) (Or.inl ⟨by rfl, ?_⟩) (by assumption) ?_
  rotate_left
  · ((intro w hSw; (try dsimp only at hSw); go_simp) <;> (try with_reducible rfl))
  try simp only [Act.put]
  refine wpAnyH_take (i := 3) (oi := _) (v := ?_) rfl (by kernel_rfl) (by kernel_rfl) (by kernel_rfl) (fun _ _ _ h => h) (Or.inl ⟨by rfl, ?_⟩) (by assumption) ?_
  rotate_left
  · ((intro w hSw; (try dsimp only at hSw); go_simp) <;> (try with_reducible rfl))
  try simp only [Act.put]
  refine wpAnyH_take (i := 4) (oi := _) (v := ?_) rfl (by kernel_rfl) (by kernel_rfl) (by kernel_rfl) (fun _ _ _ h => h) (Or.inl ⟨by rfl, ?_⟩) (by assumption) ?_
  rotate_left
  · ((intro w hSw; (try dsimp only at hSw); go_simp) <;> (try with_reducible rfl))
  try simp only [Act.put]
  refine wpAnyH_take (i := 5) (oi := _) (v := ?_) rfl (by kernel_rfl) (by kernel_rfl) (by kernel_rfl) (fun _ _ _ h => h) (Or.inl ⟨by rfl, ?_⟩) (by assumption) ?_
  rotate_left
  · ((intro w hSw; (try dsimp only at hSw); go_simp) <;> (try with_reducible rfl))
  try simp only [Act.put]
  refine wpAnyH_ready (rs := [6]) (by kernel_rfl) (by simp) ?_
  refine AllReadyH.cons (o := _) rfl (fun KK hKK => ?_) AllReadyH.nil
  go_simp
  refine hKK.out _ _ ?_ (fun hHeld => ?_)
  · go_keep
  clear hKK KK
  try simp only [Act.put]
  refine wpAnyH_ready (rs := [7]) (by kernel_rfl) (by simp) ?_
  refine AllReadyH.cons (o := _) rfl (fun KK hKK => ?_) AllReadyH.nil
  simp only [Array.getElem_pop, List.getElem_toArray, List.getElem_cons_succ, List.getElem_cons_zero]
  rw [if_pos (by rfl)]
  refine wp_append_own _ _ _ 79 rfl (W.heap.size + 1) 95 i0 (.agg #[.int .u64 0, .int .u64 0, .int .u64 0, .int .u64 0]) 4 32 Try.underlying79 HN.out.1 HN.out.2.1 HN.out.2.2.1 HN.out.2.2.2 rfl (by decide) (.slice none 0 0) 0 [] rfl (World.ownsRow_nil _ _ _ _) ⟨w1.heap.size, 0, none⟩ 1 1 [.int .u64 (sh : Int), .int .u64 (sl : Int), .int .u64 (oh : Int), .int .u64 (ol : Int)] rfl rfl ?_ ?_ (by decide) (by decide) ?_ ?_
  · exact fun p u hu => by rcases p with _ | _ | _ | _ | p <;> simp at hu <;> subst hu <;> simp [go_sem]
  · intro u hu; simp at hu; rcases hu with rfl | rfl | rfl | rfl <;> rfl
  · simp; omega
  intro v' w' hown hgr _
  have BB : Below w1.heap.size w1 w' := ((Below.refl _ _).drew.alloc (Nat.le_refl _) _).grown hgr (by simp) (fun k hk => by simp [Value.ownBlock] at hk)
  obtain ⟨a2, c2, rfl, HG⟩ : ∃ a c, v' = .slice a 1 c ∧ ∃ g', v'.ownBlock = some g' ∧ W.heap.size ≤ g' := by
    rcases hown.2 with ⟨_, h0⟩ | ⟨g, cap, cur, rfl, hbb, _⟩
    · omega
    · exact ⟨_, _, rfl, g, rfl, by omega⟩
  refine hKK.out _ _ ?_ (fun hHeld => ?_)
  · exact ⟨keepc BB e0, keepc BB r0, keepc BB r1, keepc BB r2, keepc BB r3⟩
  clear hKK KK
  try simp only [Act.put]
  refine wpAnyH_take (i := 8) (oi := _) (v := ?_) rfl (by kernel_rfl) (by kernel_rfl) (by kernel_rfl) (fun _ _ _ h => h) (Or.inl ⟨by rfl, ?_⟩) (by assumption) ?_
  rotate_left
  · ((intro w hSw; (try dsimp only at hSw); go_simp) <;> (try with_reducible rfl))
  try simp only [Act.put]
  refine wpAnyH_take (i := 9) (oi := _) (v := ?_) rfl (by kernel_rfl) (by kernel_rfl) (by kernel_rfl) (fun _ _ _ h => h) (Or.inl ⟨by rfl, ?_⟩) (by assumption) ?_
  rotate_left
  · ((intro w hSw; (try dsimp only at hSw); go_simp) <;> (try with_reducible rfl))
  try simp only [Act.put]
  refine wpAnyH_done (by kernel_rfl) ?_ _
  refine peel_last rfl (fun KK hKK => ?_)
  have BW : Below W.heap.size W w' := D1.trans (BB.mono D1.size)
  have e0' := keepc BW HK.out.1
  have g0' := keepf BW HK.out.1 HK.out.2.1
  have e1' := keepc BW HK.out.2.2.1
  have g1' := keepf BW HK.out.2.2.1 HK.out.2.2.2
  have y0 : w'.frozen? ⟨B, 0, none⟩ = false := keepf BW HK.out.1 HK.out.2.1
  have hown2 := own_base hown (show B + 1 ≤ W.heap.size + 1 by omega)
  have F : Hid ((w'.setCell ⟨B, 0, none⟩ (.slice a2 1 c2)).cell? ⟨B, 0, none⟩ = some (.slice a2 1 c2) ∧ (w'.setCell ⟨B, 0, none⟩ (.slice a2 1 c2)).frozen? ⟨B, 0, none⟩ = false ∧ (w'.setCell ⟨B, 0, none⟩ (.slice a2 1 c2)).cell? ⟨B, 1, none⟩ = some v ∧ (w'.setCell ⟨B, 0, none⟩ (.slice a2 1 c2)).frozen? ⟨B, 1, none⟩ = false ∧ (w'.setCell ⟨B, 0, none⟩ (.slice a2 1 c2)).ownsRow (B + 1) 95 4 (.slice a2 1 c2) 1 (flatR [((sh, sl), (oh, ol))]) ∧ (∃ g', (Value.slice a2 1 c2).ownBlock = some g' ∧ W.heap.size ≤ g') ∧ Below B W (w'.setCell ⟨B, 0, none⟩ (.slice a2 1 c2)) ∧ ∀ k, k < W.heap.size → k ≠ B → (w'.setCell ⟨B, 0, none⟩ (.slice a2 1 c2)).heap[k]? = W.heap[k]?) := ⟨by simp [go_sem, e0'], by simp [go_sem, y0], by simp [go_sem, e1'], by simp [go_sem, g1'], ownsRow_setCell_below hown2 (by show B < B + 1; omega) _, HG, (BW.mono (Nat.le_of_lt hB)).setCell (Nat.le_refl _) _, fun k h1 h2 => (Below.heap_setCell _ _ _ _ h2).trans (BW.block k h1)⟩
  clear hHeld r0 r1 r2 r3 e0 hown hown2 hgr BB BW D1 e1' g1' y0 HG
  go_simp
  refine hKK _ _ ?_
  refine NoPanic.normal ?_
  clear hKK KK e0' g0'
  generalize w'.setCell ⟨B, 0, none⟩ (.slice a2 1 c2) = w9 at *
  go_wp2
  go_end0
  exact ⟨rfl, _, F.out⟩

/-- What the rows are while elements come: their two slices, and the struct that holds these. -/
theorem sadd_any (B : Nat) (v0 v : Value) (rs : List Row) (r : Row) (W : World) (hB : B < W.heap.size) (c0 : W.cell? ⟨B, 0, none⟩ = some v0) (f0 : W.frozen? ⟨B, 0, none⟩ = false) (c1 : W.cell? ⟨B, 1, none⟩ = some v) (f1 : W.frozen? ⟨B, 1, none⟩ = false)
    (own : W.ownsRow (B + 1) 95 4 v0 rs.length (flatR rs)) (hn : rs.length ≤ 1000) (ht : ltR rs) (h1 : Cb.lt2 r.1) (h2 : Cb.lt2 r.2) (h0 : r.1 ≠ (0, 0)) :
    Calls Try.prog 64 #[.pointer (some ⟨B, 0, none⟩), .agg #[.int .u64 (r.1.1 : Int), .int .u64 (r.1.2 : Int), .int .u64 (r.2.1 : Int), .int .u64 (r.2.2 : Int)]] W fun e w' => ∃ v', e = .returned (.tuple #[]) ∧ w'.cell? ⟨B, 0, none⟩ = some v' ∧ w'.frozen? ⟨B, 0, none⟩ = false ∧ w'.cell? ⟨B, 1, none⟩ = some v ∧ w'.frozen? ⟨B, 1, none⟩ = false ∧ w'.ownsRow (B + 1) 95 4 v' (more rs r).length (flatR (more rs r)) ∧ Below B W w' ∧ (∀ k, k < W.heap.size → k ≠ B → v0.ownBlock ≠ some k → w'.heap[k]? = W.heap[k]?) := by
  have HL : Ret 65 #[.agg #[.int .u64 (r.1.1 : Int), .int .u64 (r.1.2 : Int)]] (.int .i64 ((ld r.1 + 1 : Nat) : Int)) := by
    have := long_any r.1 h1.1 h1.2
    rwa [lng_ld h1 h0] at this
  rcases own.2 with ⟨hv, hz⟩ | ⟨g, cap, cur, hv, hb, hg, hnc, hm, hsz, htk⟩
  · have e : rs = [] := List.eq_nil_of_length_eq_zero hz
    subst e
    rw [hv] at c0
    refine (sadd_none B r.1.1 r.1.2 r.2.1 r.2.2 _ v W hB c0 f0 c1 f1 HL).mono ?_
    rintro e w' ⟨v', q1, q2, q3, q4, q5, q6, _, q8, q9⟩
    exact ⟨v', q1, q2, q3, q4, q5, q6, q8, fun k k1 k2 _ => q9 k k1 k2⟩
  · subst hv
    have hgW : g < W.heap.size := (own.lt g rfl).2
    have hA : Ast W (W.alloc (Obj.cells #[.int .u64 (r.1.1 : Int), .int .u64 (r.1.2 : Int), .int .u64 (r.2.1 : Int), .int .u64 (r.2.2 : Int)] 95)) B g rs.length cap v rs r := by
      have BA : Below W.heap.size W (W.alloc (Obj.cells #[.int .u64 (r.1.1 : Int), .int .u64 (r.1.2 : Int), .int .u64 (r.2.1 : Int), .int .u64 (r.2.2 : Int)] 95)) := (Below.refl _ _).alloc (Nat.le_refl _) _
      exact ⟨keepc BA c0, keepf BA c0 f0, keepc BA c1, keepf BA c1 f1, rfl, own_below own BA, by simp [go_sem], by simp [go_sem], by simp [go_sem], by simp [go_sem], hgW, hB, BA.mono (Nat.le_of_lt hB), fun k k1 _ _ => BA.block k k1⟩
    refine (sadd_core B g rs.length cap v rs r (ld r.1) W (ld_lt h1 h0) hn hA HL (outs rs r (ld r.1)) (fun m => hasE (rs.getD m ((0, 0), (0, 0))).1 (ld r.1)) rfl (fun m hm => ?_) (fun m hm hbm => ?_) (fun m hm hbm => ?_)).mono ?_
    · have t := ht.at hm
      rw [outs_get rs r _ m hm]
      exact shas_any _ _ t.1.1 t.1.2 (ld_lt h1 h0)
    · show (outs rs r (ld r.1) m).set m _ = _
      have e : outv (ld r.1) r (rs.getD m ((0, 0), (0, 0))) = rs.getD m ((0, 0), (0, 0)) := if_neg (by rw [hbm]; decide)
      rw [e]
      refine List.ext_getElem? fun j => ?_
      rw [List.getElem?_set]
      split
      · rename_i e2; subst e2
        rw [outs_len, if_pos hm, outs_at rs r _ m m hm, if_neg (by omega)]
      · rfl
    · have t := ht.at hm
      refine ⟨outv (ld r.1) r (rs.getD m ((0, 0), (0, 0))), ?_, ?_, rfl⟩
      · rw [outs_get rs r _ m hm, show outv (ld r.1) r (rs.getD m ((0, 0), (0, 0))) = _ from if_pos hbm]
        exact fun W => add_any _ _ _ _ t.1.1 t.1.2 h1.1 h1.2 W
      · rw [outs_get rs r _ m hm, show outv (ld r.1) r (rs.getD m ((0, 0), (0, 0))) = _ from if_pos hbm]
        exact fun W => add_any _ _ _ _ t.2.1.1 t.2.1.2 h2.1 h2.2 W
    · rintro e w' ⟨v', q1, q2, q3, q4, q5, q6, _, q8, q9⟩
      rw [outs_all] at q6
      exact ⟨v', q1, q2, q3, q4, q5, by rw [more_len]; exact q6, q8, fun k k1 k2 k3 => q9 k k1 k2 fun e => k3 (by rw [e]; rfl)⟩
end Go.Proofs.Ytakaconhoodigaa
