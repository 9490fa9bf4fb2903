/- Contract of steeplelaw02.of over the seat's translation: elements cut down to a level. -/
import Derived.Test.YtdjndcgocmmmcaaOctOf
namespace Go.Proofs.Ytdjndcgocmmmcaa
open Go.RowKit

/-- The cells of elements, one behind the other. -/
def flat (es : List (Nat × Nat)) : List Value := es.flatMap fun e => [.int .u64 (e.1 : Int), .int .u64 (e.2 : Int)]
theorem flat_len (es : List (Nat × Nat)) : (flat es).length = es.length * 2 := by
  induction es with
  | nil => rfl
  | cons e l ih => simp [flat] at ih ⊢; omega
theorem flat_snoc (es : List (Nat × Nat)) (e : Nat × Nat) : flat (es ++ [e]) = flat es ++ [.int .u64 (e.1 : Int), .int .u64 (e.2 : Int)] := by simp [flat]
theorem take_sn (es : List (Nat × Nat)) (k : Nat) (h : k < es.length) : es.take (k + 1) = es.take k ++ [es.getD k (0, 0)] := by
  rw [List.take_succ_eq_append_getElem h]; simp [h]

theorem info_elem : ∃ i, Try.prog.info? 24 = some i ∧ i.zero = some (.agg #[.int .u64 0, .int .u64 0]) ∧ i.size = 2 ∧ i.bytes = 16 := by
  have h : (Try.prog.info? 24).map (fun i => (i.zero, i.size, i.bytes)) = some (some (.agg #[.int .u64 0, .int .u64 0]), 2, 16) := by kernel_rfl
  obtain ⟨i, hi, he⟩ := Option.map_eq_some_iff.1 h
  simp only [Prod.mk.injEq] at he
  exact ⟨i, hi, he.1, he.2.1, he.2.2⟩

theorem own_below {w w' : World} {base : Nat} {e : TypeId} {size : Nat} {v : Value} {n : Nat} {xs : List Value} (h : w.ownsRow base e size v n xs) (hb : Below w.heap.size w w') : w'.ownsRow base e size v n xs :=
  h.kept (row := none) ⟨hb.os, hb.tape, hb.output, hb.size, fun k hk _ => hb.block k hk⟩ (by cases v.ownBlock <;> simp)

set_option maxHeartbeats 1000000 in
set_option maxRecDepth 100000 in
theorem of0 (level : Int) (fk : (wrap64 (level.tmod 8 + 8)).tmod 8 = 0) (b off cap : Nat) (es : List (Nat × Nat)) (hn : es.length ≤ 10) (W : World) (hb : b < W.heap.size)
    (hc : ∀ i, i < es.length → W.cell? ⟨b, off + i * 2, none⟩ = some (.int .u64 ((es.getD i (0, 0)).1 : Nat)) ∧ W.cell? ⟨b, off + i * 2 + 1, none⟩ = some (.int .u64 ((es.getD i (0, 0)).2 : Nat)))
    (fs : List (Nat × Nat)) (hfl : fs.length = es.length) (hf : ∀ i, i < es.length → (fs.getD i (0, 0)).1 = 0 ∧ bits .and .u64 ((es.getD i (0, 0)).2 : Int) 1 = ((fs.getD i (0, 0)).2 : Int)) :
    Calls Try.prog 39 #[.int .i64 level, .slice (some ⟨b, off, none⟩) es.length cap] W fun e w' => ∃ v, e = .returned (.tuple #[.int .i64 0, v]) ∧ w'.ownsRow W.heap.size 24 2 v es.length (flat fs) ∧ Below W.heap.size W w' := by
  have HC : Hid (∀ i, i < es.length → W.cell? ⟨b, off + i * 2, none⟩ = some (.int .u64 ((es.getD i (0, 0)).1 : Nat)) ∧ W.cell? ⟨b, off + i * 2 + 1, none⟩ = some (.int .u64 ((es.getD i (0, 0)).2 : Nat))) := hc
  have HF : Hid (∀ i, i < es.length → (fs.getD i (0, 0)).1 = 0 ∧ bits .and .u64 ((es.getD i (0, 0)).2 : Int) 1 = ((fs.getD i (0, 0)).2 : Int)) := hf
  have HL : Hid (fs.length = es.length) := hfl
  clear hc hf hfl
  go_enter Try.func39, Try.ntmps39
  go_wp2_with fail
  go_loopw [7, 8] (fun v u wr => ∃ j : Nat, j ≤ es.length ∧ u = .int .i64 j ∧ wr.ownsRow W.heap.size 24 2 v j (flat (fs.take j)) ∧ Below W.heap.size W wr) (fun _ u _ => es.length - (intOf u).toNat)
  case atStart => exact ⟨0, Nat.zero_le _, rfl, ⟨by simp [flat], .inl ⟨rfl, rfl⟩⟩, Below.refl _ _⟩
  case round =>
    obtain ⟨j, hj, rfl, hown, hbw⟩ := hrel
    by_cases hlt : j < es.length
    · obtain ⟨c1, c0⟩ := HC.out j hlt
      have d1 : wr.cell? ⟨b, off + j * 2, none⟩ = some (.int .u64 ((es.getD j (0, 0)).1 : Nat)) := by rw [hbw.cell (p := ⟨b, off + j * 2, none⟩) hb]; exact c1
      have d0 : wr.cell? ⟨b, off + j * 2 + 1, none⟩ = some (.int .u64 ((es.getD j (0, 0)).2 : Nat)) := by rw [hbw.cell (p := ⟨b, off + j * 2 + 1, none⟩) hb]; exact c0
      have H : Hid (fs.take (j + 1) = fs.take j ++ [fs.getD j (0, 0)]) := take_sn fs j (by rw [HL.out]; exact hlt)
      obtain ⟨f1, f0⟩ := HF.out j hlt
      have F1 : Hid ((fs.getD j (0, 0)).1 = 0) := f1
      obtain ⟨i0, hi, hz0, hz1, hz2⟩ := info_elem
      have HI : Hid (Try.prog.info? 24 = some i0 ∧ i0.zero = some (.agg #[.int .u64 0, .int .u64 0]) ∧ i0.size = 2 ∧ i0.bytes = 16) := ⟨hi, hz0, hz1, hz2⟩
      have HO : Hid (wr.ownsRow W.heap.size 24 2 u7 j (flat (fs.take j))) := hown
      have HB : Hid (Below W.heap.size W wr) := hbw
      clear hown c1 c0 hi hz0 hz1 hz2 hbw f1
      generalize es.getD j (0, 0) = x at *
      generalize fs.getD j (0, 0) = y at *
      go_wp2_with (at_builtin; refine wpList_append_own _ rfl _ _ 53 rfl W.heap.size 24 i0 (.agg #[.int .u64 0, .int .u64 0]) 2 16 Try.underlying53 HI.out.1 HI.out.2.1 HI.out.2.2.1 HI.out.2.2.2 rfl (by decide) _ _ _ rfl (own_below HO.out (by go_grown)) ⟨wr.heap.size + 1, 0, none⟩ 1 1 [.int .u64 0, .int .u64 (y.2 : Int)] rfl rfl (fun p u hu => by rcases p with _ | _ | p <;> simp at hu <;> subst hu <;> simp [go_sem]) (by intro u hu; simp at hu; rcases hu with rfl | rfl <;> rfl) (by simp only [maxLen]; omega) (by omega) (by have := HB.out.size; simp; omega) ?_; intro v' w' hown' hgr _)
      refine ⟨⟨j + 1, hlt, by simp, ?_, ?_⟩, by simp [intOf]; omega⟩
      · rw [H.out, flat_snoc, F1.out]; exact hown'
      · exact ((HB.out.alloc HB.out.size _).alloc (by have := HB.out.size; simp; omega) _).grown hgr (by have := HB.out.size; simp; omega) fun k hk => (HO.out.lt k hk).1
    · have hje : j = es.length := by omega
      subst hje
      have HO : Hid (wr.ownsRow W.heap.size 24 2 u7 es.length (flat (fs.take es.length))) := hown
      have HB : Hid (Below W.heap.size W wr) := hbw
      clear hown hbw
      go_wp2
      refine bodyPost_ret (v := .tuple #[.int .i64 0, u7]) (by simp [results, Try.results39, go_sem]) rfl ⟨_, rfl, ?_, HB.out⟩
      have := HO.out
      rwa [List.take_of_length_le (Nat.le_of_eq HL.out)] at this
set_option maxHeartbeats 1000000 in
set_option maxRecDepth 100000 in
theorem of1 (level : Int) (fk : (wrap64 (level.tmod 8 + 8)).tmod 8 = 1) (b off cap : Nat) (es : List (Nat × Nat)) (hn : es.length ≤ 10) (W : World) (hb : b < W.heap.size)
    (hc : ∀ i, i < es.length → W.cell? ⟨b, off + i * 2, none⟩ = some (.int .u64 ((es.getD i (0, 0)).1 : Nat)) ∧ W.cell? ⟨b, off + i * 2 + 1, none⟩ = some (.int .u64 ((es.getD i (0, 0)).2 : Nat)))
    (fs : List (Nat × Nat)) (hfl : fs.length = es.length) (hf : ∀ i, i < es.length → (fs.getD i (0, 0)).1 = 0 ∧ bits .and .u64 ((es.getD i (0, 0)).2 : Int) 3 = ((fs.getD i (0, 0)).2 : Int)) :
    Calls Try.prog 39 #[.int .i64 level, .slice (some ⟨b, off, none⟩) es.length cap] W fun e w' => ∃ v, e = .returned (.tuple #[.int .i64 1, v]) ∧ w'.ownsRow W.heap.size 24 2 v es.length (flat fs) ∧ Below W.heap.size W w' := by
  have HC : Hid (∀ i, i < es.length → W.cell? ⟨b, off + i * 2, none⟩ = some (.int .u64 ((es.getD i (0, 0)).1 : Nat)) ∧ W.cell? ⟨b, off + i * 2 + 1, none⟩ = some (.int .u64 ((es.getD i (0, 0)).2 : Nat))) := hc
  have HF : Hid (∀ i, i < es.length → (fs.getD i (0, 0)).1 = 0 ∧ bits .and .u64 ((es.getD i (0, 0)).2 : Int) 3 = ((fs.getD i (0, 0)).2 : Int)) := hf
  have HL : Hid (fs.length = es.length) := hfl
  clear hc hf hfl
  go_enter Try.func39, Try.ntmps39
  go_wp2_with fail
  go_loopw [7, 8] (fun v u wr => ∃ j : Nat, j ≤ es.length ∧ u = .int .i64 j ∧ wr.ownsRow W.heap.size 24 2 v j (flat (fs.take j)) ∧ Below W.heap.size W wr) (fun _ u _ => es.length - (intOf u).toNat)
  case atStart => exact ⟨0, Nat.zero_le _, rfl, ⟨by simp [flat], .inl ⟨rfl, rfl⟩⟩, Below.refl _ _⟩
  case round =>
    obtain ⟨j, hj, rfl, hown, hbw⟩ := hrel
    by_cases hlt : j < es.length
    · obtain ⟨c1, c0⟩ := HC.out j hlt
      have d1 : wr.cell? ⟨b, off + j * 2, none⟩ = some (.int .u64 ((es.getD j (0, 0)).1 : Nat)) := by rw [hbw.cell (p := ⟨b, off + j * 2, none⟩) hb]; exact c1
      have d0 : wr.cell? ⟨b, off + j * 2 + 1, none⟩ = some (.int .u64 ((es.getD j (0, 0)).2 : Nat)) := by rw [hbw.cell (p := ⟨b, off + j * 2 + 1, none⟩) hb]; exact c0
      have H : Hid (fs.take (j + 1) = fs.take j ++ [fs.getD j (0, 0)]) := take_sn fs j (by rw [HL.out]; exact hlt)
      obtain ⟨f1, f0⟩ := HF.out j hlt
      have F1 : Hid ((fs.getD j (0, 0)).1 = 0) := f1
      obtain ⟨i0, hi, hz0, hz1, hz2⟩ := info_elem
      have HI : Hid (Try.prog.info? 24 = some i0 ∧ i0.zero = some (.agg #[.int .u64 0, .int .u64 0]) ∧ i0.size = 2 ∧ i0.bytes = 16) := ⟨hi, hz0, hz1, hz2⟩
      have HO : Hid (wr.ownsRow W.heap.size 24 2 u7 j (flat (fs.take j))) := hown
      have HB : Hid (Below W.heap.size W wr) := hbw
      clear hown c1 c0 hi hz0 hz1 hz2 hbw f1
      generalize es.getD j (0, 0) = x at *
      generalize fs.getD j (0, 0) = y at *
      go_wp2_with (at_builtin; refine wpList_append_own _ rfl _ _ 53 rfl W.heap.size 24 i0 (.agg #[.int .u64 0, .int .u64 0]) 2 16 Try.underlying53 HI.out.1 HI.out.2.1 HI.out.2.2.1 HI.out.2.2.2 rfl (by decide) _ _ _ rfl (own_below HO.out (by go_grown)) ⟨wr.heap.size + 1, 0, none⟩ 1 1 [.int .u64 0, .int .u64 (y.2 : Int)] rfl rfl (fun p u hu => by rcases p with _ | _ | p <;> simp at hu <;> subst hu <;> simp [go_sem]) (by intro u hu; simp at hu; rcases hu with rfl | rfl <;> rfl) (by simp only [maxLen]; omega) (by omega) (by have := HB.out.size; simp; omega) ?_; intro v' w' hown' hgr _)
      refine ⟨⟨j + 1, hlt, by simp, ?_, ?_⟩, by simp [intOf]; omega⟩
      · rw [H.out, flat_snoc, F1.out]; exact hown'
      · exact ((HB.out.alloc HB.out.size _).alloc (by have := HB.out.size; simp; omega) _).grown hgr (by have := HB.out.size; simp; omega) fun k hk => (HO.out.lt k hk).1
    · have hje : j = es.length := by omega
      subst hje
      have HO : Hid (wr.ownsRow W.heap.size 24 2 u7 es.length (flat (fs.take es.length))) := hown
      have HB : Hid (Below W.heap.size W wr) := hbw
      clear hown hbw
      go_wp2
      refine bodyPost_ret (v := .tuple #[.int .i64 1, u7]) (by simp [results, Try.results39, go_sem]) rfl ⟨_, rfl, ?_, HB.out⟩
      have := HO.out
      rwa [List.take_of_length_le (Nat.le_of_eq HL.out)] at this
set_option maxHeartbeats 1000000 in
set_option maxRecDepth 100000 in
theorem of2 (level : Int) (fk : (wrap64 (level.tmod 8 + 8)).tmod 8 = 2) (b off cap : Nat) (es : List (Nat × Nat)) (hn : es.length ≤ 10) (W : World) (hb : b < W.heap.size)
    (hc : ∀ i, i < es.length → W.cell? ⟨b, off + i * 2, none⟩ = some (.int .u64 ((es.getD i (0, 0)).1 : Nat)) ∧ W.cell? ⟨b, off + i * 2 + 1, none⟩ = some (.int .u64 ((es.getD i (0, 0)).2 : Nat)))
    (fs : List (Nat × Nat)) (hfl : fs.length = es.length) (hf : ∀ i, i < es.length → (fs.getD i (0, 0)).1 = 0 ∧ bits .and .u64 ((es.getD i (0, 0)).2 : Int) 15 = ((fs.getD i (0, 0)).2 : Int)) :
    Calls Try.prog 39 #[.int .i64 level, .slice (some ⟨b, off, none⟩) es.length cap] W fun e w' => ∃ v, e = .returned (.tuple #[.int .i64 2, v]) ∧ w'.ownsRow W.heap.size 24 2 v es.length (flat fs) ∧ Below W.heap.size W w' := by
  have HC : Hid (∀ i, i < es.length → W.cell? ⟨b, off + i * 2, none⟩ = some (.int .u64 ((es.getD i (0, 0)).1 : Nat)) ∧ W.cell? ⟨b, off + i * 2 + 1, none⟩ = some (.int .u64 ((es.getD i (0, 0)).2 : Nat))) := hc
  have HF : Hid (∀ i, i < es.length → (fs.getD i (0, 0)).1 = 0 ∧ bits .and .u64 ((es.getD i (0, 0)).2 : Int) 15 = ((fs.getD i (0, 0)).2 : Int)) := hf
  have HL : Hid (fs.length = es.length) := hfl
  clear hc hf hfl
  go_enter Try.func39, Try.ntmps39
  go_wp2_with fail
  go_loopw [7, 8] (fun v u wr => ∃ j : Nat, j ≤ es.length ∧ u = .int .i64 j ∧ wr.ownsRow W.heap.size 24 2 v j (flat (fs.take j)) ∧ Below W.heap.size W wr) (fun _ u _ => es.length - (intOf u).toNat)
  case atStart => exact ⟨0, Nat.zero_le _, rfl, ⟨by simp [flat], .inl ⟨rfl, rfl⟩⟩, Below.refl _ _⟩
  case round =>
    obtain ⟨j, hj, rfl, hown, hbw⟩ := hrel
    by_cases hlt : j < es.length
    · obtain ⟨c1, c0⟩ := HC.out j hlt
      have d1 : wr.cell? ⟨b, off + j * 2, none⟩ = some (.int .u64 ((es.getD j (0, 0)).1 : Nat)) := by rw [hbw.cell (p := ⟨b, off + j * 2, none⟩) hb]; exact c1
      have d0 : wr.cell? ⟨b, off + j * 2 + 1, none⟩ = some (.int .u64 ((es.getD j (0, 0)).2 : Nat)) := by rw [hbw.cell (p := ⟨b, off + j * 2 + 1, none⟩) hb]; exact c0
      have H : Hid (fs.take (j + 1) = fs.take j ++ [fs.getD j (0, 0)]) := take_sn fs j (by rw [HL.out]; exact hlt)
      obtain ⟨f1, f0⟩ := HF.out j hlt
      have F1 : Hid ((fs.getD j (0, 0)).1 = 0) := f1
      obtain ⟨i0, hi, hz0, hz1, hz2⟩ := info_elem
      have HI : Hid (Try.prog.info? 24 = some i0 ∧ i0.zero = some (.agg #[.int .u64 0, .int .u64 0]) ∧ i0.size = 2 ∧ i0.bytes = 16) := ⟨hi, hz0, hz1, hz2⟩
      have HO : Hid (wr.ownsRow W.heap.size 24 2 u7 j (flat (fs.take j))) := hown
      have HB : Hid (Below W.heap.size W wr) := hbw
      clear hown c1 c0 hi hz0 hz1 hz2 hbw f1
      generalize es.getD j (0, 0) = x at *
      generalize fs.getD j (0, 0) = y at *
      go_wp2_with (at_builtin; refine wpList_append_own _ rfl _ _ 53 rfl W.heap.size 24 i0 (.agg #[.int .u64 0, .int .u64 0]) 2 16 Try.underlying53 HI.out.1 HI.out.2.1 HI.out.2.2.1 HI.out.2.2.2 rfl (by decide) _ _ _ rfl (own_below HO.out (by go_grown)) ⟨wr.heap.size + 1, 0, none⟩ 1 1 [.int .u64 0, .int .u64 (y.2 : Int)] rfl rfl (fun p u hu => by rcases p with _ | _ | p <;> simp at hu <;> subst hu <;> simp [go_sem]) (by intro u hu; simp at hu; rcases hu with rfl | rfl <;> rfl) (by simp only [maxLen]; omega) (by omega) (by have := HB.out.size; simp; omega) ?_; intro v' w' hown' hgr _)
      refine ⟨⟨j + 1, hlt, by simp, ?_, ?_⟩, by simp [intOf]; omega⟩
      · rw [H.out, flat_snoc, F1.out]; exact hown'
      · exact ((HB.out.alloc HB.out.size _).alloc (by have := HB.out.size; simp; omega) _).grown hgr (by have := HB.out.size; simp; omega) fun k hk => (HO.out.lt k hk).1
    · have hje : j = es.length := by omega
      subst hje
      have HO : Hid (wr.ownsRow W.heap.size 24 2 u7 es.length (flat (fs.take es.length))) := hown
      have HB : Hid (Below W.heap.size W wr) := hbw
      clear hown hbw
      go_wp2
      refine bodyPost_ret (v := .tuple #[.int .i64 2, u7]) (by simp [results, Try.results39, go_sem]) rfl ⟨_, rfl, ?_, HB.out⟩
      have := HO.out
      rwa [List.take_of_length_le (Nat.le_of_eq HL.out)] at this
set_option maxHeartbeats 1000000 in
set_option maxRecDepth 100000 in
theorem of3 (level : Int) (fk : (wrap64 (level.tmod 8 + 8)).tmod 8 = 3) (b off cap : Nat) (es : List (Nat × Nat)) (hn : es.length ≤ 10) (W : World) (hb : b < W.heap.size)
    (hc : ∀ i, i < es.length → W.cell? ⟨b, off + i * 2, none⟩ = some (.int .u64 ((es.getD i (0, 0)).1 : Nat)) ∧ W.cell? ⟨b, off + i * 2 + 1, none⟩ = some (.int .u64 ((es.getD i (0, 0)).2 : Nat)))
    (fs : List (Nat × Nat)) (hfl : fs.length = es.length) (hf : ∀ i, i < es.length → (fs.getD i (0, 0)).1 = 0 ∧ bits .and .u64 ((es.getD i (0, 0)).2 : Int) 255 = ((fs.getD i (0, 0)).2 : Int)) :
    Calls Try.prog 39 #[.int .i64 level, .slice (some ⟨b, off, none⟩) es.length cap] W fun e w' => ∃ v, e = .returned (.tuple #[.int .i64 3, v]) ∧ w'.ownsRow W.heap.size 24 2 v es.length (flat fs) ∧ Below W.heap.size W w' := by
  have HC : Hid (∀ i, i < es.length → W.cell? ⟨b, off + i * 2, none⟩ = some (.int .u64 ((es.getD i (0, 0)).1 : Nat)) ∧ W.cell? ⟨b, off + i * 2 + 1, none⟩ = some (.int .u64 ((es.getD i (0, 0)).2 : Nat))) := hc
  have HF : Hid (∀ i, i < es.length → (fs.getD i (0, 0)).1 = 0 ∧ bits .and .u64 ((es.getD i (0, 0)).2 : Int) 255 = ((fs.getD i (0, 0)).2 : Int)) := hf
  have HL : Hid (fs.length = es.length) := hfl
  clear hc hf hfl
  go_enter Try.func39, Try.ntmps39
  go_wp2_with fail
  go_loopw [7, 8] (fun v u wr => ∃ j : Nat, j ≤ es.length ∧ u = .int .i64 j ∧ wr.ownsRow W.heap.size 24 2 v j (flat (fs.take j)) ∧ Below W.heap.size W wr) (fun _ u _ => es.length - (intOf u).toNat)
  case atStart => exact ⟨0, Nat.zero_le _, rfl, ⟨by simp [flat], .inl ⟨rfl, rfl⟩⟩, Below.refl _ _⟩
  case round =>
    obtain ⟨j, hj, rfl, hown, hbw⟩ := hrel
    by_cases hlt : j < es.length
    · obtain ⟨c1, c0⟩ := HC.out j hlt
      have d1 : wr.cell? ⟨b, off + j * 2, none⟩ = some (.int .u64 ((es.getD j (0, 0)).1 : Nat)) := by rw [hbw.cell (p := ⟨b, off + j * 2, none⟩) hb]; exact c1
      have d0 : wr.cell? ⟨b, off + j * 2 + 1, none⟩ = some (.int .u64 ((es.getD j (0, 0)).2 : Nat)) := by rw [hbw.cell (p := ⟨b, off + j * 2 + 1, none⟩) hb]; exact c0
      have H : Hid (fs.take (j + 1) = fs.take j ++ [fs.getD j (0, 0)]) := take_sn fs j (by rw [HL.out]; exact hlt)
      obtain ⟨f1, f0⟩ := HF.out j hlt
      have F1 : Hid ((fs.getD j (0, 0)).1 = 0) := f1
      obtain ⟨i0, hi, hz0, hz1, hz2⟩ := info_elem
      have HI : Hid (Try.prog.info? 24 = some i0 ∧ i0.zero = some (.agg #[.int .u64 0, .int .u64 0]) ∧ i0.size = 2 ∧ i0.bytes = 16) := ⟨hi, hz0, hz1, hz2⟩
      have HO : Hid (wr.ownsRow W.heap.size 24 2 u7 j (flat (fs.take j))) := hown
      have HB : Hid (Below W.heap.size W wr) := hbw
      clear hown c1 c0 hi hz0 hz1 hz2 hbw f1
      generalize es.getD j (0, 0) = x at *
      generalize fs.getD j (0, 0) = y at *
      go_wp2_with (at_builtin; refine wpList_append_own _ rfl _ _ 53 rfl W.heap.size 24 i0 (.agg #[.int .u64 0, .int .u64 0]) 2 16 Try.underlying53 HI.out.1 HI.out.2.1 HI.out.2.2.1 HI.out.2.2.2 rfl (by decide) _ _ _ rfl (own_below HO.out (by go_grown)) ⟨wr.heap.size + 1, 0, none⟩ 1 1 [.int .u64 0, .int .u64 (y.2 : Int)] rfl rfl (fun p u hu => by rcases p with _ | _ | p <;> simp at hu <;> subst hu <;> simp [go_sem]) (by intro u hu; simp at hu; rcases hu with rfl | rfl <;> rfl) (by simp only [maxLen]; omega) (by omega) (by have := HB.out.size; simp; omega) ?_; intro v' w' hown' hgr _)
      refine ⟨⟨j + 1, hlt, by simp, ?_, ?_⟩, by simp [intOf]; omega⟩
      · rw [H.out, flat_snoc, F1.out]; exact hown'
      · exact ((HB.out.alloc HB.out.size _).alloc (by have := HB.out.size; simp; omega) _).grown hgr (by have := HB.out.size; simp; omega) fun k hk => (HO.out.lt k hk).1
    · have hje : j = es.length := by omega
      subst hje
      have HO : Hid (wr.ownsRow W.heap.size 24 2 u7 es.length (flat (fs.take es.length))) := hown
      have HB : Hid (Below W.heap.size W wr) := hbw
      clear hown hbw
      go_wp2
      refine bodyPost_ret (v := .tuple #[.int .i64 3, u7]) (by simp [results, Try.results39, go_sem]) rfl ⟨_, rfl, ?_, HB.out⟩
      have := HO.out
      rwa [List.take_of_length_le (Nat.le_of_eq HL.out)] at this
set_option maxHeartbeats 1000000 in
set_option maxRecDepth 100000 in
theorem of4 (level : Int) (fk : (wrap64 (level.tmod 8 + 8)).tmod 8 = 4) (b off cap : Nat) (es : List (Nat × Nat)) (hn : es.length ≤ 10) (W : World) (hb : b < W.heap.size)
    (hc : ∀ i, i < es.length → W.cell? ⟨b, off + i * 2, none⟩ = some (.int .u64 ((es.getD i (0, 0)).1 : Nat)) ∧ W.cell? ⟨b, off + i * 2 + 1, none⟩ = some (.int .u64 ((es.getD i (0, 0)).2 : Nat)))
    (fs : List (Nat × Nat)) (hfl : fs.length = es.length) (hf : ∀ i, i < es.length → (fs.getD i (0, 0)).1 = 0 ∧ bits .and .u64 ((es.getD i (0, 0)).2 : Int) 65535 = ((fs.getD i (0, 0)).2 : Int)) :
    Calls Try.prog 39 #[.int .i64 level, .slice (some ⟨b, off, none⟩) es.length cap] W fun e w' => ∃ v, e = .returned (.tuple #[.int .i64 4, v]) ∧ w'.ownsRow W.heap.size 24 2 v es.length (flat fs) ∧ Below W.heap.size W w' := by
  have HC : Hid (∀ i, i < es.length → W.cell? ⟨b, off + i * 2, none⟩ = some (.int .u64 ((es.getD i (0, 0)).1 : Nat)) ∧ W.cell? ⟨b, off + i * 2 + 1, none⟩ = some (.int .u64 ((es.getD i (0, 0)).2 : Nat))) := hc
  have HF : Hid (∀ i, i < es.length → (fs.getD i (0, 0)).1 = 0 ∧ bits .and .u64 ((es.getD i (0, 0)).2 : Int) 65535 = ((fs.getD i (0, 0)).2 : Int)) := hf
  have HL : Hid (fs.length = es.length) := hfl
  clear hc hf hfl
  go_enter Try.func39, Try.ntmps39
  go_wp2_with fail
  go_loopw [7, 8] (fun v u wr => ∃ j : Nat, j ≤ es.length ∧ u = .int .i64 j ∧ wr.ownsRow W.heap.size 24 2 v j (flat (fs.take j)) ∧ Below W.heap.size W wr) (fun _ u _ => es.length - (intOf u).toNat)
  case atStart => exact ⟨0, Nat.zero_le _, rfl, ⟨by simp [flat], .inl ⟨rfl, rfl⟩⟩, Below.refl _ _⟩
  case round =>
    obtain ⟨j, hj, rfl, hown, hbw⟩ := hrel
    by_cases hlt : j < es.length
    · obtain ⟨c1, c0⟩ := HC.out j hlt
      have d1 : wr.cell? ⟨b, off + j * 2, none⟩ = some (.int .u64 ((es.getD j (0, 0)).1 : Nat)) := by rw [hbw.cell (p := ⟨b, off + j * 2, none⟩) hb]; exact c1
      have d0 : wr.cell? ⟨b, off + j * 2 + 1, none⟩ = some (.int .u64 ((es.getD j (0, 0)).2 : Nat)) := by rw [hbw.cell (p := ⟨b, off + j * 2 + 1, none⟩) hb]; exact c0
      have H : Hid (fs.take (j + 1) = fs.take j ++ [fs.getD j (0, 0)]) := take_sn fs j (by rw [HL.out]; exact hlt)
      obtain ⟨f1, f0⟩ := HF.out j hlt
      have F1 : Hid ((fs.getD j (0, 0)).1 = 0) := f1
      obtain ⟨i0, hi, hz0, hz1, hz2⟩ := info_elem
      have HI : Hid (Try.prog.info? 24 = some i0 ∧ i0.zero = some (.agg #[.int .u64 0, .int .u64 0]) ∧ i0.size = 2 ∧ i0.bytes = 16) := ⟨hi, hz0, hz1, hz2⟩
      have HO : Hid (wr.ownsRow W.heap.size 24 2 u7 j (flat (fs.take j))) := hown
      have HB : Hid (Below W.heap.size W wr) := hbw
      clear hown c1 c0 hi hz0 hz1 hz2 hbw f1
      generalize es.getD j (0, 0) = x at *
      generalize fs.getD j (0, 0) = y at *
      go_wp2_with (at_builtin; refine wpList_append_own _ rfl _ _ 53 rfl W.heap.size 24 i0 (.agg #[.int .u64 0, .int .u64 0]) 2 16 Try.underlying53 HI.out.1 HI.out.2.1 HI.out.2.2.1 HI.out.2.2.2 rfl (by decide) _ _ _ rfl (own_below HO.out (by go_grown)) ⟨wr.heap.size + 1, 0, none⟩ 1 1 [.int .u64 0, .int .u64 (y.2 : Int)] rfl rfl (fun p u hu => by rcases p with _ | _ | p <;> simp at hu <;> subst hu <;> simp [go_sem]) (by intro u hu; simp at hu; rcases hu with rfl | rfl <;> rfl) (by simp only [maxLen]; omega) (by omega) (by have := HB.out.size; simp; omega) ?_; intro v' w' hown' hgr _)
      refine ⟨⟨j + 1, hlt, by simp, ?_, ?_⟩, by simp [intOf]; omega⟩
      · rw [H.out, flat_snoc, F1.out]; exact hown'
      · exact ((HB.out.alloc HB.out.size _).alloc (by have := HB.out.size; simp; omega) _).grown hgr (by have := HB.out.size; simp; omega) fun k hk => (HO.out.lt k hk).1
    · have hje : j = es.length := by omega
      subst hje
      have HO : Hid (wr.ownsRow W.heap.size 24 2 u7 es.length (flat (fs.take es.length))) := hown
      have HB : Hid (Below W.heap.size W wr) := hbw
      clear hown hbw
      go_wp2
      refine bodyPost_ret (v := .tuple #[.int .i64 4, u7]) (by simp [results, Try.results39, go_sem]) rfl ⟨_, rfl, ?_, HB.out⟩
      have := HO.out
      rwa [List.take_of_length_le (Nat.le_of_eq HL.out)] at this
set_option maxHeartbeats 1000000 in
set_option maxRecDepth 100000 in
theorem of5 (level : Int) (fk : (wrap64 (level.tmod 8 + 8)).tmod 8 = 5) (b off cap : Nat) (es : List (Nat × Nat)) (hn : es.length ≤ 10) (W : World) (hb : b < W.heap.size)
    (hc : ∀ i, i < es.length → W.cell? ⟨b, off + i * 2, none⟩ = some (.int .u64 ((es.getD i (0, 0)).1 : Nat)) ∧ W.cell? ⟨b, off + i * 2 + 1, none⟩ = some (.int .u64 ((es.getD i (0, 0)).2 : Nat)))
    (fs : List (Nat × Nat)) (hfl : fs.length = es.length) (hf : ∀ i, i < es.length → (fs.getD i (0, 0)).1 = 0 ∧ bits .and .u64 ((es.getD i (0, 0)).2 : Int) 4294967295 = ((fs.getD i (0, 0)).2 : Int)) :
    Calls Try.prog 39 #[.int .i64 level, .slice (some ⟨b, off, none⟩) es.length cap] W fun e w' => ∃ v, e = .returned (.tuple #[.int .i64 5, v]) ∧ w'.ownsRow W.heap.size 24 2 v es.length (flat fs) ∧ Below W.heap.size W w' := by
  have HC : Hid (∀ i, i < es.length → W.cell? ⟨b, off + i * 2, none⟩ = some (.int .u64 ((es.getD i (0, 0)).1 : Nat)) ∧ W.cell? ⟨b, off + i * 2 + 1, none⟩ = some (.int .u64 ((es.getD i (0, 0)).2 : Nat))) := hc
  have HF : Hid (∀ i, i < es.length → (fs.getD i (0, 0)).1 = 0 ∧ bits .and .u64 ((es.getD i (0, 0)).2 : Int) 4294967295 = ((fs.getD i (0, 0)).2 : Int)) := hf
  have HL : Hid (fs.length = es.length) := hfl
  clear hc hf hfl
  go_enter Try.func39, Try.ntmps39
  go_wp2_with fail
  go_loopw [7, 8] (fun v u wr => ∃ j : Nat, j ≤ es.length ∧ u = .int .i64 j ∧ wr.ownsRow W.heap.size 24 2 v j (flat (fs.take j)) ∧ Below W.heap.size W wr) (fun _ u _ => es.length - (intOf u).toNat)
  case atStart => exact ⟨0, Nat.zero_le _, rfl, ⟨by simp [flat], .inl ⟨rfl, rfl⟩⟩, Below.refl _ _⟩
  case round =>
    obtain ⟨j, hj, rfl, hown, hbw⟩ := hrel
    by_cases hlt : j < es.length
    · obtain ⟨c1, c0⟩ := HC.out j hlt
      have d1 : wr.cell? ⟨b, off + j * 2, none⟩ = some (.int .u64 ((es.getD j (0, 0)).1 : Nat)) := by rw [hbw.cell (p := ⟨b, off + j * 2, none⟩) hb]; exact c1
      have d0 : wr.cell? ⟨b, off + j * 2 + 1, none⟩ = some (.int .u64 ((es.getD j (0, 0)).2 : Nat)) := by rw [hbw.cell (p := ⟨b, off + j * 2 + 1, none⟩) hb]; exact c0
      have H : Hid (fs.take (j + 1) = fs.take j ++ [fs.getD j (0, 0)]) := take_sn fs j (by rw [HL.out]; exact hlt)
      obtain ⟨f1, f0⟩ := HF.out j hlt
      have F1 : Hid ((fs.getD j (0, 0)).1 = 0) := f1
      obtain ⟨i0, hi, hz0, hz1, hz2⟩ := info_elem
      have HI : Hid (Try.prog.info? 24 = some i0 ∧ i0.zero = some (.agg #[.int .u64 0, .int .u64 0]) ∧ i0.size = 2 ∧ i0.bytes = 16) := ⟨hi, hz0, hz1, hz2⟩
      have HO : Hid (wr.ownsRow W.heap.size 24 2 u7 j (flat (fs.take j))) := hown
      have HB : Hid (Below W.heap.size W wr) := hbw
      clear hown c1 c0 hi hz0 hz1 hz2 hbw f1
      generalize es.getD j (0, 0) = x at *
      generalize fs.getD j (0, 0) = y at *
      go_wp2_with (at_builtin; refine wpList_append_own _ rfl _ _ 53 rfl W.heap.size 24 i0 (.agg #[.int .u64 0, .int .u64 0]) 2 16 Try.underlying53 HI.out.1 HI.out.2.1 HI.out.2.2.1 HI.out.2.2.2 rfl (by decide) _ _ _ rfl (own_below HO.out (by go_grown)) ⟨wr.heap.size + 1, 0, none⟩ 1 1 [.int .u64 0, .int .u64 (y.2 : Int)] rfl rfl (fun p u hu => by rcases p with _ | _ | p <;> simp at hu <;> subst hu <;> simp [go_sem]) (by intro u hu; simp at hu; rcases hu with rfl | rfl <;> rfl) (by simp only [maxLen]; omega) (by omega) (by have := HB.out.size; simp; omega) ?_; intro v' w' hown' hgr _)
      refine ⟨⟨j + 1, hlt, by simp, ?_, ?_⟩, by simp [intOf]; omega⟩
      · rw [H.out, flat_snoc, F1.out]; exact hown'
      · exact ((HB.out.alloc HB.out.size _).alloc (by have := HB.out.size; simp; omega) _).grown hgr (by have := HB.out.size; simp; omega) fun k hk => (HO.out.lt k hk).1
    · have hje : j = es.length := by omega
      subst hje
      have HO : Hid (wr.ownsRow W.heap.size 24 2 u7 es.length (flat (fs.take es.length))) := hown
      have HB : Hid (Below W.heap.size W wr) := hbw
      clear hown hbw
      go_wp2
      refine bodyPost_ret (v := .tuple #[.int .i64 5, u7]) (by simp [results, Try.results39, go_sem]) rfl ⟨_, rfl, ?_, HB.out⟩
      have := HO.out
      rwa [List.take_of_length_le (Nat.le_of_eq HL.out)] at this
set_option maxHeartbeats 1000000 in
set_option maxRecDepth 100000 in
theorem of6 (level : Int) (fk : (wrap64 (level.tmod 8 + 8)).tmod 8 = 6) (b off cap : Nat) (es : List (Nat × Nat)) (hn : es.length ≤ 10) (W : World) (hb : b < W.heap.size)
    (hc : ∀ i, i < es.length → W.cell? ⟨b, off + i * 2, none⟩ = some (.int .u64 ((es.getD i (0, 0)).1 : Nat)) ∧ W.cell? ⟨b, off + i * 2 + 1, none⟩ = some (.int .u64 ((es.getD i (0, 0)).2 : Nat)))
    (fs : List (Nat × Nat)) (hfl : fs.length = es.length) (hf : ∀ i, i < es.length → (fs.getD i (0, 0)).1 = 0 ∧ (fs.getD i (0, 0)).2 = (es.getD i (0, 0)).2) :
    Calls Try.prog 39 #[.int .i64 level, .slice (some ⟨b, off, none⟩) es.length cap] W fun e w' => ∃ v, e = .returned (.tuple #[.int .i64 6, v]) ∧ w'.ownsRow W.heap.size 24 2 v es.length (flat fs) ∧ Below W.heap.size W w' := by
  have HC : Hid (∀ i, i < es.length → W.cell? ⟨b, off + i * 2, none⟩ = some (.int .u64 ((es.getD i (0, 0)).1 : Nat)) ∧ W.cell? ⟨b, off + i * 2 + 1, none⟩ = some (.int .u64 ((es.getD i (0, 0)).2 : Nat))) := hc
  have HF : Hid (∀ i, i < es.length → (fs.getD i (0, 0)).1 = 0 ∧ (fs.getD i (0, 0)).2 = (es.getD i (0, 0)).2) := hf
  have HL : Hid (fs.length = es.length) := hfl
  clear hc hf hfl
  go_enter Try.func39, Try.ntmps39
  go_wp2_with fail
  go_loopw [7, 8] (fun v u wr => ∃ j : Nat, j ≤ es.length ∧ u = .int .i64 j ∧ wr.ownsRow W.heap.size 24 2 v j (flat (fs.take j)) ∧ Below W.heap.size W wr) (fun _ u _ => es.length - (intOf u).toNat)
  case atStart => exact ⟨0, Nat.zero_le _, rfl, ⟨by simp [flat], .inl ⟨rfl, rfl⟩⟩, Below.refl _ _⟩
  case round =>
    obtain ⟨j, hj, rfl, hown, hbw⟩ := hrel
    by_cases hlt : j < es.length
    · obtain ⟨c1, c0⟩ := HC.out j hlt
      have d1 : wr.cell? ⟨b, off + j * 2, none⟩ = some (.int .u64 ((es.getD j (0, 0)).1 : Nat)) := by rw [hbw.cell (p := ⟨b, off + j * 2, none⟩) hb]; exact c1
      have d0 : wr.cell? ⟨b, off + j * 2 + 1, none⟩ = some (.int .u64 ((es.getD j (0, 0)).2 : Nat)) := by rw [hbw.cell (p := ⟨b, off + j * 2 + 1, none⟩) hb]; exact c0
      have H : Hid (fs.take (j + 1) = fs.take j ++ [fs.getD j (0, 0)]) := take_sn fs j (by rw [HL.out]; exact hlt)
      obtain ⟨f1, f0⟩ := HF.out j hlt
      have F0 : Hid ((fs.getD j (0, 0)).2 = (es.getD j (0, 0)).2) := f0
      have F1 : Hid ((fs.getD j (0, 0)).1 = 0) := f1
      obtain ⟨i0, hi, hz0, hz1, hz2⟩ := info_elem
      have HI : Hid (Try.prog.info? 24 = some i0 ∧ i0.zero = some (.agg #[.int .u64 0, .int .u64 0]) ∧ i0.size = 2 ∧ i0.bytes = 16) := ⟨hi, hz0, hz1, hz2⟩
      have HO : Hid (wr.ownsRow W.heap.size 24 2 u7 j (flat (fs.take j))) := hown
      have HB : Hid (Below W.heap.size W wr) := hbw
      clear hown c1 c0 hi hz0 hz1 hz2 hbw f1 f0
      generalize es.getD j (0, 0) = x at *
      generalize fs.getD j (0, 0) = y at *
      go_wp2_with (at_builtin; refine wpList_append_own _ rfl _ _ 53 rfl W.heap.size 24 i0 (.agg #[.int .u64 0, .int .u64 0]) 2 16 Try.underlying53 HI.out.1 HI.out.2.1 HI.out.2.2.1 HI.out.2.2.2 rfl (by decide) _ _ _ rfl (own_below HO.out (by go_grown)) ⟨wr.heap.size + 1, 0, none⟩ 1 1 [.int .u64 0, .int .u64 (x.2 : Int)] rfl rfl (fun p u hu => by rcases p with _ | _ | p <;> simp at hu <;> subst hu <;> simp [go_sem]) (by intro u hu; simp at hu; rcases hu with rfl | rfl <;> rfl) (by simp only [maxLen]; omega) (by omega) (by have := HB.out.size; simp; omega) ?_; intro v' w' hown' hgr _)
      refine ⟨⟨j + 1, hlt, by simp, ?_, ?_⟩, by simp [intOf]; omega⟩
      · rw [H.out, flat_snoc, F1.out, F0.out]; exact hown'
      · exact ((HB.out.alloc HB.out.size _).alloc (by have := HB.out.size; simp; omega) _).grown hgr (by have := HB.out.size; simp; omega) fun k hk => (HO.out.lt k hk).1
    · have hje : j = es.length := by omega
      subst hje
      have HO : Hid (wr.ownsRow W.heap.size 24 2 u7 es.length (flat (fs.take es.length))) := hown
      have HB : Hid (Below W.heap.size W wr) := hbw
      clear hown hbw
      go_wp2
      refine bodyPost_ret (v := .tuple #[.int .i64 6, u7]) (by simp [results, Try.results39, go_sem]) rfl ⟨_, rfl, ?_, HB.out⟩
      have := HO.out
      rwa [List.take_of_length_le (Nat.le_of_eq HL.out)] at this
set_option maxHeartbeats 1000000 in
set_option maxRecDepth 100000 in
theorem of7 (level : Int) (fk : (wrap64 (level.tmod 8 + 8)).tmod 8 = 7) (b off cap : Nat) (es : List (Nat × Nat)) (hn : es.length ≤ 10) (W : World) (hb : b < W.heap.size)
    (hc : ∀ i, i < es.length → W.cell? ⟨b, off + i * 2, none⟩ = some (.int .u64 ((es.getD i (0, 0)).1 : Nat)) ∧ W.cell? ⟨b, off + i * 2 + 1, none⟩ = some (.int .u64 ((es.getD i (0, 0)).2 : Nat)))
    (fs : List (Nat × Nat)) (hfl : fs.length = es.length) (hf : ∀ i, i < es.length → (fs.getD i (0, 0)).1 = (es.getD i (0, 0)).1 ∧ (fs.getD i (0, 0)).2 = (es.getD i (0, 0)).2) :
    Calls Try.prog 39 #[.int .i64 level, .slice (some ⟨b, off, none⟩) es.length cap] W fun e w' => ∃ v, e = .returned (.tuple #[.int .i64 7, v]) ∧ w'.ownsRow W.heap.size 24 2 v es.length (flat fs) ∧ Below W.heap.size W w' := by
  have HC : Hid (∀ i, i < es.length → W.cell? ⟨b, off + i * 2, none⟩ = some (.int .u64 ((es.getD i (0, 0)).1 : Nat)) ∧ W.cell? ⟨b, off + i * 2 + 1, none⟩ = some (.int .u64 ((es.getD i (0, 0)).2 : Nat))) := hc
  have HF : Hid (∀ i, i < es.length → (fs.getD i (0, 0)).1 = (es.getD i (0, 0)).1 ∧ (fs.getD i (0, 0)).2 = (es.getD i (0, 0)).2) := hf
  have HL : Hid (fs.length = es.length) := hfl
  clear hc hf hfl
  go_enter Try.func39, Try.ntmps39
  go_wp2_with fail
  go_loopw [7, 8] (fun v u wr => ∃ j : Nat, j ≤ es.length ∧ u = .int .i64 j ∧ wr.ownsRow W.heap.size 24 2 v j (flat (fs.take j)) ∧ Below W.heap.size W wr) (fun _ u _ => es.length - (intOf u).toNat)
  case atStart => exact ⟨0, Nat.zero_le _, rfl, ⟨by simp [flat], .inl ⟨rfl, rfl⟩⟩, Below.refl _ _⟩
  case round =>
    obtain ⟨j, hj, rfl, hown, hbw⟩ := hrel
    by_cases hlt : j < es.length
    · obtain ⟨c1, c0⟩ := HC.out j hlt
      have d1 : wr.cell? ⟨b, off + j * 2, none⟩ = some (.int .u64 ((es.getD j (0, 0)).1 : Nat)) := by rw [hbw.cell (p := ⟨b, off + j * 2, none⟩) hb]; exact c1
      have d0 : wr.cell? ⟨b, off + j * 2 + 1, none⟩ = some (.int .u64 ((es.getD j (0, 0)).2 : Nat)) := by rw [hbw.cell (p := ⟨b, off + j * 2 + 1, none⟩) hb]; exact c0
      have H : Hid (fs.take (j + 1) = fs.take j ++ [fs.getD j (0, 0)]) := take_sn fs j (by rw [HL.out]; exact hlt)
      obtain ⟨f1, f0⟩ := HF.out j hlt
      have F0 : Hid ((fs.getD j (0, 0)).2 = (es.getD j (0, 0)).2) := f0
      have F1 : Hid ((fs.getD j (0, 0)).1 = (es.getD j (0, 0)).1) := f1
      obtain ⟨i0, hi, hz0, hz1, hz2⟩ := info_elem
      have HI : Hid (Try.prog.info? 24 = some i0 ∧ i0.zero = some (.agg #[.int .u64 0, .int .u64 0]) ∧ i0.size = 2 ∧ i0.bytes = 16) := ⟨hi, hz0, hz1, hz2⟩
      have HO : Hid (wr.ownsRow W.heap.size 24 2 u7 j (flat (fs.take j))) := hown
      have HB : Hid (Below W.heap.size W wr) := hbw
      clear hown c1 c0 hi hz0 hz1 hz2 hbw f1 f0
      generalize es.getD j (0, 0) = x at *
      generalize fs.getD j (0, 0) = y at *
      go_wp2_with (at_builtin; refine wpList_append_own _ rfl _ _ 53 rfl W.heap.size 24 i0 (.agg #[.int .u64 0, .int .u64 0]) 2 16 Try.underlying53 HI.out.1 HI.out.2.1 HI.out.2.2.1 HI.out.2.2.2 rfl (by decide) _ _ _ rfl (own_below HO.out (by go_grown)) ⟨wr.heap.size + 1, 0, none⟩ 1 1 [.int .u64 (x.1 : Int), .int .u64 (x.2 : Int)] rfl rfl (fun p u hu => by rcases p with _ | _ | p <;> simp at hu <;> subst hu <;> simp [go_sem]) (by intro u hu; simp at hu; rcases hu with rfl | rfl <;> rfl) (by simp only [maxLen]; omega) (by omega) (by have := HB.out.size; simp; omega) ?_; intro v' w' hown' hgr _)
      refine ⟨⟨j + 1, hlt, by simp, ?_, ?_⟩, by simp [intOf]; omega⟩
      · rw [H.out, flat_snoc, F1.out, F0.out]; exact hown'
      · exact ((HB.out.alloc HB.out.size _).alloc (by have := HB.out.size; simp; omega) _).grown hgr (by have := HB.out.size; simp; omega) fun k hk => (HO.out.lt k hk).1
    · have hje : j = es.length := by omega
      subst hje
      have HO : Hid (wr.ownsRow W.heap.size 24 2 u7 es.length (flat (fs.take es.length))) := hown
      have HB : Hid (Below W.heap.size W wr) := hbw
      clear hown hbw
      go_wp2
      refine bodyPost_ret (v := .tuple #[.int .i64 7, u7]) (by simp [results, Try.results39, go_sem]) rfl ⟨_, rfl, ?_, HB.out⟩
      have := HO.out
      rwa [List.take_of_length_le (Nat.le_of_eq HL.out)] at this
/-- An element cut down to a level. -/
def cutE (k : Nat) (e : Nat × Nat) : Nat × Nat := (if k < 7 then 0 else e.1, if k < 6 then e.2 % 2 ^ 2 ^ k else e.2)
theorem mask_nat (k x M : Nat) (hM : M + 1 = 2 ^ 2 ^ k) (hM2 : M < 2 ^ 64) (hx : x < 2 ^ 64) : bits .and .u64 (x : Int) (M : Int) = ((x % 2 ^ 2 ^ k : Nat) : Int) := by
  rw [u64_and_nat _ _ hx hM2, show M = 2 ^ 2 ^ k - 1 by omega, Nat.and_two_pow_sub_one_eq_mod]
theorem getD_map {es : List (Nat × Nat)} (f : Nat × Nat → Nat × Nat) {i : Nat} (h : i < es.length) : (es.map f).getD i (0, 0) = f (es.getD i (0, 0)) := by
  simp [h]
theorem getD_lt {es : List (Nat × Nat)} (hes : ∀ e ∈ es, e.2 < 2 ^ 64) (i : Nat) : (es.getD i (0, 0)).2 < 2 ^ 64 := by
  by_cases h : i < es.length
  · rw [show es.getD i (0, 0) = es[i] by simp [h]]; exact hes _ (List.getElem_mem h)
  · rw [show es.getD i (0, 0) = (0, 0) by simp [List.getD, List.getElem?_eq_none (Nat.not_lt.1 h)]]; decide
/-- Elements cut down to a level, and the level. -/
theorem cut_of (level : Int) (k : Nat) (hk : k < 8) (fk : (wrap64 (level.tmod 8 + 8)).tmod 8 = (k : Int)) (b off cap : Nat) (es : List (Nat × Nat)) (hn : es.length ≤ 10) (hes : ∀ e ∈ es, e.2 < 2 ^ 64) (W : World) (hb : b < W.heap.size)
    (hc : ∀ i, i < es.length → W.cell? ⟨b, off + i * 2, none⟩ = some (.int .u64 ((es.getD i (0, 0)).1 : Nat)) ∧ W.cell? ⟨b, off + i * 2 + 1, none⟩ = some (.int .u64 ((es.getD i (0, 0)).2 : Nat))) :
    Calls Try.prog 39 #[.int .i64 level, .slice (some ⟨b, off, none⟩) es.length cap] W fun e w' => ∃ v, e = .returned (.tuple #[.int .i64 (k : Int), v]) ∧ w'.ownsRow W.heap.size 24 2 v es.length (flat (es.map (cutE k))) ∧ Below W.heap.size W w' := by
  have hl : (es.map (cutE k)).length = es.length := by simp
  have hk2 : k = 0 ∨ k = 1 ∨ k = 2 ∨ k = 3 ∨ k = 4 ∨ k = 5 ∨ k = 6 ∨ k = 7 := by omega
  rcases hk2 with rfl | rfl | rfl | rfl | rfl | rfl | rfl | rfl
  · exact of0 level fk b off cap es hn W hb hc _ hl fun i hi => by rw [getD_map _ hi]; exact ⟨rfl, mask_nat 0 _ 1 rfl (by decide) (getD_lt hes i)⟩
  · exact of1 level fk b off cap es hn W hb hc _ hl fun i hi => by rw [getD_map _ hi]; exact ⟨rfl, mask_nat 1 _ 3 rfl (by decide) (getD_lt hes i)⟩
  · exact of2 level fk b off cap es hn W hb hc _ hl fun i hi => by rw [getD_map _ hi]; exact ⟨rfl, mask_nat 2 _ 15 rfl (by decide) (getD_lt hes i)⟩
  · exact of3 level fk b off cap es hn W hb hc _ hl fun i hi => by rw [getD_map _ hi]; exact ⟨rfl, mask_nat 3 _ 255 rfl (by decide) (getD_lt hes i)⟩
  · exact of4 level fk b off cap es hn W hb hc _ hl fun i hi => by rw [getD_map _ hi]; exact ⟨rfl, mask_nat 4 _ 65535 rfl (by decide) (getD_lt hes i)⟩
  · exact of5 level fk b off cap es hn W hb hc _ hl fun i hi => by rw [getD_map _ hi]; exact ⟨rfl, mask_nat 5 _ 4294967295 rfl (by decide) (getD_lt hes i)⟩
  · exact of6 level fk b off cap es hn W hb hc _ hl fun i hi => by rw [getD_map _ hi]; exact ⟨rfl, rfl⟩
  · exact of7 level fk b off cap es hn W hb hc _ hl fun i hi => by rw [getD_map _ hi]; exact ⟨rfl, rfl⟩
end Go.Proofs.Ytdjndcgocmmmcaa
