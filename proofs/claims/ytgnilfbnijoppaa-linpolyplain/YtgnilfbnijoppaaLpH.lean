/- Contracts of span's eliminate and Rank for the list of 1, over the seat's translation. -/
import Derived.Test.YtgnilfbnijoppaaLpG
namespace Go.Proofs.Ytgnilfbnijoppaa
open Go.RowKit

set_option maxHeartbeats 400000 in
theorem bit_zero : Ret 22 #[.int .i64 0] (.agg #[.int .u64 0, .int .u64 1]) := by
  intro W
  go_enter Try.func22, Try.ntmps22
  go_wp2
  refine bodyPost_ret (v := .agg #[.int .u64 0, .int .u64 1]) (by simp [results, Try.results22, go_sem]) rfl ⟨rfl, ?_⟩
  go_grown
theorem add_zero_one : Ret 20 #[.agg #[.int .u64 0, .int .u64 0], .agg #[.int .u64 0, .int .u64 1]] (.agg #[.int .u64 0, .int .u64 1]) := fun W => add_any 0 0 0 1 (by decide) (by decide) (by decide) (by decide) W
theorem info_int : ∃ i, Try.prog.info? 3 = some i ∧ i.zero = some (.int .i64 0) ∧ i.size = 1 ∧ i.bytes = 8 := by
  have h : (Try.prog.info? 3).map (fun i => (i.zero, i.size, i.bytes)) = some (some (.int .i64 0), 1, 8) := by kernel_rfl
  obtain ⟨i, hi, he⟩ := Option.map_eq_some_iff.1 h
  simp only [Prod.mk.injEq] at he
  exact ⟨i, hi, he.1, he.2.1, he.2.2⟩
theorem own_slice {w : World} {base size n : Nat} {T : TypeId} {v : Value} {xs : List Value} (hn : 0 < n) (h : w.ownsRow base T size v n xs) : ∃ a c, v = .slice a n c := by
  rcases h.2 with ⟨_, h0⟩ | ⟨g, cap, cur, rfl, _⟩
  · omega
  · exact ⟨_, _, rfl⟩
/-- The rows while they are made. -/
structure Est (W w : World) (v0 v1 : Value) : Prop where
  r0 : w.cell? ⟨W.heap.size, 0, none⟩ = some (.slice none 0 0)
  r1 : w.cell? ⟨W.heap.size, 1, none⟩ = some (.slice none 0 0)
  g0 : w.frozen? ⟨W.heap.size, 0, none⟩ = false
  g1 : w.frozen? ⟨W.heap.size, 1, none⟩ = false
  s0 : w.cell? ⟨W.heap.size + 1, 0, none⟩ = some v0
  s1 : w.cell? ⟨W.heap.size + 1, 1, none⟩ = some v1
  f1 : w.frozen? ⟨W.heap.size + 1, 1, none⟩ = false
  d : Below W.heap.size W w
theorem Est.below {W w w' : World} {v0 v1 : Value} (h : Est W w v0 v1) (k : Below w.heap.size w w') : Est W w' v0 v1 :=
  ⟨keepc k h.r0, keepc k h.r1, keepf k h.r0 h.g0, keepf k h.r1 h.g1, keepc k h.s0, keepc k h.s1, keepf k h.s1 h.f1, h.d.trans (k.mono h.d.size)⟩
theorem Est.drew {W w : World} {v0 v1 : Value} (h : Est W w v0 v1) : Est W w.drew v0 v1 := ⟨h.r0, h.r1, h.g0, h.g1, h.s0, h.s1, h.f1, h.d.drew⟩
set_option maxHeartbeats 8000000 in
set_option maxRecDepth 100000 in
theorem eliminate_one (b off cap : Nat) (W : World) (hr : ERow W (some ⟨b, off, none⟩) [(0, 1)]) :
    Calls Try.prog 49 #[.slice (some ⟨b, off, none⟩) 1 cap] W fun e w' => ∃ a c v, e = .returned (.agg #[.slice a 1 c, v]) ∧ Below W.heap.size W w' := by
  obtain ⟨b', off', e1, hb, c1, c0⟩ := hr.cells 0 (by simp)
  simp only [Option.some.injEq, Addr.mk.injEq] at e1
  obtain ⟨rfl, rfl, _⟩ := e1
  simp at c1 c0
  obtain ⟨i0, hi, hz0, hz1, hz2⟩ := info_int
  have HN : Hid (Try.prog.info? 3 = some i0 ∧ i0.zero = some (.int .i64 0) ∧ i0.size = 1 ∧ i0.bytes = 8) := ⟨hi, hz0, hz1, hz2⟩
  have HRd := reduce_none (.slice none 0 0) 0 1
  have HRe : Ret 50 #[.agg #[.slice none 0 0, .slice none 0 0], .agg #[.int .u64 0, .int .u64 1]] (.tuple #[.agg #[.int .u64 0, .int .u64 1], .agg #[.int .u64 0, .int .u64 0]]) := HRd
  have HB := bit_zero
  have HA := add_zero_one
  clear hr hi hz0 hz1 hz2 HRd
  go_enter Try.func49, Try.ntmps49
  go_wp2_with fail
  go_loopw [10] (fun u wr => (u = .int .i64 0 ∧ wr = ((W.alloc (Obj.cells #[.slice none 0 0, .slice none 0 0] 80)).alloc (Obj.cells #[.slice none 0 0, .slice none 0 0] 80))) ∨ (u = .int .i64 1 ∧ ∃ a c a5 c5, Est W wr (.slice a 1 c) (.slice a5 1 c5))) (fun u _ => 1 - (intOf u).toNat)
  case atStart => exact .inl ⟨rfl, rfl⟩
  case round =>
    rcases hrel with ⟨rfl, rfl⟩ | ⟨rfl, a, c, a5, c5, hP⟩
    · have b1 : ((W.alloc (Obj.cells #[.slice none 0 0, .slice none 0 0] 80)).alloc (Obj.cells #[.slice none 0 0, .slice none 0 0] 80)).cell? ⟨b, off, none⟩ = some (.int .u64 0) := keepc (((Below.refl _ _).alloc (Nat.le_refl _) _).alloc (by simp) _) c1
      have b0 : ((W.alloc (Obj.cells #[.slice none 0 0, .slice none 0 0] 80)).alloc (Obj.cells #[.slice none 0 0, .slice none 0 0] 80)).cell? ⟨b, off + 1, none⟩ = some (.int .u64 1) := keepc (((Below.refl _ _).alloc (Nat.le_refl _) _).alloc (by simp) _) c0
      have K0 : Hid (Est W ((W.alloc (Obj.cells #[.slice none 0 0, .slice none 0 0] 80)).alloc (Obj.cells #[.slice none 0 0, .slice none 0 0] 80)) (.slice none 0 0) (.slice none 0 0)) := ⟨by simp [go_sem], by simp [go_sem], by simp [go_sem], by simp [go_sem], by simp [go_sem], by simp [go_sem], by simp [go_sem], by go_grown⟩
      have hf : Hid (((W.alloc (Obj.cells #[.slice none 0 0, .slice none 0 0] 80)).alloc (Obj.cells #[.slice none 0 0, .slice none 0 0] 80)).frozen? ⟨W.heap.size + 1, 0, none⟩ = false) := by show _ = _; simp [go_sem]
      have s0 := K0.out.s0
      have s1 := K0.out.s1
      have hne : ¬ ((W.alloc (Obj.cells #[.slice none 0 0, .slice none 0 0] 80)).alloc (Obj.cells #[.slice none 0 0, .slice none 0 0] 80)).heap.size = W.heap.size + 1 ∧ ¬ W.heap.size + 1 = ((W.alloc (Obj.cells #[.slice none 0 0, .slice none 0 0] 80)).alloc (Obj.cells #[.slice none 0 0, .slice none 0 0] 80)).heap.size := by have := cell_lt s0; omega
      generalize ((W.alloc (Obj.cells #[.slice none 0 0, .slice none 0 0] 80)).alloc (Obj.cells #[.slice none 0 0, .slice none 0 0] 80)) = w1 at *
      clear c1 c0
      have s0' : (w1.alloc (Obj.cells #[.int .u64 0, .int .u64 1] 27)).cell? ⟨W.heap.size + 1, 0, none⟩ = some (.slice none 0 0) := keepc ((Below.refl _ _).alloc (Nat.le_refl _) _) s0
      have s1' : (w1.alloc (Obj.cells #[.int .u64 0, .int .u64 1] 27)).cell? ⟨W.heap.size + 1, 1, none⟩ = some (.slice none 0 0) := keepc ((Below.refl _ _).alloc (Nat.le_refl _) _) s1
      clear s0 s1
      go_wp2_with fail
      refine (HRe.go _).mono ?_
      rintro e w2 ⟨rfl, hb2⟩
      have D2 : Below w1.heap.size w1 w2 := ((Below.refl _ _).alloc (Nat.le_refl _) _).trans (hb2.mono (by simp))
      have K2 : Hid (Est W w2 (.slice none 0 0) (.slice none 0 0)) := K0.out.below D2
      have hf2 : Hid (w2.frozen? ⟨W.heap.size + 1, 0, none⟩ = false) := keepf D2 K0.out.s0 hf.out
      clear hb2 D2 K0 b1 b0 s0' s1' hf
      go_upto_region 8 with fail
      have D3 : Below w2.heap.size w2 ((w2.alloc (Obj.cells #[.int .u64 0, .int .u64 1] 27)).alloc (Obj.cells #[.int .u64 0, .int .u64 0] 27)) := ((Below.refl _ _).alloc (Nat.le_refl _) _).alloc (by simp) _
      have K : Est W ((w2.alloc (Obj.cells #[.int .u64 0, .int .u64 1] 27)).alloc (Obj.cells #[.int .u64 0, .int .u64 0] 27)) (.slice none 0 0) (.slice none 0 0) := K2.out.below D3
      have hx : ((w2.alloc (Obj.cells #[.int .u64 0, .int .u64 1] 27)).alloc (Obj.cells #[.int .u64 0, .int .u64 0] 27)).frozen? ⟨W.heap.size + 1, 0, none⟩ = false := keepf D3 K2.out.s0 hf2.out
      have l1 : ((w2.alloc (Obj.cells #[.int .u64 0, .int .u64 1] 27)).alloc (Obj.cells #[.int .u64 0, .int .u64 0] 27)).cell? ⟨w2.heap.size, 0, none⟩ = some (.int .u64 0) := by simp [go_sem]
      have l0 : ((w2.alloc (Obj.cells #[.int .u64 0, .int .u64 1] 27)).alloc (Obj.cells #[.int .u64 0, .int .u64 0] 27)).cell? ⟨w2.heap.size, 1, none⟩ = some (.int .u64 1) := by simp [go_sem]
      have o1 : ((w2.alloc (Obj.cells #[.int .u64 0, .int .u64 1] 27)).alloc (Obj.cells #[.int .u64 0, .int .u64 0] 27)).cell? ⟨w2.heap.size + 1, 0, none⟩ = some (.int .u64 0) := by simp [go_sem]
      have o0 : ((w2.alloc (Obj.cells #[.int .u64 0, .int .u64 1] 27)).alloc (Obj.cells #[.int .u64 0, .int .u64 0] 27)).cell? ⟨w2.heap.size + 1, 1, none⟩ = some (.int .u64 0) := by simp [go_sem]
      clear D3 K2 hf2 hne
      generalize (w2.alloc (Obj.cells #[.int .u64 0, .int .u64 1] 27)).alloc (Obj.cells #[.int .u64 0, .int .u64 0] 27) = w3 at *
      generalize w2.heap.size = q at *
      have s1 := K.s1
      refine wp_region_noPanic ?_
      refine wp_region_peel (S := fun w => w.cell? ⟨q, 0, none⟩ = some (.int .u64 0) ∧ w.cell? ⟨q, 1, none⟩ = some (.int .u64 1) ∧ w.cell? ⟨q + 1, 0, none⟩ = some (.int .u64 0) ∧ w.cell? ⟨q + 1, 1, none⟩ = some (.int .u64 0) ∧ w.cell? ⟨W.heap.size + 1, 1, none⟩ = some (.slice none 0 0)) 8 (by kernel_rfl) rfl (by kernel_rfl) ?_ (fun hHeld => ?_)
      · exact ⟨l1, l0, o1, o0, s1⟩
      clear s1
      refine wpAnyH_take (i := 0) (oi := _) (v := ?_) rfl (by kernel_rfl) (by kernel_rfl) (by kernel_rfl) (fun _ _ _ h => h) (Or.inl ⟨by rfl, ?_⟩) (by assumption) ?_
      rotate_left
      · ((intro w hSw; (try dsimp only at hSw); go_simp) <;> (try with_reducible rfl))
      try simp only [Act.put]
      refine wpAnyH_take (i := 1) (oi := _) (v := ?_) rfl (by kernel_rfl) (by kernel_rfl) (by kernel_rfl) (fun _ _ _ h => h) (Or.inl ⟨by rfl, ?_⟩) (by assumption) ?_
      rotate_left
      · ((intro w hSw; (try dsimp only at hSw); go_simp) <;> (try with_reducible rfl))
      try simp only [Act.put]
      refine wpAnyH_take (i := 2) (oi := _) (v := ?_) rfl (by kernel_rfl) (by kernel_rfl) (by kernel_rfl) (fun _ _ _ h => h) (Or.inl ⟨by rfl, ?_⟩) (by assumption) ?_
      rotate_left
      · ((intro w hSw; (try dsimp only at hSw); go_simp) <;> (try with_reducible rfl))
      try simp only [Act.put]
      refine wpAnyH_take (i := 3) (oi := _) (v := ?_) rfl (by kernel_rfl) (by kernel_rfl) (by kernel_rfl) (fun _ _ _ h => h) (Or.inl ⟨by rfl, ?_⟩) (by assumption) ?_
      rotate_left
      · ((intro w hSw; (try dsimp only at hSw); go_simp) <;> (try with_reducible rfl))
      try simp only [Act.put]
      refine wpAnyH_ready (rs := [4]) (by kernel_rfl) (by simp) ?_
      refine AllReadyH.cons (o := _) rfl (fun KK hKK => ?_) AllReadyH.nil
      go_simp
      refine hKK.out _ _ ?_ (fun hHeld => ?_)
      · go_keep
      clear hKK KK
      try simp only [Act.put]
      refine wpAnyH_ready (rs := [5]) (by kernel_rfl) (by simp) ?_
      refine AllReadyH.cons (o := _) rfl (fun KK hKK => ?_) AllReadyH.nil
      go_simp
      (go_at_call 22; refine (HB.go _).mono ?_; rintro e w5 ⟨rfl, hb'⟩)
      have hx' : w5.frozen? ⟨W.heap.size + 1, 0, none⟩ = false := keepf hb' K.s0 hx
      have K' := Est.below (w' := w5) (by first | exact K | exact K.drew) hb'
      have l1' : w5.cell? ⟨q, 0, none⟩ = some (.int .u64 0) := keepc hb' l1
      have l0' : w5.cell? ⟨q, 1, none⟩ = some (.int .u64 1) := keepc hb' l0
      have o1' : w5.cell? ⟨q + 1, 0, none⟩ = some (.int .u64 0) := keepc hb' o1
      have o0' : w5.cell? ⟨q + 1, 1, none⟩ = some (.int .u64 0) := keepc hb' o0
      clear hb' hx K l1 l0 o1 o0 hHeld
      refine hKK.out _ _ ?_ (fun hHeld => ?_)
      · exact ⟨l1', l0', o1', o0', K'.s1⟩
      clear hKK KK
      try simp only [Act.put]
      have hx := hx'
      have K := K'
      have l1 := l1'
      have l0 := l0'
      have o1 := o1'
      have o0 := o0'
      clear hx' K' l1' l0' o1' o0'
      refine wpAnyH_ready (rs := [6]) (by kernel_rfl) (by simp) ?_
      refine AllReadyH.cons (o := _) rfl (fun KK hKK => ?_) AllReadyH.nil
      go_simp
      (go_at_call 20; refine (HA.go _).mono ?_; rintro e w6 ⟨rfl, hb'⟩)
      have hx' : w6.frozen? ⟨W.heap.size + 1, 0, none⟩ = false := keepf hb' K.s0 hx
      have K' := Est.below (w' := w6) (by first | exact K | exact K.drew) hb'
      have l1' : w6.cell? ⟨q, 0, none⟩ = some (.int .u64 0) := keepc hb' l1
      have l0' : w6.cell? ⟨q, 1, none⟩ = some (.int .u64 1) := keepc hb' l0
      have o1' : w6.cell? ⟨q + 1, 0, none⟩ = some (.int .u64 0) := keepc hb' o1
      have o0' : w6.cell? ⟨q + 1, 1, none⟩ = some (.int .u64 0) := keepc hb' o0
      clear hb' hx K l1 l0 o1 o0 hHeld
      refine hKK.out _ _ ?_ (fun hHeld => ?_)
      · exact ⟨l1', l0', o1', o0', K'.s1⟩
      clear hKK KK
      try simp only [Act.put]
      have hx := hx'
      have K := K'
      have l1 := l1'
      have l0 := l0'
      have o1 := o1'
      have o0 := o0'
      clear hx' K' l1' l0' o1' o0'
      refine wpAnyH_take (i := 7) (oi := _) (v := ?_) rfl (by kernel_rfl) (by kernel_rfl) (by kernel_rfl) (fun _ _ _ h => h) (Or.inl ⟨by rfl, ?_⟩) (by assumption) ?_
      rotate_left
      · ((intro w hSw; (try dsimp only at hSw); go_simp) <;> (try with_reducible rfl))
      try simp only [Act.put]
      refine wpAnyH_done (by kernel_rfl) ?_ _
      refine peel_last rfl (fun KK hKK => ?_)
      clear hHeld l1 l0 o1 o0
      go_simp
      refine (add_none (W.heap.size + 1) 0 1 0 1 1 _ w6 (cell_lt K.s0) K.s0 hx K.s1 K.f1 long_one).mono ?_
      rintro e w9 ⟨a, c, rfl, s0', s1', f1', hB9⟩
      have hb9 := hB9.block W.heap.size (by omega)
      have K9 : Hid (Est W w9 (.slice a 1 c) (.slice none 0 0)) := ⟨by rw [World.cell?_of_block (w := w6) hb9]; exact K.r0, by rw [World.cell?_of_block (w := w6) hb9]; exact K.r1, by rw [World.frozen?_of_block (w := w6) hb9]; exact K.g0, by rw [World.frozen?_of_block (w := w6) hb9]; exact K.g1, s0', s1', f1', K.d.trans (hB9.mono (by omega))⟩
      have hw9 : W.heap.size + 1 < w9.heap.size := cell_lt s0'
      clear s0' hB9 hb9 K hx f1'
      refine hKK _ _ ?_
      refine NoPanic.normal ?_
      clear hKK KK
      go_wp2_with (at_builtin; refine wpList_append_own _ rfl _ _ 47 rfl (W.heap.size + 1 + 1) 3 i0 (.int .i64 0) 1 8 Try.underlying47 HN.out.1 HN.out.2.1 HN.out.2.2.1 HN.out.2.2.2 rfl (by decide) (.slice none 0 0) 0 [] rfl (World.ownsRow_nil _ _ _ _) ⟨w9.heap.size, 0, none⟩ 1 1 [.int .i64 0] rfl rfl (fun p u hu => by rcases p with _ | p <;> simp at hu <;> subst hu <;> simp [go_sem]) (by intro u hu; simp at hu; subst hu; rfl) (by decide) (by decide) (by simp; omega) ?_; intro v' w' hown hgr _; obtain ⟨a5, c5, rfl⟩ := own_slice (by decide) hown; have BB : Below w9.heap.size w9 w' := ((Below.refl _ _).alloc (Nat.le_refl _) _).grown hgr (by simp) (fun k hk => by simp [Value.ownBlock] at hk); have K10 : Hid (Est W w' (.slice a 1 c) (.slice none 0 0)) := K9.out.below BB; have y1 := K10.out.s1; have y2 := K10.out.f1; clear BB hgr)
      exact ⟨.inr ⟨by simp, a, c, a5, c5, ⟨by simp [go_sem, K10.out.r0], by simp [go_sem, K10.out.r1], by simp [go_sem, K10.out.g0], by simp [go_sem, K10.out.g1], by simp [go_sem, K10.out.s0], by simp [go_sem, y1], by simp [go_sem, y2], K10.out.d.setCell (by simp) _⟩⟩, by simp [intOf]⟩
    · have s0 := hP.s0
      have s1 := hP.s1
      have r0 := hP.r0
      have r1 := hP.r1
      have g0 := hP.g0
      have g1 := hP.g1
      have HD : Hid (Below W.heap.size W wr) := hP.d
      have hlt := cell_lt hP.s0
      clear hP
      go_wp2
      refine bodyPost_ret (v := .agg #[.slice a 1 c, .slice a5 1 c5]) (by simp [results, Try.results49, go_sem, *]) rfl ⟨_, _, _, rfl, ?_⟩
      exact below2 (p := W.heap.size) HD.out (Nat.le_refl _) _ _
end Go.Proofs.Ytgnilfbnijoppaa
