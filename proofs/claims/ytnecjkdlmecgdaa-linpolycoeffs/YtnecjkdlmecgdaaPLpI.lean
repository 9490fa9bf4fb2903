/- Contracts of span's eliminate and Rank for the list of 1, over the seat's translation. -/
import Derived.Test.YtnecjkdlmecgdaaPLpG
import Derived.Test.YtnecjkdlmecgdaaTwX
import Derived.Deep.RegionHeld3
namespace Go.Proofs.Ytnecjkdlmecgdaa
open Go.RowKit

set_option maxHeartbeats 400000 in
theorem bit_zero : Ret 73 #[.int .i64 0] (.agg #[.int .u64 0, .int .u64 1]) := by
  intro W
  go_enter Try.func73, Try.ntmps73
  go_wp2
  refine bodyPost_ret (v := .agg #[.int .u64 0, .int .u64 1]) (by simp [results, Try.results73, go_sem]) rfl ⟨rfl, ?_⟩
  go_grown
theorem add_zero_one : Ret 20 #[.agg #[.int .u64 0, .int .u64 0], .agg #[.int .u64 0, .int .u64 1]] (.agg #[.int .u64 0, .int .u64 1]) := fun W => add_any 0 0 0 1 (by decide) (by decide) (by decide) (by decide) W
theorem info_int : ∃ i, Try.prog.info? 3 = some i ∧ i.zero = some (.int .i64 0) ∧ i.size = 1 ∧ i.bytes = 8 := by
  have h : (Try.prog.info? 3).map (fun i => (i.zero, i.size, i.bytes)) = some (some (.int .i64 0), 1, 8) := by kernel_rfl
  obtain ⟨i, hi, he⟩ := Option.map_eq_some_iff.1 h
  simp only [Prod.mk.injEq] at he
  exact ⟨i, hi, he.1, he.2.1, he.2.2⟩
theorem own_slice {w : World} {base size n : Nat} {T : TypeId} {v : Value} {xs : List Value} (hn : 0 < n) (h : w.ownsRow base T size v n xs) : ∃ a c, v = .slice a n c := by
  rcases h.2 with ⟨_, h0⟩ | ⟨g, cap, cur, rfl, _⟩
  · omega
  · exact ⟨_, _, rfl⟩
/-- The rows while they are made. -/
structure Est (W w : World) (v0 v1 : Value) : Prop where
  r0 : w.cell? ⟨W.heap.size, 0, none⟩ = some (.slice none 0 0)
  r1 : w.cell? ⟨W.heap.size, 1, none⟩ = some (.slice none 0 0)
  g0 : w.frozen? ⟨W.heap.size, 0, none⟩ = false
  g1 : w.frozen? ⟨W.heap.size, 1, none⟩ = false
  s0 : w.cell? ⟨W.heap.size + 1, 0, none⟩ = some v0
  s1 : w.cell? ⟨W.heap.size + 1, 1, none⟩ = some v1
  f1 : w.frozen? ⟨W.heap.size + 1, 1, none⟩ = false
  d : Below W.heap.size W w
theorem Est.below {W w w' : World} {v0 v1 : Value} (h : Est W w v0 v1) (k : Below w.heap.size w w') : Est W w' v0 v1 :=
  ⟨keepc k h.r0, keepc k h.r1, keepf k h.r0 h.g0, keepf k h.r1 h.g1, keepc k h.s0, keepc k h.s1, keepf k h.s1 h.f1, h.d.trans (k.mono h.d.size)⟩
theorem Est.drew {W w : World} {v0 v1 : Value} (h : Est W w v0 v1) : Est W w.drew v0 v1 := ⟨h.r0, h.r1, h.g0, h.g1, h.s0, h.s1, h.f1, h.d.drew⟩
set_option maxHeartbeats 8000000 in
set_option maxRecDepth 100000 in
theorem eliminate_one (b off cap : Nat) (W : World) (hr : ERow W (some ⟨b, off, none⟩) [(0, 1)]) :
    Calls Try.prog 56 #[.slice (some ⟨b, off, none⟩) 1 cap] W fun e w' => ∃ a c v, e = .returned (.agg #[.slice a 1 c, v]) ∧ Below W.heap.size W w' := by
  obtain ⟨b', off', e1, hb, c1, c0⟩ := hr.cells 0 (by simp)
  simp only [Option.some.injEq, Addr.mk.injEq] at e1
  obtain ⟨rfl, rfl, _⟩ := e1
  simp at c1 c0
  obtain ⟨i0, hi, hz0, hz1, hz2⟩ := info_int
  have HN : Hid (Try.prog.info? 3 = some i0 ∧ i0.zero = some (.int .i64 0) ∧ i0.size = 1 ∧ i0.bytes = 8) := ⟨hi, hz0, hz1, hz2⟩
  have HRd := reduce_none (.slice none 0 0) 0 1
  have HRe : Ret 57 #[.agg #[.slice none 0 0, .slice none 0 0], .agg #[.int .u64 0, .int .u64 1]] (.tuple #[.agg #[.int .u64 0, .int .u64 1], .agg #[.int .u64 0, .int .u64 0]]) := HRd
  have HB := bit_zero
  have HA := add_zero_one
  clear hr hi hz0 hz1 hz2 HRd
  go_enter Try.func56, Try.ntmps56
  go_wp2_with fail
  go_loopw [10] (fun u wr => (u = .int .i64 0 ∧ wr = ((W.alloc (Obj.cells #[.slice none 0 0, .slice none 0 0] 88)).alloc (Obj.cells #[.slice none 0 0, .slice none 0 0] 88))) ∨ (u = .int .i64 1 ∧ ∃ a c a5 c5, Est W wr (.slice a 1 c) (.slice a5 1 c5))) (fun u _ => 1 - (intOf u).toNat)
  case atStart => exact .inl ⟨rfl, rfl⟩
  case round =>
    rcases hrel with ⟨rfl, rfl⟩ | ⟨rfl, a, c, a5, c5, hP⟩
    · have b1 : ((W.alloc (Obj.cells #[.slice none 0 0, .slice none 0 0] 88)).alloc (Obj.cells #[.slice none 0 0, .slice none 0 0] 88)).cell? ⟨b, off, none⟩ = some (.int .u64 0) := keepc (((Below.refl _ _).alloc (Nat.le_refl _) _).alloc (by simp) _) c1
      have b0 : ((W.alloc (Obj.cells #[.slice none 0 0, .slice none 0 0] 88)).alloc (Obj.cells #[.slice none 0 0, .slice none 0 0] 88)).cell? ⟨b, off + 1, none⟩ = some (.int .u64 1) := keepc (((Below.refl _ _).alloc (Nat.le_refl _) _).alloc (by simp) _) c0
      have K0 : Hid (Est W ((W.alloc (Obj.cells #[.slice none 0 0, .slice none 0 0] 88)).alloc (Obj.cells #[.slice none 0 0, .slice none 0 0] 88)) (.slice none 0 0) (.slice none 0 0)) := ⟨by simp [go_sem], by simp [go_sem], by simp [go_sem], by simp [go_sem], by simp [go_sem], by simp [go_sem], by simp [go_sem], by go_grown⟩
      have hf : Hid (((W.alloc (Obj.cells #[.slice none 0 0, .slice none 0 0] 88)).alloc (Obj.cells #[.slice none 0 0, .slice none 0 0] 88)).frozen? ⟨W.heap.size + 1, 0, none⟩ = false) := by show _ = _; simp [go_sem]
      have s0 := K0.out.s0
      have s1 := K0.out.s1
      have hne : ¬ ((W.alloc (Obj.cells #[.slice none 0 0, .slice none 0 0] 88)).alloc (Obj.cells #[.slice none 0 0, .slice none 0 0] 88)).heap.size = W.heap.size + 1 ∧ ¬ W.heap.size + 1 = ((W.alloc (Obj.cells #[.slice none 0 0, .slice none 0 0] 88)).alloc (Obj.cells #[.slice none 0 0, .slice none 0 0] 88)).heap.size := by have := cell_lt s0; omega
      generalize ((W.alloc (Obj.cells #[.slice none 0 0, .slice none 0 0] 88)).alloc (Obj.cells #[.slice none 0 0, .slice none 0 0] 88)) = w1 at *
      clear c1 c0
      have s0' : (w1.alloc (Obj.cells #[.int .u64 0, .int .u64 1] 27)).cell? ⟨W.heap.size + 1, 0, none⟩ = some (.slice none 0 0) := keepc ((Below.refl _ _).alloc (Nat.le_refl _) _) s0
      have s1' : (w1.alloc (Obj.cells #[.int .u64 0, .int .u64 1] 27)).cell? ⟨W.heap.size + 1, 1, none⟩ = some (.slice none 0 0) := keepc ((Below.refl _ _).alloc (Nat.le_refl _) _) s1
      clear s0 s1
      go_wp2_with fail
      refine (HRe.go _).mono ?_
      rintro e w2 ⟨rfl, hb2⟩
      have D2 : Below w1.heap.size w1 w2 := ((Below.refl _ _).alloc (Nat.le_refl _) _).trans (hb2.mono (by simp))
      have K2 : Hid (Est W w2 (.slice none 0 0) (.slice none 0 0)) := K0.out.below D2
      have hf2 : Hid (w2.frozen? ⟨W.heap.size + 1, 0, none⟩ = false) := keepf D2 K0.out.s0 hf.out
      clear hb2 D2 K0 b1 b0 s0' s1' hf
      go_upto_region 8 with fail
      have D3 : Below w2.heap.size w2 ((w2.alloc (Obj.cells #[.int .u64 0, .int .u64 1] 27)).alloc (Obj.cells #[.int .u64 0, .int .u64 0] 27)) := ((Below.refl _ _).alloc (Nat.le_refl _) _).alloc (by simp) _
      have K : Est W ((w2.alloc (Obj.cells #[.int .u64 0, .int .u64 1] 27)).alloc (Obj.cells #[.int .u64 0, .int .u64 0] 27)) (.slice none 0 0) (.slice none 0 0) := K2.out.below D3
      have hx : ((w2.alloc (Obj.cells #[.int .u64 0, .int .u64 1] 27)).alloc (Obj.cells #[.int .u64 0, .int .u64 0] 27)).frozen? ⟨W.heap.size + 1, 0, none⟩ = false := keepf D3 K2.out.s0 hf2.out
      have l1 : ((w2.alloc (Obj.cells #[.int .u64 0, .int .u64 1] 27)).alloc (Obj.cells #[.int .u64 0, .int .u64 0] 27)).cell? ⟨w2.heap.size, 0, none⟩ = some (.int .u64 0) := by simp [go_sem]
      have l0 : ((w2.alloc (Obj.cells #[.int .u64 0, .int .u64 1] 27)).alloc (Obj.cells #[.int .u64 0, .int .u64 0] 27)).cell? ⟨w2.heap.size, 1, none⟩ = some (.int .u64 1) := by simp [go_sem]
      have o1 : ((w2.alloc (Obj.cells #[.int .u64 0, .int .u64 1] 27)).alloc (Obj.cells #[.int .u64 0, .int .u64 0] 27)).cell? ⟨w2.heap.size + 1, 0, none⟩ = some (.int .u64 0) := by simp [go_sem]
      have o0 : ((w2.alloc (Obj.cells #[.int .u64 0, .int .u64 1] 27)).alloc (Obj.cells #[.int .u64 0, .int .u64 0] 27)).cell? ⟨w2.heap.size + 1, 1, none⟩ = some (.int .u64 0) := by simp [go_sem]
      clear D3 K2 hf2 hne
      generalize (w2.alloc (Obj.cells #[.int .u64 0, .int .u64 1] 27)).alloc (Obj.cells #[.int .u64 0, .int .u64 0] 27) = w3 at *
      generalize w2.heap.size = q at *
      have s1 := K.s1
      refine wp_region_noPanic ?_
      refine wp_region_peel (S := fun w => w.cell? ⟨q, 0, none⟩ = some (.int .u64 0) ∧ w.cell? ⟨q, 1, none⟩ = some (.int .u64 1) ∧ w.cell? ⟨q + 1, 0, none⟩ = some (.int .u64 0) ∧ w.cell? ⟨q + 1, 1, none⟩ = some (.int .u64 0) ∧ w.cell? ⟨W.heap.size + 1, 1, none⟩ = some (.slice none 0 0)) 8 (by kernel_rfl) rfl (by kernel_rfl) ?_ (fun hHeld => ?_)
      · exact ⟨l1, l0, o1, o0, s1⟩
      clear s1
      refine wpAnyH_take (i := 0) (oi := _) (v := ?_) rfl (by kernel_rfl) (by kernel_rfl) (by kernel_rfl) (fun _ _ _ h => h) (Or.inl ⟨by rfl, ?_⟩) (by assumption) ?_
      rotate_left
      · ((intro w hSw; (try dsimp only at hSw); go_simp) <;> (try with_reducible rfl))
      try simp only [Act.put]
      refine wpAnyH_take (i := 1) (oi := _) (v := ?_) rfl (by kernel_rfl) (by kernel_rfl) (by kernel_rfl) (fun _ _ _ h => h) (Or.inl ⟨by rfl, ?_⟩) (by assumption) ?_
      rotate_left
      · ((intro w hSw; (try dsimp only at hSw); go_simp) <;> (try with_reducible rfl))
      try simp only [Act.put]
      refine wpAnyH_take (i := 2) (oi := _) (v := ?_) rfl (by kernel_rfl) (by kernel_rfl) (by kernel_rfl) (fun _ _ _ h => h) (Or.inl ⟨by rfl, ?_⟩) (by assumption) ?_
      rotate_left
      · ((intro w hSw; (try dsimp only at hSw); go_simp) <;> (try with_reducible rfl))
      try simp only [Act.put]
      refine wpAnyH_take (i := 3) (oi := _) (v := ?_) rfl (by kernel_rfl) (by kernel_rfl) (by kernel_rfl) (fun _ _ _ h => h) (Or.inl ⟨by rfl, ?_⟩) (by assumption) ?_
      rotate_left
      · ((intro w hSw; (try dsimp only at hSw); go_simp) <;> (try with_reducible rfl))
      try simp only [Act.put]
      refine wpAnyH_ready (rs := [4]) (by kernel_rfl) (by simp) ?_
      refine AllReadyH.cons (o := _) rfl (fun KK hKK => ?_) AllReadyH.nil
      go_simp
      refine hKK.out _ _ ?_ (fun hHeld => ?_)
      · go_keep
      clear hKK KK
      try simp only [Act.put]
      refine wpAnyH_ready (rs := [5]) (by kernel_rfl) (by simp) ?_
      refine AllReadyH.cons (o := _) rfl (fun KK hKK => ?_) AllReadyH.nil
      go_simp
      (go_at_call 73; refine (HB.go _).mono ?_; rintro e w5 ⟨rfl, hb'⟩)
      have hx' : w5.frozen? ⟨W.heap.size + 1, 0, none⟩ = false := keepf hb' K.s0 hx
      have K' := Est.below (w' := w5) (by first | exact K | exact K.drew) hb'
      have l1' : w5.cell? ⟨q, 0, none⟩ = some (.int .u64 0) := keepc hb' l1
      have l0' : w5.cell? ⟨q, 1, none⟩ = some (.int .u64 1) := keepc hb' l0
      have o1' : w5.cell? ⟨q + 1, 0, none⟩ = some (.int .u64 0) := keepc hb' o1
      have o0' : w5.cell? ⟨q + 1, 1, none⟩ = some (.int .u64 0) := keepc hb' o0
      clear hb' hx K l1 l0 o1 o0 hHeld
      refine hKK.out _ _ ?_ (fun hHeld => ?_)
      · exact ⟨l1', l0', o1', o0', K'.s1⟩
      clear hKK KK
      try simp only [Act.put]
      have hx := hx'
      have K := K'
      have l1 := l1'
      have l0 := l0'
      have o1 := o1'
      have o0 := o0'
      clear hx' K' l1' l0' o1' o0'
      refine wpAnyH_ready (rs := [6]) (by kernel_rfl) (by simp) ?_
      refine AllReadyH.cons (o := _) rfl (fun KK hKK => ?_) AllReadyH.nil
      go_simp
      (go_at_call 20; refine (HA.go _).mono ?_; rintro e w6 ⟨rfl, hb'⟩)
      have hx' : w6.frozen? ⟨W.heap.size + 1, 0, none⟩ = false := keepf hb' K.s0 hx
      have K' := Est.below (w' := w6) (by first | exact K | exact K.drew) hb'
      have l1' : w6.cell? ⟨q, 0, none⟩ = some (.int .u64 0) := keepc hb' l1
      have l0' : w6.cell? ⟨q, 1, none⟩ = some (.int .u64 1) := keepc hb' l0
      have o1' : w6.cell? ⟨q + 1, 0, none⟩ = some (.int .u64 0) := keepc hb' o1
      have o0' : w6.cell? ⟨q + 1, 1, none⟩ = some (.int .u64 0) := keepc hb' o0
      clear hb' hx K l1 l0 o1 o0 hHeld
      refine hKK.out _ _ ?_ (fun hHeld => ?_)
      · exact ⟨l1', l0', o1', o0', K'.s1⟩
      clear hKK KK
      try simp only [Act.put]
      have hx := hx'
      have K := K'
      have l1 := l1'
      have l0 := l0'
      have o1 := o1'
      have o0 := o0'
      clear hx' K' l1' l0' o1' o0'
      refine wpAnyH_take (i := 7) (oi := _) (v := ?_) rfl (by kernel_rfl) (by kernel_rfl) (by kernel_rfl) (fun _ _ _ h => h) (Or.inl ⟨by rfl, ?_⟩) (by assumption) ?_
      rotate_left
      · ((intro w hSw; (try dsimp only at hSw); go_simp) <;> (try with_reducible rfl))
      try simp only [Act.put]
      refine wpAnyH_done (by kernel_rfl) ?_ _
      refine peel_last rfl (fun KK hKK => ?_)
      clear hHeld l1 l0 o1 o0
      go_simp
      refine (add_none (W.heap.size + 1) 0 1 0 1 1 _ w6 (cell_lt K.s0) K.s0 hx K.s1 K.f1 long_one).mono ?_
      rintro e w9 ⟨a, c, rfl, s0', s1', f1', hB9⟩
      have hb9 := hB9.block W.heap.size (by omega)
      have K9 : Hid (Est W w9 (.slice a 1 c) (.slice none 0 0)) := ⟨by rw [World.cell?_of_block (w := w6) hb9]; exact K.r0, by rw [World.cell?_of_block (w := w6) hb9]; exact K.r1, by rw [World.frozen?_of_block (w := w6) hb9]; exact K.g0, by rw [World.frozen?_of_block (w := w6) hb9]; exact K.g1, s0', s1', f1', K.d.trans (hB9.mono (by omega))⟩
      have hw9 : W.heap.size + 1 < w9.heap.size := cell_lt s0'
      clear s0' hB9 hb9 K hx f1'
      refine hKK _ _ ?_
      refine NoPanic.normal ?_
      clear hKK KK
      go_wp2_with (at_builtin; refine wpList_append_own _ rfl _ _ 79 rfl (W.heap.size + 1 + 1) 3 i0 (.int .i64 0) 1 8 Try.underlying79 HN.out.1 HN.out.2.1 HN.out.2.2.1 HN.out.2.2.2 rfl (by decide) (.slice none 0 0) 0 [] rfl (World.ownsRow_nil _ _ _ _) ⟨w9.heap.size, 0, none⟩ 1 1 [.int .i64 0] rfl rfl (fun p u hu => by rcases p with _ | p <;> simp at hu <;> subst hu <;> simp [go_sem]) (by intro u hu; simp at hu; subst hu; rfl) (by decide) (by decide) (by simp; omega) ?_; intro v' w' hown hgr _; obtain ⟨a5, c5, rfl⟩ := own_slice (by decide) hown; have BB : Below w9.heap.size w9 w' := ((Below.refl _ _).alloc (Nat.le_refl _) _).grown hgr (by simp) (fun k hk => by simp [Value.ownBlock] at hk); have K10 : Hid (Est W w' (.slice a 1 c) (.slice none 0 0)) := K9.out.below BB; have y1 := K10.out.s1; have y2 := K10.out.f1; clear BB hgr)
      exact ⟨.inr ⟨by simp, a, c, a5, c5, ⟨by simp [go_sem, K10.out.r0], by simp [go_sem, K10.out.r1], by simp [go_sem, K10.out.g0], by simp [go_sem, K10.out.g1], by simp [go_sem, K10.out.s0], by simp [go_sem, y1], by simp [go_sem, y2], K10.out.d.setCell (by simp) _⟩⟩, by simp [intOf]⟩
    · have s0 := hP.s0
      have s1 := hP.s1
      have r0 := hP.r0
      have r1 := hP.r1
      have g0 := hP.g0
      have g1 := hP.g1
      have HD : Hid (Below W.heap.size W wr) := hP.d
      have hlt := cell_lt hP.s0
      clear hP
      go_wp2
      refine bodyPost_ret (v := .agg #[.slice a 1 c, .slice a5 1 c5]) (by simp [results, Try.results56, go_sem, *]) rfl ⟨_, _, _, rfl, ?_⟩
      exact below2 (p := W.heap.size) HD.out (Nat.le_refl _) _ _
end Go.Proofs.Ytnecjkdlmecgdaa

/- The page's example of layer 5: contracts of span.Rank, linpoly.New, has and Value at it, and steeplelaw05.awake, over the seat's translation. -/
namespace Go.Proofs.Ytnecjkdlmecgdaa
open Go.RowKit

theorem field_rows (a : Option Addr) (n c : Nat) (v : Value) (w : World) : (Instr.field 88 (.agg #[.slice a n c, v]) 0).run Try.prog w = .ok (.slice a n c) w := by
  simp [Instr.field, asAgg, go_sem]
set_option maxHeartbeats 400000 in
set_option maxRecDepth 100000 in
theorem rank_one (b off cap : Nat) (W : World) (hr : ERow W (some ⟨b, off, none⟩) [(0, 1)]) : Calls Try.prog 42 #[.slice (some ⟨b, off, none⟩) 1 cap] W fun e w' => e = .returned (.int .i64 1) ∧ Below W.heap.size W w' := by
  go_enter Try.func42, Try.ntmps42
  go_wp2_with fail
  refine (eliminate_one b off cap _ hr).mono ?_
  rintro e w1 ⟨a, c, v, rfl, hb⟩
  have hf := field_rows a 1 c v
  go_wp2
  go_ret
  exact ⟨rfl, hb⟩
set_option maxHeartbeats 400000 in
theorem lin_level_one : Ret 40 #[.int .i64 1] (.bool true) := by
  intro W
  go_enter Try.func40, Try.ntmps40
  go_wp2
  go_ret
  exact ⟨by simp, by first | exact Below.refl _ _ | go_grown⟩
theorem inv_one : Ret 65 #[.int .i64 1, .agg #[.int .u64 0, .int .u64 1]] (.agg #[.int .u64 ((Tw.ivh 0 1 : Nat) : Int), .int .u64 ((Tw.ivl 0 1 : Nat) : Int)]) := inv_of 1 0 1 (by decide) (by decide) (by decide)
theorem of_one_one : Ret 54 #[.int .i64 1, .agg #[.int .u64 0, .int .u64 1]] (.bool true) := by
  have := of_ret 1 0 1 (by decide)
  rwa [show ofB 1 (0 : Nat) (1 : Nat) = true by decide] at this
theorem of_one_two : Ret 54 #[.int .i64 1, .agg #[.int .u64 0, .int .u64 2]] (.bool true) := by
  have := of_ret 1 0 2 (by decide)
  rwa [show ofB 1 (0 : Nat) (2 : Nat) = true by decide] at this
/-- A space of level 1 whose basis is 1. -/
structure Spc (w : World) (B : Nat) : Prop where
  lt : B < w.heap.size
  c0 : w.cell? ⟨B, 0, none⟩ = some (.int .i64 1)
  c1 : ∃ a c, w.cell? ⟨B, 1, none⟩ = some (.slice a 1 c)
  c2 : ∃ a c, w.cell? ⟨B, 2, none⟩ = some (.slice a 1 c) ∧ ERow w a [(0, 1)]
theorem Spc.below {w w' : World} {B : Nat} (h : Spc w B) (k : Below w.heap.size w w') : Spc w' B := by
  obtain ⟨h1, h2, ⟨a, c, h3⟩, a2, c2, h4, h5⟩ := h
  exact ⟨Nat.lt_of_lt_of_le h1 k.size, keepc k h2, ⟨a, c, keepc k h3⟩, a2, c2, keepc k h4, h5.below k⟩
set_option maxHeartbeats 2000000 in
set_option maxRecDepth 100000 in
theorem new_one (b off cap : Nat) (W : World) (hr : ERow W (some ⟨b, off, none⟩) [(0, 1)]) : Calls Try.prog 10 #[.int .i64 1, .slice (some ⟨b, off, none⟩) 1 cap] W fun e w' => ∃ B, e = .returned (.tuple #[.pointer (some ⟨B, 0, none⟩), .int .i64 0]) ∧ Spc w' B ∧ Below W.heap.size W w' := by
  have HL := lin_level_one
  go_enter Try.func10, Try.ntmps10
  go_wp2_with fail
  refine (HL.go _).mono ?_
  rintro e w1 ⟨rfl, hb1⟩
  have HR1 : Hid (ERow w1 (some ⟨b, off, none⟩) [(0, 1)]) := hr.below hb1
  have HD1 : Hid (Below W.heap.size W w1) := hb1
  clear hb1 HL hr
  go_wp2_with fail
  refine (allOf_row 1 _ cap [(0, 1)] w1 HR1.out (by decide) (fun j hj => ?_)).mono ?_
  · obtain rfl : j = 0 := by simp at hj; exact hj
    exact of_one_one
  rintro e w2 ⟨rfl, hb2⟩
  have HR2 : Hid (ERow w2 (some ⟨b, off, none⟩) [(0, 1)]) := HR1.out.below hb2
  have HD2 : Hid (Below W.heap.size W w2) := HD1.out.trans (hb2.mono HD1.out.size)
  clear hb2 HR1 HD1
  go_wp2_with fail
  refine (rank_one b off cap w2 HR2.out).mono ?_
  rintro e w3 ⟨rfl, hb3⟩
  have HR3 : Hid (ERow w3 (some ⟨b, off, none⟩) [(0, 1)]) := HR2.out.below hb3
  have HD3 : Hid (Below W.heap.size W w3) := HD2.out.trans (hb3.mono HD2.out.size)
  clear hb3 HR2 HD2
  go_wp2_with fail
  refine (clone_row b off cap [(0, 1)] (by decide) w3 HR3.out).mono ?_
  rintro e w4 ⟨a', cap', rfl, hE, hb4⟩
  obtain ⟨b', off', rfl, _, _, _⟩ := hE.cells 0 (by simp)
  have HD4 : Hid (Below W.heap.size W w4) := HD3.out.trans (hb4.mono HD3.out.size)
  have HE : Hid (ERow w4 (some ⟨b', off', none⟩) [(0, 1)]) := hE
  clear hb4 HR3 HD3 hE
  go_wp2_with fail
  refine (made_one 1 b' off' cap' 0 1 _ _ w4 HE.out inv_one).mono ?_
  rintro e w5 ⟨a2, c2, a3, c3, rfl, hP, hE5⟩
  have HS : Hid (Spc w5 w4.heap.size) := ⟨cell_lt hP.c0, hP.c0, ⟨_, _, hP.c1⟩, a2, c2, hP.c2, hE5⟩
  have HD5 : Hid (Below W.heap.size W w5) := HD4.out.trans (hP.d.mono HD4.out.size)
  clear hP hE5 HE HD4
  go_wp2
  go_ret2
  exact ⟨_, rfl, HS.out, HD5.out⟩
set_option maxHeartbeats 4000000 in
set_option maxRecDepth 100000 in
theorem has_one (B : Nat) (W : World) (hS : Spc W B) : Calls Try.prog 46 #[.pointer (some ⟨B, 0, none⟩), .int .i64 1, .agg #[.int .u64 0, .int .u64 2]] W fun e w' => e = .returned (.bool true) ∧ Below W.heap.size W w' := by
  have HO := of_one_two
  obtain ⟨hB, c0, ⟨a, c, c1⟩, _⟩ := hS
  go_enter Try.func46, Try.ntmps46
  go_upto_region 1 with fail
  have D : Below W.heap.size W (W.alloc (Obj.cells #[.int .u64 0, .int .u64 2] 27)) := (Below.refl _ _).alloc (Nat.le_refl _) _
  have F : (W.alloc (Obj.cells #[.int .u64 0, .int .u64 2] 27)).cell? ⟨W.heap.size, 0, none⟩ = some (.int .u64 0) ∧ (W.alloc (Obj.cells #[.int .u64 0, .int .u64 2] 27)).cell? ⟨W.heap.size, 1, none⟩ = some (.int .u64 2) ∧ (W.alloc (Obj.cells #[.int .u64 0, .int .u64 2] 27)).cell? ⟨B, 0, none⟩ = some (.int .i64 1) ∧ (W.alloc (Obj.cells #[.int .u64 0, .int .u64 2] 27)).cell? ⟨B, 1, none⟩ = some (.slice a 1 c) := ⟨by simp [go_sem], by simp [go_sem], keepc D c0, keepc D c1⟩
  clear c0 c1
  generalize W.alloc (Obj.cells #[.int .u64 0, .int .u64 2] 27) = w1 at *
  go_region_held3 (fun w => w.cell? ⟨W.heap.size, 0, none⟩ = some (.int .u64 0) ∧ w.cell? ⟨W.heap.size, 1, none⟩ = some (.int .u64 2) ∧ w.cell? ⟨B, 0, none⟩ = some (.int .i64 1) ∧ w.cell? ⟨B, 1, none⟩ = some (.slice a 1 c)) (go_keep) (first | (go_at_call 54; refine (HO.go _).mono ?_; rintro e w' ⟨rfl, hb'⟩; have F' := And.intro (keepc hb' F.1) (And.intro (keepc hb' F.2.1) (And.intro (keepc hb' F.2.2.1) (keepc hb' F.2.2.2))); have D' : Below W.heap.size W w' := (D.drew).trans (hb'.mono D.size); clear F D hb'; have F := F'; have D := D'; clear F' D'))
  all_goals
    go_wp2
    go_ret
    exact ⟨by simp, D⟩
theorem mul_two_three : Ret 51 #[.int .i64 1, .agg #[.int .u64 0, .int .u64 2], .agg #[.int .u64 0, .int .u64 3]] (.agg #[.int .u64 0, .int .u64 1]) := fun W => by
  have h := mul_of 1 0 2 0 3 (by decide) (by decide) (by decide) (by decide) (by decide) (by decide) W
  rw [show Tw.pmh 0 2 0 3 = 0 by decide +kernel, show Tw.pml 0 2 0 3 = 1 by decide +kernel] at h
  exact h
theorem add_two_one : Ret 20 #[.agg #[.int .u64 0, .int .u64 2], .agg #[.int .u64 0, .int .u64 1]] (.agg #[.int .u64 0, .int .u64 3]) := fun W => add_any 0 2 0 1 (by decide) (by decide) (by decide) (by decide) W
theorem value_one (B : Nat) (W : World) (hS : Spc W B) : Calls Try.prog 50 #[.pointer (some ⟨B, 0, none⟩), .int .i64 1, .agg #[.int .u64 0, .int .u64 2]] W fun e w' => e = .returned (.agg #[.int .u64 0, .int .u64 1]) ∧ Below W.heap.size W w' := by
  obtain ⟨hB, c0, _, a, c, c2, hE⟩ := hS
  exact value_core 1 B 1 0 2 a c [(0, 1)] (fun k => if k = 0 then (0, 2) else (0, 1)) (fun _ => (0, 3)) W hB c0 c2 hE (Nat.le_refl _) (by decide) rfl
    (fun k hk => by obtain rfl : k = 0 := by omega
                    exact add_two_one)
    (fun k hk => by obtain rfl : k = 0 := by omega
                    exact mul_two_three)
    (fun k hk h => by
      rcases Nat.le_one_iff_eq_zero_or_eq_one.1 hk with rfl | rfl
      · simp at h
      · exact h)
set_option maxHeartbeats 2000000 in
set_option maxRecDepth 100000 in
theorem vval_one (B : Nat) (W : World) (hS : Spc W B) : Calls Try.prog 22 #[.pointer (some ⟨B, 0, none⟩), .int .i64 1, .agg #[.int .u64 0, .int .u64 2]] W fun e w' => e = .returned (.agg #[.int .u64 0, .int .u64 1]) ∧ Below W.heap.size W w' := by
  have HS : Hid (Spc W B) := hS
  clear hS
  go_enter Try.func22, Try.ntmps22
  go_wp2_with fail
  have D0 : Below W.heap.size W ((W.alloc (Obj.cells #[.int .u64 0, .int .u64 2] 27)).alloc (Obj.cells #[.int .u64 0, .int .u64 0] 27)) := ((Below.refl _ _).alloc (Nat.le_refl _) _).alloc (by simp) _
  refine (has_one B _ (HS.out.below D0)).mono ?_
  rintro e w1 ⟨rfl, hb1⟩
  have D1 : Below W.heap.size W w1 := D0.trans (hb1.mono (by simp <;> omega))
  have A : El w1 W.heap.size 0 2 := El.below ⟨by simp [go_sem], by simp [go_sem]⟩ hb1
  have R : Ew w1 (W.heap.size + 1) 0 0 := Ew.below ⟨⟨by simp [go_sem], by simp [go_sem]⟩, by simp [go_sem], by simp [go_sem]⟩ hb1
  have a1 : w1.cell? ⟨W.heap.size, 0, none⟩ = some (.int .u64 0) := A.hi
  have a0 : w1.cell? ⟨W.heap.size, 1, none⟩ = some (.int .u64 2) := A.lo
  have HR : Hid (Ew w1 (W.heap.size + 1) 0 0) := R
  have HD1 : Hid (Below W.heap.size W w1) := D1
  clear hb1 D0 A R D1
  go_wp2_with fail
  refine (value_one B w1 (HS.out.below HD1.out)).mono ?_
  rintro e w2 ⟨rfl, hb2⟩
  have HD2 : Hid (Below W.heap.size W w2) := HD1.out.trans (hb2.mono HD1.out.size)
  obtain ⟨⟨r1, r0⟩, f1, f0⟩ := HR.out.below hb2
  clear hb2 a1 a0 HR HD1
  go_wp2
  refine bodyPost_ret (v := .agg #[.int .u64 0, .int .u64 1]) (by simp [results, Try.results22, go_sem, *]) rfl ⟨rfl, ?_⟩
  exact below2 (p := W.heap.size + 1) HD2.out (by omega) _ _
set_option maxHeartbeats 2000000 in
set_option maxRecDepth 100000 in
/-- The page's example holds. -/
theorem awake5 : Ret 9 #[] (.bool true) := by
  intro W
  have H1 : Ret 26 #[] (.agg #[.int .u64 0, .int .u64 1]) := one_any
  go_enter Try.func9, Try.ntmps9
  go_wp2_with fail
  refine (H1.go _).mono ?_
  rintro e w1 ⟨rfl, hb1⟩
  have HD1 : Hid (Below W.heap.size W w1) := hb1
  clear hb1
  go_wp2_with fail
  have hr : ERow (w1.alloc (Obj.cells #[.int .u64 0, .int .u64 1] 27)) (some ⟨w1.heap.size, 0, none⟩) [(0, 1)] := ⟨fun i hi => by
    obtain rfl : i = 0 := by simp at hi; exact hi
    exact ⟨w1.heap.size, 0, rfl, by simp, by simp [go_sem], by simp [go_sem]⟩⟩
  refine (new_one w1.heap.size 0 1 _ hr).mono ?_
  rintro e w2 ⟨B, rfl, hS, hb2⟩
  have HD2 : Hid (Below W.heap.size W w2) := (HD1.out.alloc HD1.out.size _).trans (hb2.mono (by have := HD1.out.size; simp; omega))
  have HS : Hid (Spc w2 B) := hS
  clear hr hS hb2 HD1
  go_wp2_with fail
  obtain ⟨a, c, c1⟩ := HS.out.c1
  refine (dim_any B 1 c a w2 c1).mono ?_
  rintro e w3 ⟨rfl, hb3⟩
  have HD3 : Hid (Below W.heap.size W w3) := HD2.out.trans (hb3.mono HD2.out.size)
  have HS3 : Hid (Spc w3 B) := HS.out.below hb3
  clear hb3 c1 HS HD2
  go_wp2_with fail
  refine (vval_one B w3 HS3.out).mono ?_
  rintro e w4 ⟨rfl, hb4⟩
  have HD4 : Hid (Below W.heap.size W w4) := HD3.out.trans (hb4.mono HD3.out.size)
  clear hb4 HS3 HD3
  go_wp2_with fail
  refine (H1.go _).mono ?_
  rintro e w5 ⟨rfl, hb5⟩
  have HD5 : Hid (Below W.heap.size W w5) := HD4.out.trans (hb5.mono HD4.out.size)
  clear hb5 HD4
  go_wp2
  go_ret
  exact ⟨by simp, HD5.out⟩
end Go.Proofs.Ytnecjkdlmecgdaa
