/- The contract of linpoly.made for a basis of one element, over the seat's translation. -/
import Derived.Test.YtnecjkdlmecgdaaPLpE
import Derived.Deep.AppendLies
namespace Go.Proofs.Ytnecjkdlmecgdaa
open Go.RowKit

theorem own_row2 {w : World} {base : Nat} {T : TypeId} {v : Value} {es : List (Nat × Nat)} (h : w.ownsRow base T 2 v es.length (flat es)) :
    ∃ a cap, v = .slice a es.length cap ∧ ERow w a es ∧ ∀ b off, a = some ⟨b, off, none⟩ → base ≤ b := by
  obtain ⟨a, cap, rfl, hE⟩ := own_row h
  exact ⟨a, cap, rfl, hE, fun b off e => by subst e; exact (h.lt b rfl).1⟩
theorem ERow.setOther {w : World} {a : Option Addr} {es : List (Nat × Nat)} (h : ERow w a es) {p o : Nat} (v : Value) (hne : ∀ b off, a = some ⟨b, off, none⟩ → b ≠ p) : ERow (w.setCell ⟨p, o, none⟩ v) a es := ⟨fun i hi => by
  obtain ⟨b, off, rfl, hb, c1, c0⟩ := h.cells i hi
  have hn := hne b off rfl
  have hn2 : ¬ p = b := fun e => hn e.symm
  exact ⟨b, off, rfl, by simpa [go_sem] using hb, by rw [World.cell?_setCell_other _ _ _ _ (fun e => hn2 (by injection e))]; exact c1, by rw [World.cell?_setCell_other _ _ _ _ (fun e => hn2 (by injection e))]; exact c0⟩⟩
/-- A space's cells while it is made. -/
structure Pst1 (W w : World) (l : Int) (b off cap : Nat) (vT vB : Value) : Prop where
  c0 : w.cell? ⟨W.heap.size, 0, none⟩ = some (.int .i64 l)
  c1 : w.cell? ⟨W.heap.size, 1, none⟩ = some (.slice (some ⟨b, off, none⟩) 1 cap)
  c2 : w.cell? ⟨W.heap.size, 2, none⟩ = some vT
  c3 : w.cell? ⟨W.heap.size, 3, none⟩ = some vB
  f2 : w.frozen? ⟨W.heap.size, 2, none⟩ = false
  f3 : w.frozen? ⟨W.heap.size, 3, none⟩ = false
  d : Below W.heap.size W w
theorem Pst1.below {W w w' : World} {l : Int} {b off cap : Nat} {vT vB : Value} (h : Pst1 W w l b off cap vT vB) (k : Below w.heap.size w w') : Pst1 W w' l b off cap vT vB :=
  ⟨keepc k h.c0, keepc k h.c1, keepc k h.c2, keepc k h.c3, keepf k h.c2 h.f2, keepf k h.c3 h.f3, h.d.trans (k.mono h.d.size)⟩
theorem Pst1.drew {W w : World} {l : Int} {b off cap : Nat} {vT vB : Value} (h : Pst1 W w l b off cap vT vB) : Pst1 W w.drew l b off cap vT vB := ⟨h.c0, h.c1, h.c2, h.c3, h.f2, h.f3, h.d.drew⟩
theorem Pst1.tops {W w : World} {l : Int} {b off cap : Nat} {vT vB : Value} (h : Pst1 W w l b off cap vT vB) (v : Value) : Pst1 W (w.setCell ⟨W.heap.size, 2, none⟩ v) l b off cap v vB :=
  ⟨by simp [go_sem, h.c0], by simp [go_sem, h.c1], by simp [go_sem, h.c2], by simp [go_sem, h.c3], by simp [go_sem, h.f2], by simp [go_sem, h.f3], h.d.setCell (Nat.le_refl _) _⟩
theorem Pst1.backs {W w : World} {l : Int} {b off cap : Nat} {vT vB : Value} (h : Pst1 W w l b off cap vT vB) (v : Value) : Pst1 W (w.setCell ⟨W.heap.size, 3, none⟩ v) l b off cap vT v :=
  ⟨by simp [go_sem, h.c0], by simp [go_sem, h.c1], by simp [go_sem, h.c2], by simp [go_sem, h.c3], by simp [go_sem, h.f2], by simp [go_sem, h.f3], h.d.setCell (Nat.le_refl _) _⟩
set_option maxHeartbeats 8000000 in
set_option maxRecDepth 100000 in
theorem made_one (l : Int) (b off cap xh xl ih il : Nat) (W : World) (hr : ERow W (some ⟨b, off, none⟩) [(xh, xl)]) (HI : Ret 65 #[.int .i64 l, .agg #[.int .u64 (xh : Int), .int .u64 (xl : Int)]] (.agg #[.int .u64 (ih : Int), .int .u64 (il : Int)])) :
    Calls Try.prog 43 #[.int .i64 l, .slice (some ⟨b, off, none⟩) 1 cap] W fun e w' => ∃ a2 c2 a3 c3, e = .returned (.pointer (some ⟨W.heap.size, 0, none⟩)) ∧ Pst1 W w' l b off cap (.slice a2 1 c2) (.slice a3 1 c3) ∧ ERow w' a2 [(xh, xl)] := by
  obtain ⟨b', off', e1, hb, c1, c0⟩ := hr.cells 0 (by simp)
  simp only [Option.some.injEq, Addr.mk.injEq] at e1
  obtain ⟨rfl, rfl, _⟩ := e1
  simp at c1 c0
  have hb2 : ¬ W.heap.size = b := by omega
  obtain ⟨i0, hi, hz0, hz1, hz2⟩ := info_elem
  have HN : Hid (Try.prog.info? 27 = some i0 ∧ i0.zero = some (.agg #[.int .u64 0, .int .u64 0]) ∧ i0.size = 2 ∧ i0.bytes = 16) := ⟨hi, hz0, hz1, hz2⟩
  clear hr hi hz0 hz1 hz2
  go_enter Try.func43, Try.ntmps43
  go_wp2_with fail
  go_loopw [15] (fun u wr => (u = .int .i64 0 ∧ wr = W.alloc (Obj.cells #[.int .i64 l, .slice (some ⟨b, off, none⟩) 1 cap, .slice none 0 0, .slice none 0 0] 77)) ∨ (u = .int .i64 1 ∧ ∃ a2 c2 a3 c3, Pst1 W wr l b off cap (.slice a2 1 c2) (.slice a3 1 c3) ∧ ERow wr a2 [(xh, xl)])) (fun u _ => 1 - (intOf u).toNat)
  case atStart => exact .inl ⟨rfl, rfl⟩
  case round =>
    rcases hrel with ⟨rfl, rfl⟩ | ⟨rfl, a2, c2, a3, c3, hP, hE⟩
    · have b1 : (W.alloc (Obj.cells #[.int .i64 l, .slice (some ⟨b, off, none⟩) 1 cap, .slice none 0 0, .slice none 0 0] 77)).cell? ⟨b, off, none⟩ = some (.int .u64 (xh : Int)) := keepc ((Below.refl _ _).alloc (Nat.le_refl _) _) c1
      have b0 : (W.alloc (Obj.cells #[.int .i64 l, .slice (some ⟨b, off, none⟩) 1 cap, .slice none 0 0, .slice none 0 0] 77)).cell? ⟨b, off + 1, none⟩ = some (.int .u64 (xl : Int)) := keepc ((Below.refl _ _).alloc (Nat.le_refl _) _) c0
      have K0 : Hid (Pst1 W (W.alloc (Obj.cells #[.int .i64 l, .slice (some ⟨b, off, none⟩) 1 cap, .slice none 0 0, .slice none 0 0] 77)) l b off cap (.slice none 0 0) (.slice none 0 0)) := ⟨by simp [go_sem], by simp [go_sem], by simp [go_sem], by simp [go_sem], by simp [go_sem], by simp [go_sem], by go_grown⟩
      have hlt : W.heap.size < (W.alloc (Obj.cells #[.int .i64 l, .slice (some ⟨b, off, none⟩) 1 cap, .slice none 0 0, .slice none 0 0] 77)).heap.size := by simp
      generalize W.alloc (Obj.cells #[.int .i64 l, .slice (some ⟨b, off, none⟩) 1 cap, .slice none 0 0, .slice none 0 0] 77) = w1 at *
      clear c1 c0
      go_wp2_with fail
      have K1 : Hid (Pst1 W (w1.alloc (Obj.cells #[.int .u64 (xh : Int), .int .u64 (xl : Int)] 27)) l b off cap (.slice none 0 0) (.slice none 0 0)) := K0.out.below ((Below.refl _ _).alloc (Nat.le_refl _) _)
      refine (value_core l W.heap.size 0 xh xl none 0 [] (fun _ => (xh, xl)) (fun _ => (0, 0)) _ ?hB K1.out.c0 K1.out.c2 ⟨fun i hi => by simp at hi⟩ (Nat.le_refl _) (by decide) rfl (fun k hk => by omega) (fun k hk => by omega) (fun k hk h => h)).mono ?_
      case hB => simp; omega
      rintro e w2 ⟨rfl, hb2'⟩
      have K2 : Hid (Pst1 W w2 l b off cap (.slice none 0 0) (.slice none 0 0)) := K1.out.below hb2'
      clear hb2' K1 K0 b1 b0
      go_upto_region 6 with fail
      have K3 : Hid (Pst1 W (w2.alloc (Obj.cells #[.int .u64 (xh : Int), .int .u64 (xl : Int)] 27)) l b off cap (.slice none 0 0) (.slice none 0 0)) := K2.out.below ((Below.refl _ _).alloc (Nat.le_refl _) _)
      have q1 : (w2.alloc (Obj.cells #[.int .u64 (xh : Int), .int .u64 (xl : Int)] 27)).cell? ⟨w2.heap.size, 0, none⟩ = some (.int .u64 (xh : Int)) := by simp [go_sem]
      have q0 : (w2.alloc (Obj.cells #[.int .u64 (xh : Int), .int .u64 (xl : Int)] 27)).cell? ⟨w2.heap.size, 1, none⟩ = some (.int .u64 (xl : Int)) := by simp [go_sem]
      have hq : ¬ W.heap.size = w2.heap.size ∧ ¬ w2.heap.size = W.heap.size := by have := cell_lt K2.out.c0; omega
      have hw : W.heap.size + 1 ≤ (w2.alloc (Obj.cells #[.int .u64 (xh : Int), .int .u64 (xl : Int)] 27)).heap.size := by have := cell_lt K2.out.c0; simp; omega
      generalize w2.alloc (Obj.cells #[.int .u64 (xh : Int), .int .u64 (xl : Int)] 27) = w3 at *
      generalize w2.heap.size = q at *
      clear K2
      have t2 := K3.out.c2
      refine wp_region_noPanic ?_
      refine wp_region_peel (S := fun w => w.cell? ⟨W.heap.size, 2, none⟩ = some (.slice none 0 0) ∧ w.cell? ⟨q, 0, none⟩ = some (.int .u64 (xh : Int)) ∧ w.cell? ⟨q, 1, none⟩ = some (.int .u64 (xl : Int))) 10 (by kernel_rfl) rfl (by kernel_rfl) ?_ (fun hHeld => ?_)
      · exact ⟨t2, q1, q0⟩
      refine wpAnyH_take (i := 0) (oi := _) (v := ?_) rfl (by kernel_rfl) (by kernel_rfl) (by kernel_rfl) (fun _ _ _ h => h) (Or.inl ⟨by rfl, ?_⟩) (by assumption) ?_
      rotate_left
      · ((intro w hSw; (try dsimp only at hSw); go_simp) <;> (try with_reducible rfl))
      try simp only [Act.put]
      refine wpAnyH_take (i := 1) (oi := _) (v := ?_) rfl (by kernel_rfl) (by kernel_rfl) (by kernel_rfl) (fun _ _ _ h => h) (Or.inl ⟨by rfl, ?_⟩) (by assumption) ?_
      rotate_left
      · ((intro w hSw; (try dsimp only at hSw); go_simp) <;> (try with_reducible rfl))
      try simp only [Act.put]
      refine wpAnyH_take (i := 2) (oi := _) (v := ?_) rfl (by kernel_rfl) (by kernel_rfl) (by kernel_rfl) (fun _ _ _ h => h) (Or.inl ⟨by rfl, ?_⟩) (by assumption) ?_
      rotate_left
      · ((intro w hSw; (try dsimp only at hSw); go_simp) <;> (try with_reducible rfl))
      try simp only [Act.put]
      refine wpAnyH_take (i := 3) (oi := _) (v := ?_) rfl (by kernel_rfl) (by kernel_rfl) (by kernel_rfl) (fun _ _ _ h => h) (Or.inl ⟨by rfl, ?_⟩) (by assumption) ?_
      rotate_left
      · ((intro w hSw; (try dsimp only at hSw); go_simp) <;> (try with_reducible rfl))
      try simp only [Act.put]
      refine wpAnyH_take (i := 4) (oi := _) (v := ?_) rfl (by kernel_rfl) (by kernel_rfl) (by kernel_rfl) (fun _ _ _ h => h) (Or.inl ⟨by rfl, ?_⟩) (by assumption) ?_
      rotate_left
      · ((intro w hSw; (try dsimp only at hSw); go_simp) <;> (try with_reducible rfl))
      try simp only [Act.put]
      refine wpAnyH_take (i := 5) (oi := _) (v := ?_) rfl (by kernel_rfl) (by kernel_rfl) (by kernel_rfl) (fun _ _ _ h => h) (Or.inl ⟨by rfl, ?_⟩) (by assumption) ?_
      rotate_left
      · ((intro w hSw; (try dsimp only at hSw); go_simp) <;> (try with_reducible rfl))
      try simp only [Act.put]
      refine wpAnyH_ready (rs := [6]) (by kernel_rfl) (by simp) ?_
      refine AllReadyH.cons (o := _) rfl (fun KK hKK => ?_) AllReadyH.nil
      go_simp
      refine hKK.out _ _ ?_ (fun hHeld => ?_)
      · go_keep
      clear hKK KK
      try simp only [Act.put]
      refine wpAnyH_ready (rs := [7]) (by kernel_rfl) (by simp) ?_
      refine AllReadyH.cons (o := _) rfl (fun KK hKK => ?_) AllReadyH.nil
      simp only [Array.getElem_pop, List.getElem_toArray, List.getElem_cons_succ, List.getElem_cons_zero]
      rw [if_pos (by rfl)]
      refine wp_append_own _ _ _ 22 rfl (W.heap.size + 1) 27 i0 (.agg #[.int .u64 0, .int .u64 0]) 2 16 Try.underlying22 HN.out.1 HN.out.2.1 HN.out.2.2.1 HN.out.2.2.2 rfl (by decide) (.slice none 0 0) 0 [] rfl (World.ownsRow_nil _ _ _ _) ⟨w3.heap.size, 0, none⟩ 1 1 [.int .u64 (xh : Int), .int .u64 (xl : Int)] rfl rfl ?_ ?_ (by decide) (by decide) ?_ ?_
      · exact fun p u hu => by rcases p with _ | _ | p <;> simp at hu <;> subst hu <;> simp [go_sem]
      · intro u hu; simp at hu; rcases hu with rfl | rfl <;> rfl
      · simp; omega
      intro v' w' hown hgr _
      have BB : Below w3.heap.size w3 w' := ((Below.refl _ _).drew.alloc (Nat.le_refl _) _).grown hgr (by simp) (fun k hk => by simp [Value.ownBlock] at hk)
      obtain ⟨a2, c2, rfl, hE, hg⟩ := own_row2 (es := [(xh, xl)]) (by simpa [flat] using hown)
      refine hKK.out _ _ ?_ (fun hHeld => ?_)
      · exact ⟨keepc BB t2, keepc BB q1, keepc BB q0⟩
      clear hKK KK
      try simp only [Act.put]
      refine wpAnyH_take (i := 8) (oi := _) (v := ?_) rfl (by kernel_rfl) (by kernel_rfl) (by kernel_rfl) (fun _ _ _ h => h) (Or.inl ⟨by rfl, ?_⟩) (by assumption) ?_
      rotate_left
      · ((intro w hSw; (try dsimp only at hSw); go_simp) <;> (try with_reducible rfl))
      try simp only [Act.put]
      refine wpAnyH_take (i := 9) (oi := _) (v := ?_) rfl (by kernel_rfl) (by kernel_rfl) (by kernel_rfl) (fun _ _ _ h => h) (Or.inl ⟨by rfl, ?_⟩) (by assumption) ?_
      rotate_left
      · ((intro w hSw; (try dsimp only at hSw); go_simp) <;> (try with_reducible rfl))
      try simp only [Act.put]
      refine wpAnyH_done (by kernel_rfl) ?_ _
      refine peel_last rfl (fun KK hKK => ?_)
      have K4 : Hid (Pst1 W (w'.setCell ⟨W.heap.size, 2, none⟩ (.slice a2 1 c2)) l b off cap (.slice a2 1 c2) (.slice none 0 0)) := (K3.out.below BB).tops _
      have u2 := (K3.out.below BB).c2
      have g2 := (K3.out.below BB).f2
      have q1' : (w'.setCell ⟨W.heap.size, 2, none⟩ (.slice a2 1 c2)).cell? ⟨q, 0, none⟩ = some (.int .u64 (xh : Int)) := by rw [World.cell?_setCell_other _ _ _ _ (fun e => hq.1 (by injection e))]; exact keepc BB q1
      have q0' : (w'.setCell ⟨W.heap.size, 2, none⟩ (.slice a2 1 c2)).cell? ⟨q, 1, none⟩ = some (.int .u64 (xl : Int)) := by rw [World.cell?_setCell_other _ _ _ _ (fun e => hq.1 (by injection e))]; exact keepc BB q0
      have E4 : Hid (ERow (w'.setCell ⟨W.heap.size, 2, none⟩ (.slice a2 1 c2)) a2 [(xh, xl)]) := hE.setOther _ (fun b off e => by have := hg b off e; omega)
      have hw4 : W.heap.size + 1 ≤ (w'.setCell ⟨W.heap.size, 2, none⟩ (.slice a2 1 c2)).heap.size := by have := cell_lt K4.out.c0; omega
      clear hHeld q1 q0 t2 hown hgr hE BB K3 hw
      go_simp
      refine hKK _ _ ?_
      refine NoPanic.normal ?_
      clear hKK KK u2 g2
      generalize w'.setCell ⟨W.heap.size, 2, none⟩ (.slice a2 1 c2) = w5 at *
      go_upto_region 7 with fail
      have t3 := K4.out.c3
      refine wp_region_noPanic ?_
      refine wp_region_peel (S := fun w => w.cell? ⟨W.heap.size, 3, none⟩ = some (.slice none 0 0) ∧ w.cell? ⟨q, 0, none⟩ = some (.int .u64 (xh : Int)) ∧ w.cell? ⟨q, 1, none⟩ = some (.int .u64 (xl : Int))) 12 (by kernel_rfl) rfl (by kernel_rfl) ?_ (fun hHeld => ?_)
      · exact ⟨t3, q1', q0'⟩
      refine wpAnyH_take (i := 0) (oi := _) (v := ?_) rfl (by kernel_rfl) (by kernel_rfl) (by kernel_rfl) (fun _ _ _ h => h) (Or.inl ⟨by rfl, ?_⟩) (by assumption) ?_
      rotate_left
      · ((intro w hSw; (try dsimp only at hSw); go_simp) <;> (try with_reducible rfl))
      try simp only [Act.put]
      refine wpAnyH_take (i := 1) (oi := _) (v := ?_) rfl (by kernel_rfl) (by kernel_rfl) (by kernel_rfl) (fun _ _ _ h => h) (Or.inl ⟨by rfl, ?_⟩) (by assumption) ?_
      rotate_left
      · ((intro w hSw; (try dsimp only at hSw); go_simp) <;> (try with_reducible rfl))
      try simp only [Act.put]
      refine wpAnyH_take (i := 2) (oi := _) (v := ?_) rfl (by kernel_rfl) (by kernel_rfl) (by kernel_rfl) (fun _ _ _ h => h) (Or.inl ⟨by rfl, ?_⟩) (by assumption) ?_
      rotate_left
      · ((intro w hSw; (try dsimp only at hSw); go_simp) <;> (try with_reducible rfl))
      try simp only [Act.put]
      refine wpAnyH_take (i := 3) (oi := _) (v := ?_) rfl (by kernel_rfl) (by kernel_rfl) (by kernel_rfl) (fun _ _ _ h => h) (Or.inl ⟨by rfl, ?_⟩) (by assumption) ?_
      rotate_left
      · ((intro w hSw; (try dsimp only at hSw); go_simp) <;> (try with_reducible rfl))
      try simp only [Act.put]
      refine wpAnyH_take (i := 4) (oi := _) (v := ?_) rfl (by kernel_rfl) (by kernel_rfl) (by kernel_rfl) (fun _ _ _ h => h) (Or.inl ⟨by rfl, ?_⟩) (by assumption) ?_
      rotate_left
      · ((intro w hSw; (try dsimp only at hSw); go_simp) <;> (try with_reducible rfl))
      try simp only [Act.put]
      refine wpAnyH_take (i := 5) (oi := _) (v := ?_) rfl (by kernel_rfl) (by kernel_rfl) (by kernel_rfl) (fun _ _ _ h => h) (Or.inl ⟨by rfl, ?_⟩) (by assumption) ?_
      rotate_left
      · ((intro w hSw; (try dsimp only at hSw); go_simp) <;> (try with_reducible rfl))
      try simp only [Act.put]
      refine wpAnyH_take (i := 6) (oi := _) (v := ?_) rfl (by kernel_rfl) (by kernel_rfl) (by kernel_rfl) (fun _ _ _ h => h) (Or.inl ⟨by rfl, ?_⟩) (by assumption) ?_
      rotate_left
      · ((intro w hSw; (try dsimp only at hSw); go_simp) <;> (try with_reducible rfl))
      try simp only [Act.put]
      refine wpAnyH_ready (rs := [7]) (by kernel_rfl) (by simp) ?_
      refine AllReadyH.cons (o := _) rfl (fun KK hKK => ?_) AllReadyH.nil
      go_simp
      (go_at_call 65; refine (HI.go _).mono ?_; rintro e w6 ⟨rfl, hb6⟩)
      have hb6' : Below w5.heap.size w5 w6 := (Below.refl _ _).drew.trans hb6
      have K5 : Hid (Pst1 W w6 l b off cap (.slice a2 1 c2) (.slice none 0 0)) := K4.out.below hb6'
      have E5 : Hid (ERow w6 a2 [(xh, xl)]) := E4.out.below hb6'
      have t3' := keepc hb6' t3
      have q1'' := keepc hb6' q1'
      have q0'' := keepc hb6' q0'
      refine hKK.out _ _ ?_ (fun hHeld => ?_)
      · exact ⟨t3', q1'', q0''⟩
      clear hKK KK
      try simp only [Act.put]
      clear t3 q1' q0' K4 E4 hb6 hb6' hw4
      have t3 := t3'
      have q1 := q1''
      have q0 := q0''
      have hw6 : W.heap.size + 1 ≤ w6.heap.size := by have := cell_lt K5.out.c0; omega
      clear t3' q1'' q0''
      refine wpAnyH_ready (rs := [8]) (by kernel_rfl) (by simp) ?_
      refine AllReadyH.cons (o := _) rfl (fun KK hKK => ?_) AllReadyH.nil
      go_simp
      refine hKK.out _ _ ?_ (fun hHeld => ?_)
      · go_keep
      clear hKK KK
      try simp only [Act.put]
      refine wpAnyH_ready (rs := [9]) (by kernel_rfl) (by simp) ?_
      refine AllReadyH.cons (o := _) rfl (fun KK hKK => ?_) AllReadyH.nil
      simp only [Array.getElem_pop, List.getElem_toArray, List.getElem_cons_succ, List.getElem_cons_zero]
      rw [if_pos (by rfl)]
      refine wp_append_own _ _ _ 22 rfl (W.heap.size + 1) 27 i0 (.agg #[.int .u64 0, .int .u64 0]) 2 16 Try.underlying22 HN.out.1 HN.out.2.1 HN.out.2.2.1 HN.out.2.2.2 rfl (by decide) (.slice none 0 0) 0 [] rfl (World.ownsRow_nil _ _ _ _) ⟨w6.heap.size, 0, none⟩ 1 1 [.int .u64 (ih : Int), .int .u64 (il : Int)] rfl rfl ?_ ?_ (by decide) (by decide) ?_ ?_
      · exact fun p u hu => by rcases p with _ | _ | p <;> simp at hu <;> subst hu <;> simp [go_sem]
      · intro u hu; simp at hu; rcases hu with rfl | rfl <;> rfl
      · simp; omega
      intro v' w' hown hgr _
      have BB : Below w6.heap.size w6 w' := ((Below.refl _ _).alloc (Nat.le_refl _) _).grown hgr (by simp) (fun k hk => by simp [Value.ownBlock] at hk)
      obtain ⟨a3, c3, rfl, hE3, hg3⟩ := own_row2 (es := [(ih, il)]) (by simpa [flat] using hown)
      refine hKK.out _ _ ?_ (fun hHeld => ?_)
      · exact ⟨keepc BB t3, keepc BB q1, keepc BB q0⟩
      clear hKK KK
      try simp only [Act.put]
      refine wpAnyH_take (i := 10) (oi := _) (v := ?_) rfl (by kernel_rfl) (by kernel_rfl) (by kernel_rfl) (fun _ _ _ h => h) (Or.inl ⟨by rfl, ?_⟩) (by assumption) ?_
      rotate_left
      · ((intro w hSw; (try dsimp only at hSw); go_simp) <;> (try with_reducible rfl))
      try simp only [Act.put]
      refine wpAnyH_take (i := 11) (oi := _) (v := ?_) rfl (by kernel_rfl) (by kernel_rfl) (by kernel_rfl) (fun _ _ _ h => h) (Or.inl ⟨by rfl, ?_⟩) (by assumption) ?_
      rotate_left
      · ((intro w hSw; (try dsimp only at hSw); go_simp) <;> (try with_reducible rfl))
      try simp only [Act.put]
      refine wpAnyH_done (by kernel_rfl) ?_ _
      refine peel_last rfl (fun KK hKK => ?_)
      have K8 : Hid (Pst1 W (w'.setCell ⟨W.heap.size, 3, none⟩ (.slice a3 1 c3)) l b off cap (.slice a2 1 c2) (.slice a3 1 c3)) := (K5.out.below BB).backs _
      have E8 : Hid (ERow (w'.setCell ⟨W.heap.size, 3, none⟩ (.slice a3 1 c3)) a2 [(xh, xl)]) := (E5.out.below BB).setOther _ (fun b off e => by have := hg b off e; omega)
      have u3 := (K5.out.below BB).c3
      have g3 := (K5.out.below BB).f3
      clear hHeld q1 q0 t3 hown hgr hE3 BB K5 E5
      go_simp
      refine hKK _ _ ?_
      refine NoPanic.normal ?_
      clear hKK KK u3 g3
      generalize w'.setCell ⟨W.heap.size, 3, none⟩ (.slice a3 1 c3) = w9 at *
      go_wp2
      exact ⟨.inr ⟨by simp, a2, c2, a3, c3, K8.out, E8.out⟩, by simp [intOf]⟩
    · have HP : Hid (Pst1 W wr l b off cap (.slice a2 1 c2) (.slice a3 1 c3)) := hP
      have HE : Hid (ERow wr a2 [(xh, xl)]) := hE
      clear hP hE
      go_wp2
      go_ret
      exact ⟨a2, c2, a3, c3, rfl, HP.out, HE.out⟩
end Go.Proofs.Ytnecjkdlmecgdaa

/- The contract of linpoly's value for any space: each value out of the one ahead of it. -/
namespace Go.Proofs.Ytnecjkdlmecgdaa
open Go.RowKit
open Tw (pm)

/-- W(k) at x, reckoned out of the tops: (W + top) W. -/
def wv (l : Int) (ts : List (Nat × Nat)) (x : Nat × Nat) : Nat → Nat × Nat
  | 0 => x
  | k + 1 => mulv l (wv l ts x k) ((wv l ts x k).1 ^^^ (ts.getD k (0, 0)).1, (wv l ts x k).2 ^^^ (ts.getD k (0, 0)).2)
theorem mulv_lt (l : Int) (a b : Nat × Nat) : (mulv l a b).1 < 2 ^ 64 ∧ (mulv l a b).2 < 2 ^ 64 := by
  unfold mulv
  split
  · exact Tw.pm_lt _ _
  · exact ⟨Nat.two_pow_pos 64, Nat.two_pow_pos 64⟩
theorem mulv_zero (l : Int) (b : Nat × Nat) : mulv l (0, 0) b = (0, 0) := by
  unfold mulv
  split
  · rw [Tw.pm_comm', Tw.pm_none]
  · rfl
theorem wv_lt (l : Int) (ts : List (Nat × Nat)) (x : Nat × Nat) (h1 : x.1 < 2 ^ 64) (h2 : x.2 < 2 ^ 64) : ∀ k, (wv l ts x k).1 < 2 ^ 64 ∧ (wv l ts x k).2 < 2 ^ 64
  | 0 => ⟨h1, h2⟩
  | _ + 1 => mulv_lt _ _ _
theorem wv_zero (l : Int) (ts : List (Nat × Nat)) (x : Nat × Nat) (k : Nat) (h : wv l ts x k = (0, 0)) : ∀ d, wv l ts x (k + d) = (0, 0)
  | 0 => h
  | d + 1 => by
    show mulv l (wv l ts x (k + d)) _ = _
    rw [wv_zero l ts x k h d, mulv_zero]
theorem value_any (l : Int) (B i : Nat) (x : Nat × Nat) (at_ : Option Addr) (capt : Nat) (ts : List (Nat × Nat)) (W : World) (hB : B < W.heap.size)
    (c0 : W.cell? ⟨B, 0, none⟩ = some (.int .i64 l)) (c2 : W.cell? ⟨B, 2, none⟩ = some (.slice at_ ts.length capt)) (hr : ERow W at_ ts) (hi : i ≤ ts.length) (h10 : ts.length ≤ 1000) (ht : ltE ts) (h1 : x.1 < 2 ^ 64) (h2 : x.2 < 2 ^ 64) :
    Calls Try.prog 50 #[.pointer (some ⟨B, 0, none⟩), .int .i64 (i : Int), .agg #[.int .u64 (x.1 : Int), .int .u64 (x.2 : Int)]] W fun e w' => e = .returned (.agg #[.int .u64 ((wv l ts x i).1 : Int), .int .u64 ((wv l ts x i).2 : Int)]) ∧ Below W.heap.size W w' := by
  refine value_core l B i x.1 x.2 at_ capt ts (wv l ts x) (fun k => ((wv l ts x k).1 ^^^ (ts.getD k (0, 0)).1, (wv l ts x k).2 ^^^ (ts.getD k (0, 0)).2)) W hB c0 c2 hr hi h10 rfl (fun k _ W => ?_) (fun k _ => ?_) (fun k hk h => ?_)
  · exact add_any _ _ _ _ (wv_lt l ts x h1 h2 k).1 (wv_lt l ts x h1 h2 k).2 (ht.at k).1 (ht.at k).2 W
  · exact mul_any l (wv l ts x k) _ (wv_lt l ts x h1 h2 k).1 (wv_lt l ts x h1 h2 k).2 (Nat.xor_lt_two_pow (wv_lt l ts x h1 h2 k).1 (ht.at k).1) (Nat.xor_lt_two_pow (wv_lt l ts x h1 h2 k).2 (ht.at k).2)
  · have := wv_zero l ts x k h (i - k)
    rwa [show k + (i - k) = i by omega] at this
end Go.Proofs.Ytnecjkdlmecgdaa

/- A space while it is made: two rows that grow side by side. -/
namespace Go.Proofs.Ytnecjkdlmecgdaa
open Go.RowKit

/-- A space's cells and its two rows. -/
structure Mk (W w : World) (l : Int) (vA vT vB : Value) (nT nB : Nat) (xT xB : List Value) : Prop where
  c0 : w.cell? ⟨W.heap.size, 0, none⟩ = some (.int .i64 l)
  c1 : w.cell? ⟨W.heap.size, 1, none⟩ = some vA
  c2 : w.cell? ⟨W.heap.size, 2, none⟩ = some vT
  c3 : w.cell? ⟨W.heap.size, 3, none⟩ = some vB
  f2 : w.frozen? ⟨W.heap.size, 2, none⟩ = false
  f3 : w.frozen? ⟨W.heap.size, 3, none⟩ = false
  oT : w.ownsRow (W.heap.size + 1) 27 2 vT nT xT
  oB : w.ownsRow (W.heap.size + 1) 27 2 vB nB xB
  ne : ∀ g h, vT.ownBlock = some g → vB.ownBlock = some h → g ≠ h
  d : Below W.heap.size W w
variable {W w wA w' : World} {l : Int} {vA vT vB v' : Value} {nT nB n' g : Nat} {xT xB x' : List Value}
theorem Mk.below (h : Mk W w l vA vT vB nT nB xT xB) (k : Below w.heap.size w w') : Mk W w' l vA vT vB nT nB xT xB :=
  ⟨keepc k h.c0, keepc k h.c1, keepc k h.c2, keepc k h.c3, keepf k h.c2 h.f2, keepf k h.c3 h.f3, own_below h.oT k, own_below h.oB k, h.ne, h.d.trans (k.mono h.d.size)⟩
theorem row_ne {base k n size : Nat} {T : TypeId} {v : Value} {xs : List Value} (h : w.ownsRow base T size v n xs) (hk : k < base) : some k ≠ v.ownBlock := fun e => by
  have := (h.lt k e.symm).1; omega
theorem grown_cell {row : Option Nat} (hgr : wA.grownBy w' row) {k o : Nat} (hk : k < wA.heap.size) (hn : some k ≠ row) : w'.cell? ⟨k, o, none⟩ = wA.cell? ⟨k, o, none⟩ := World.cell?_of_block (a := ⟨k, o, none⟩) (hgr.block k hk hn)
theorem grown_frozen {row : Option Nat} (hgr : wA.grownBy w' row) {k o : Nat} (hk : k < wA.heap.size) (hn : some k ≠ row) : w'.frozen? ⟨k, o, none⟩ = wA.frozen? ⟨k, o, none⟩ := World.frozen?_of_block (a := ⟨k, o, none⟩) (hgr.block k hk hn)
theorem Mk.tops (h : Mk W w l vA vT vB nT nB xT xB) (BA : Below w.heap.size w wA) (hgr : wA.grownBy w' vT.ownBlock) (own' : w'.ownsRow (W.heap.size + 1) 27 2 v' n' x') (hv : v'.ownBlock = some g) (hl : vT.ownBlock = some g ∨ g = wA.heap.size) :
    Mk W (w'.setCell ⟨W.heap.size, 2, none⟩ v') l vA v' vB n' nB x' xB := by
  have K := h.below BA
  have hP : W.heap.size < wA.heap.size := cell_lt K.c0
  have hn : some W.heap.size ≠ vT.ownBlock := row_ne K.oT (by omega)
  have e : ∀ o, w'.cell? ⟨W.heap.size, o, none⟩ = wA.cell? ⟨W.heap.size, o, none⟩ := fun o => grown_cell hgr hP hn
  have f : ∀ o, w'.frozen? ⟨W.heap.size, o, none⟩ = wA.frozen? ⟨W.heap.size, o, none⟩ := fun o => grown_frozen hgr hP hn
  refine ⟨?_, ?_, ?_, ?_, ?_, ?_, ownsRow_setCell_below own' (by show W.heap.size < W.heap.size + 1; omega) _, ownsRow_setCell_below (K.oB.kept hgr ?_) (by show W.heap.size < W.heap.size + 1; omega) _, ?_, (K.d.grown hgr K.d.size (fun k hk => by have := (K.oT.lt k hk).1; omega)).setCell (Nat.le_refl _) _⟩
  · simp [go_sem, e, K.c0]
  · simp [go_sem, e, K.c1]
  · simp [go_sem, e, K.c2]
  · simp [go_sem, e, K.c3]
  · simp [go_sem, f, K.f2]
  · simp [go_sem, f, K.f3]
  · cases hB : vB.ownBlock with
    | none => exact .inl rfl
    | some b => exact .inr fun e => h.ne b b e.symm hB rfl
  · intro g1 h1 e1 e2
    rw [hv] at e1
    obtain rfl := Option.some.inj e1
    rcases hl with hl | rfl
    · exact h.ne _ _ hl e2
    · have := (K.oB.lt h1 e2).2; omega
theorem Mk.backs (h : Mk W w l vA vT vB nT nB xT xB) (BA : Below w.heap.size w wA) (hgr : wA.grownBy w' vB.ownBlock) (own' : w'.ownsRow (W.heap.size + 1) 27 2 v' n' x') (hv : v'.ownBlock = some g) (hl : vB.ownBlock = some g ∨ g = wA.heap.size) :
    Mk W (w'.setCell ⟨W.heap.size, 3, none⟩ v') l vA vT v' nT n' xT x' := by
  have K := h.below BA
  have hP : W.heap.size < wA.heap.size := cell_lt K.c0
  have hn : some W.heap.size ≠ vB.ownBlock := row_ne K.oB (by omega)
  have e : ∀ o, w'.cell? ⟨W.heap.size, o, none⟩ = wA.cell? ⟨W.heap.size, o, none⟩ := fun o => grown_cell hgr hP hn
  have f : ∀ o, w'.frozen? ⟨W.heap.size, o, none⟩ = wA.frozen? ⟨W.heap.size, o, none⟩ := fun o => grown_frozen hgr hP hn
  refine ⟨?_, ?_, ?_, ?_, ?_, ?_, ownsRow_setCell_below (K.oT.kept hgr ?_) (by show W.heap.size < W.heap.size + 1; omega) _, ownsRow_setCell_below own' (by show W.heap.size < W.heap.size + 1; omega) _, ?_, (K.d.grown hgr K.d.size (fun k hk => by have := (K.oB.lt k hk).1; omega)).setCell (Nat.le_refl _) _⟩
  · simp [go_sem, e, K.c0]
  · simp [go_sem, e, K.c1]
  · simp [go_sem, e, K.c2]
  · simp [go_sem, e, K.c3]
  · simp [go_sem, f, K.f2]
  · simp [go_sem, f, K.f3]
  · cases hT : vT.ownBlock with
    | none => exact .inl rfl
    | some b => exact .inr fun e => h.ne b b hT e.symm rfl
  · intro g1 h1 e1 e2
    rw [hv] at e2
    obtain rfl := Option.some.inj e2
    rcases hl with hl | rfl
    · exact h.ne _ _ e1 hl
    · have := (K.oT.lt g1 e1).2; omega
end Go.Proofs.Ytnecjkdlmecgdaa
