/- The contract of span's eliminate over any list, over the seat's translation. -/
import Derived.Test.YtnecjkdlmecgdaaPSqC
namespace Go.Proofs.Ytnecjkdlmecgdaa
open Go.RowKit
open Cb Rg Sq

theorem info_sint : ∃ i, Try.prog.info? 3 = some i ∧ i.zero = some (.int .i64 0) ∧ i.size = 1 ∧ i.bytes = 8 := by
  have h : (Try.prog.info? 3).map (fun i => (i.zero, i.size, i.bytes)) = some (some (.int .i64 0), 1, 8) := by kernel_rfl
  obtain ⟨i, hi, he⟩ := Option.map_eq_some_iff.1 h
  simp only [Prod.mk.injEq] at he
  exact ⟨i, hi, he.1, he.2.1, he.2.2⟩
theorem own_slc {w : World} {base size n : Nat} {T : TypeId} {v : Value} {xs : List Value} (h : w.ownsRow base T size v n xs) : ∃ a c, v = .slice a n c := by
  rcases h.2 with ⟨h1, h0⟩ | ⟨g, cap, cur, rfl, _⟩
  · exact ⟨none, 0, by rw [h1, h0]⟩
  · exact ⟨_, _, rfl⟩
def ints (fr : List Nat) : List Value := fr.map fun (i : Nat) => .int .i64 (i : Int)
theorem own_rr {w : World} {base : Nat} {a : Option Addr} {c : Nat} {rs : List Row} (h : w.ownsRow base 103 4 (.slice a rs.length c) rs.length (flatR rs)) : RRow w a rs := by
  rcases h.2 with ⟨h1, h0⟩ | ⟨g, cap, cur, e, _⟩
  · exact ⟨fun i hi => by omega⟩
  · have e1 : a = some ⟨g, 0, none⟩ := by injection e
    have e2 : c = cap := by injection e
    subst e1 e2
    exact own_rrow h
/-- The rows while they are made: the result's room, and the struct with its two slices. -/
structure Eli (W w : World) (rs : List Row) (fr : List Nat) (v0 v1 : Value) : Prop where
  r0 : w.cell? ⟨W.heap.size, 0, none⟩ = some (.slice none 0 0)
  r1 : w.cell? ⟨W.heap.size, 1, none⟩ = some (.slice none 0 0)
  g0 : w.frozen? ⟨W.heap.size, 0, none⟩ = false
  g1 : w.frozen? ⟨W.heap.size, 1, none⟩ = false
  s0 : w.cell? ⟨W.heap.size + 1, 0, none⟩ = some v0
  s1 : w.cell? ⟨W.heap.size + 1, 1, none⟩ = some v1
  f0 : w.frozen? ⟨W.heap.size + 1, 0, none⟩ = false
  f1 : w.frozen? ⟨W.heap.size + 1, 1, none⟩ = false
  o0 : w.ownsRow (W.heap.size + 1 + 1) 103 4 v0 rs.length (flatR rs)
  o1 : w.ownsRow (W.heap.size + 1 + 1) 3 1 v1 fr.length (ints fr)
  d : Below W.heap.size W w
theorem Eli.below {W w w' : World} {rs : List Row} {fr : List Nat} {v0 v1 : Value} (h : Eli W w rs fr v0 v1) (k : Below w.heap.size w w') : Eli W w' rs fr v0 v1 :=
  ⟨keepc k h.r0, keepc k h.r1, keepf k h.r0 h.g0, keepf k h.r1 h.g1, keepc k h.s0, keepc k h.s1, keepf k h.s0 h.f0, keepf k h.s1 h.f1, own_below h.o0 k, own_below h.o1 k, h.d.trans (k.mono h.d.size)⟩
theorem Eli.drew {W w : World} {rs : List Row} {fr : List Nat} {v0 v1 : Value} (h : Eli W w rs fr v0 v1) : Eli W w.drew rs fr v0 v1 := ⟨h.r0, h.r1, h.g0, h.g1, h.s0, h.s1, h.f0, h.f1, h.o0, h.o1, h.d.drew⟩
/-- Behind add. -/
theorem Eli.add {W w w' : World} {rs rs' : List Row} {fr : List Nat} {v0 v0' v1 : Value} (h : Eli W w rs fr v0 v1) (c0 : w'.cell? ⟨W.heap.size + 1, 0, none⟩ = some v0') (c1 : w'.cell? ⟨W.heap.size + 1, 1, none⟩ = some v1) (e0 : w'.frozen? ⟨W.heap.size + 1, 0, none⟩ = false) (e1 : w'.frozen? ⟨W.heap.size + 1, 1, none⟩ = false)
    (o : w'.ownsRow (W.heap.size + 1 + 1) 103 4 v0' rs'.length (flatR rs')) (b : Below (W.heap.size + 1) w w') (k : ∀ k, k < w.heap.size → k ≠ W.heap.size + 1 → v0.ownBlock ≠ some k → w'.heap[k]? = w.heap[k]?) : Eli W w' rs' fr v0' v1 := by
  have hb := b.block W.heap.size (by omega)
  refine ⟨(World.cell?_of_block (w := w) hb).trans h.r0, (World.cell?_of_block (w := w) hb).trans h.r1, (World.frozen?_of_block (w := w) hb).trans h.g0, (World.frozen?_of_block (w := w) hb).trans h.g1, c0, c1, e0, e1, o, own_keep h.o1 fun g hg => ?_, h.d.trans (b.mono (Nat.le_succ _))⟩
  have := h.o1.lt g hg
  exact k g this.2 (by omega) (own_unlike h.o0 h.o1 (by decide) g hg)
/-- Behind append and the store. -/
theorem Eli.push {W w w' : World} {rs : List Row} {fr fr' : List Nat} {v0 v1 v1' : Value} (h : Eli W w rs fr v0 v1) (hgr : w.grownBy w' v1.ownBlock) (o : w'.ownsRow (W.heap.size + 1 + 1) 3 1 v1' fr'.length (ints fr')) :
    Eli W (w'.setCell ⟨W.heap.size + 1, 1, none⟩ v1') rs fr' v0 v1' ∧ w'.cell? ⟨W.heap.size + 1, 1, none⟩ = some v1 ∧ w'.frozen? ⟨W.heap.size + 1, 1, none⟩ = false := by
  have hB : W.heap.size + 1 < w.heap.size := cell_lt h.s0
  have n1 : some (W.heap.size + 1) ≠ v1.ownBlock := fun e => by have := h.o1.lt _ e.symm; omega
  have n0 : some W.heap.size ≠ v1.ownBlock := fun e => by have := h.o1.lt _ e.symm; omega
  have hb := hgr.block _ hB n1
  have ha := hgr.block W.heap.size (by omega) n0
  have c0 := (World.cell?_of_block (w := w) hb).trans h.s0
  have c1 := (World.cell?_of_block (w := w) hb).trans h.s1
  have e0 := (World.frozen?_of_block (w := w) hb).trans h.f0
  have e1 := (World.frozen?_of_block (w := w) hb).trans h.f1
  have a0 := (World.cell?_of_block (w := w) ha).trans h.r0
  have a1 := (World.cell?_of_block (w := w) ha).trans h.r1
  have b0 := (World.frozen?_of_block (w := w) ha).trans h.g0
  have b1 := (World.frozen?_of_block (w := w) ha).trans h.g1
  have D : Below W.heap.size W w' := h.d.grown hgr h.d.size fun k hk => by have := h.o1.lt _ hk; omega
  have o0 : w'.ownsRow (W.heap.size + 1 + 1) 103 4 v0 rs.length (flatR rs) := own_keep h.o0 fun g hg => hgr.block g (h.o0.lt g hg).2 fun e => own_unlike h.o0 h.o1 (by decide) g e.symm hg
  refine ⟨⟨?_, ?_, ?_, ?_, ?_, ?_, ?_, ?_, ownsRow_setCell_below o0 (by show W.heap.size + 1 < _; omega) _, ownsRow_setCell_below o (by show W.heap.size + 1 < _; omega) _, D.setCell (by show W.heap.size ≤ W.heap.size + 1; omega) _⟩, c1, e1⟩
  · simp [go_sem, a0]
  · simp [go_sem, a1]
  · simp [go_sem, b0]
  · simp [go_sem, b1]
  · simp [go_sem, c0]
  · simp [go_sem, c1]
  · simp [go_sem, e0]
  · simp [go_sem, e1]
set_option maxHeartbeats 8000000 in
set_option maxRecDepth 100000 in
theorem eliminate_any (a : Option Addr) (cap : Nat) (l : List (Nat × Nat)) (hl : ltE l) (h128 : l.length ≤ 128) (W : World) (hr : ERow W a l) :
    Calls Try.prog 56 #[.slice a l.length cap] W fun e w' => ∃ v0 v1, e = .returned (.agg #[v0, v1]) ∧ w'.ownsRow W.heap.size 103 4 v0 (elm l l.length).1.length (flatR (elm l l.length).1) ∧ w'.ownsRow W.heap.size 3 1 v1 (elm l l.length).2.length (ints (elm l l.length).2) ∧ Below W.heap.size W w' := by
  have HR : Hid (ERow W a l) := hr
  obtain ⟨i0, hi, hz0, hz1, hz2⟩ := info_sint
  have HN : Hid (Try.prog.info? 3 = some i0 ∧ i0.zero = some (.int .i64 0) ∧ i0.size = 1 ∧ i0.bytes = 8) := ⟨hi, hz0, hz1, hz2⟩
  have HE : Hid (∀ i, i ≤ l.length → EI l i (elm l i)) := elm_ei hl
  have HX : Hid (ltE l) := hl
  clear hr hi hz0 hz1 hz2 hl
  go_enter Try.func56, Try.ntmps56
  go_wp2_with fail
  go_loopw [10] (fun u wr => ∃ i : Nat, i ≤ l.length ∧ u = .int .i64 i ∧ ∃ v0 v1, Eli W wr (elm l i).1 (elm l i).2 v0 v1) (fun u _ => l.length - (intOf u).toNat)
  case atStart => exact ⟨0, Nat.zero_le _, rfl, .slice none 0 0, .slice none 0 0, ⟨by simp [go_sem], by simp [go_sem], by simp [go_sem], by simp [go_sem], by simp [go_sem], by simp [go_sem], by simp [go_sem], by simp [go_sem], World.ownsRow_nil _ _ _ _, World.ownsRow_nil _ _ _ _, by go_grown⟩⟩
  case round =>
    obtain ⟨i, hil, rfl, v0, v1, hK⟩ := hrel
    obtain ⟨a0, n0, rfl⟩ := own_slc hK.o0
    obtain ⟨a1, n1, rfl⟩ := own_slc hK.o1
    have KE := HE.out i hil
    by_cases hlt : i < l.length
    · obtain ⟨b, off, rfl, hb, c1, c0⟩ := HR.out.cells i hlt
      have hx : lt2 (el l i) := ltE_el HX.out i
      have x1 : wr.cell? ⟨b, off + i * 2, none⟩ = some (.int .u64 ((el l i).1 : Int)) := (hK.d.cell (p := ⟨b, off + i * 2, none⟩) hb).trans c1
      have x0 : wr.cell? ⟨b, off + i * 2 + 1, none⟩ = some (.int .u64 ((el l i).2 : Int)) := (hK.d.cell (p := ⟨b, off + i * 2 + 1, none⟩) hb).trans c0
      have h1 : (elm l i).1.length ≤ 127 := by have := KE.len; have := KE.le; omega
      have h2 : (elm l i).2.length ≤ 127 := by have := KE.le; omega
      have HRd : Hid (∀ w, Below wr.heap.size wr w → Calls Try.prog 57 #[.agg #[.slice a0 (elm l i).1.length n0, .slice a1 (elm l i).2.length n1], .agg #[.int .u64 ((el l i).1 : Int), .int .u64 ((el l i).2 : Int)]] w fun e w' => e = .returned (.tuple #[.agg #[.int .u64 ((redv (elm l i).1 (el l i) (elm l i).1.length).1.1 : Int), .int .u64 ((redv (elm l i).1 (el l i) (elm l i).1.length).1.2 : Int)], .agg #[.int .u64 ((redv (elm l i).1 (el l i) (elm l i).1.length).2.1 : Int), .int .u64 ((redv (elm l i).1 (el l i) (elm l i).1.length).2.2 : Int)]]) ∧ Below w.heap.size w w') := fun w hw => reduce_any a0 n0 _ _ (el l i) w (own_rr (own_below hK.o0 hw)) (by omega) (ltR_of KE.rr KE.of) hx.1 hx.2
      have lr := redv_lt (ltR_of KE.rr KE.of) (el l i) hx.1 hx.2 (elm l i).1.length (Nat.le_refl _)
      have hst : elm l (i + 1) = stp (elm l i) i (el l i) := rfl
      have HT : Hid (ltR (elm l i).1) := ltR_of KE.rr KE.of
      unfold stp at hst
      simp only at hst
      have HQ : Hid (elm l (i + 1) = if (redv (elm l i).1 (el l i) (elm l i).1.length).1 = (0, 0) then elm l i else (more (elm l i).1 ((redv (elm l i).1 (el l i) (elm l i).1.length).1, xa (redv (elm l i).1 (el l i) (elm l i).1.length).2 (bv ((elm l i).2.length : Int))), (elm l i).2 ++ [i])) := hst
      clear hst KE c1 c0 hb HE HX
      generalize redv (elm l i).1 (el l i) (elm l i).1.length = q at *
      have lq : lt2 q.1 ∧ lt2 q.2 := lr
      clear lr
      have HB : Hid (Ret 73 #[.int .i64 ((elm l i).2.length : Int)] (.agg #[.int .u64 ((bv ((elm l i).2.length : Int)).1 : Int), .int .u64 ((bv ((elm l i).2.length : Int)).2 : Int)])) := bit_any _
      have HA : Hid (Ret 20 #[.agg #[.int .u64 (q.2.1 : Int), .int .u64 (q.2.2 : Int)], .agg #[.int .u64 ((bv ((elm l i).2.length : Int)).1 : Int), .int .u64 ((bv ((elm l i).2.length : Int)).2 : Int)]] (.agg #[.int .u64 ((xa q.2 (bv ((elm l i).2.length : Int))).1 : Int), .int .u64 ((xa q.2 (bv ((elm l i).2.length : Int))).2 : Int)])) := fun w => add_any _ _ _ _ lq.2.1 lq.2.2 (bv_lt2 _).1 (bv_lt2 _).2 w
      have ly : lt2 (xa q.2 (bv ((elm l i).2.length : Int))) := lt_xa lq.2 (bv_lt2 _)
      generalize xa q.2 (bv ((elm l i).2.length : Int)) = y at *
      generalize bv ((elm l i).2.length : Int) = z at *
      generalize elm l i = s at *
      generalize el l i = x at *
      have HK : Hid (Eli W wr s.1 s.2 (.slice a0 s.1.length n0) (.slice a1 s.2.length n1)) := hK
      have HL : Hid (lt2 q.1 ∧ lt2 y) := ⟨lq.1, ly⟩
      have m0 : ¬ (s.1.length : Int) = 128 := by omega
      have il : (i : Int) < (l.length : Int) := by omega
      have K1 := HK.out.below ((Below.refl _ _).alloc (Nat.le_refl _) (Obj.cells #[.int .u64 (x.1 : Int), .int .u64 (x.2 : Int)] 27))
      have s0 := K1.s0
      have s1 := K1.s1
      have HD1 : Hid (Below wr.heap.size wr (wr.alloc (Obj.cells #[.int .u64 (x.1 : Int), .int .u64 (x.2 : Int)] 27))) := (Below.refl _ _).alloc (Nat.le_refl _) _
      clear hK lq ly hx K1
      obtain ⟨⟨qh, ql⟩, ⟨oh, ol⟩⟩ := q
      simp only at HRd HA HQ HL
      by_cases ch : qh = 0
      · subst ch
        by_cases cl : ql = 0
        · subst cl
          go_wp2_with (go_at_call 57; refine (HRd.out _ HD1.out).mono ?_; rintro e w2 ⟨rfl, hb2⟩; have K2 : Hid (Eli W w2 s.1 s.2 (.slice a0 s.1.length n0) (.slice a1 s.2.length n1)) := (HK.out.below HD1.out).below hb2; clear hb2 HD1 HK HRd x1 x0 s0 s1)
          have K4 : Hid (Eli W _ s.1 s.2 (.slice a0 s.1.length n0) (.slice a1 s.2.length n1)) := K2.out.below (((Below.refl _ _).alloc (Nat.le_refl _) (Obj.cells #[.int .u64 0, .int .u64 0] 27)).alloc (by simp) (Obj.cells #[.int .u64 (oh : Int), .int .u64 (ol : Int)] 27))
          refine ⟨⟨i + 1, hlt, by simp, .slice a0 s.1.length n0, .slice a1 s.2.length n1, ?_⟩, by simp [intOf]; omega⟩
          rw [HQ.out, if_pos (by trivial)]
          exact K4.out
        · have cl' : ¬ (ql : Int) = 0 := by omega
          go_wp2_with (go_at_call 57; refine (HRd.out _ HD1.out).mono ?_; rintro e w2 ⟨rfl, hb2⟩; have K2 : Hid (Eli W w2 s.1 s.2 (.slice a0 s.1.length n0) (.slice a1 s.2.length n1)) := (HK.out.below HD1.out).below hb2; clear hb2 HD1 HK HRd x1 x0 s0 s1)
          have D3 : Below w2.heap.size w2 ((w2.alloc (Obj.cells #[.int .u64 0, .int .u64 (ql : Int)] 27)).alloc (Obj.cells #[.int .u64 (oh : Int), .int .u64 (ol : Int)] 27)) := ((Below.refl _ _).alloc (Nat.le_refl _) _).alloc (by simp) _
          have K : Hid (Eli W ((w2.alloc (Obj.cells #[.int .u64 0, .int .u64 (ql : Int)] 27)).alloc (Obj.cells #[.int .u64 (oh : Int), .int .u64 (ol : Int)] 27)) s.1 s.2 (.slice a0 s.1.length n0) (.slice a1 s.2.length n1)) := K2.out.below D3
          have F : Hid (((w2.alloc (Obj.cells #[.int .u64 0, .int .u64 (ql : Int)] 27)).alloc (Obj.cells #[.int .u64 (oh : Int), .int .u64 (ol : Int)] 27)).cell? ⟨w2.heap.size, 0, none⟩ = some (.int .u64 0) ∧ ((w2.alloc (Obj.cells #[.int .u64 0, .int .u64 (ql : Int)] 27)).alloc (Obj.cells #[.int .u64 (oh : Int), .int .u64 (ol : Int)] 27)).cell? ⟨w2.heap.size, 1, none⟩ = some (.int .u64 (ql : Int)) ∧ ((w2.alloc (Obj.cells #[.int .u64 0, .int .u64 (ql : Int)] 27)).alloc (Obj.cells #[.int .u64 (oh : Int), .int .u64 (ol : Int)] 27)).cell? ⟨w2.heap.size + 1, 0, none⟩ = some (.int .u64 (oh : Int)) ∧ ((w2.alloc (Obj.cells #[.int .u64 0, .int .u64 (ql : Int)] 27)).alloc (Obj.cells #[.int .u64 (oh : Int), .int .u64 (ol : Int)] 27)).cell? ⟨w2.heap.size + 1, 1, none⟩ = some (.int .u64 (ol : Int))) := ⟨by simp [go_sem], by simp [go_sem], by simp [go_sem], by simp [go_sem]⟩
          have s1 := K.out.s1
          have l1 := F.out.1
          have l0 := F.out.2.1
          have o1 := F.out.2.2.1
          have o0 := F.out.2.2.2
          clear D3 K2
          generalize ((w2.alloc (Obj.cells #[.int .u64 0, .int .u64 (ql : Int)] 27)).alloc (Obj.cells #[.int .u64 (oh : Int), .int .u64 (ol : Int)] 27)) = w3 at *
          generalize w2.heap.size = p at *
          refine wp_region_noPanic ?_
          refine wp_region_peel (S := (fun w => w.cell? ⟨p, 0, none⟩ = some (.int .u64 0) ∧ w.cell? ⟨p, 1, none⟩ = some (.int .u64 (ql : Int)) ∧ w.cell? ⟨p + 1, 0, none⟩ = some (.int .u64 (oh : Int)) ∧ w.cell? ⟨p + 1, 1, none⟩ = some (.int .u64 (ol : Int)) ∧ w.cell? ⟨W.heap.size + 1, 1, none⟩ = some (.slice a1 s.2.length n1))) 8 (by kernel_rfl) rfl (by kernel_rfl) ?_ (fun hHeld => ?_)
          · exact ⟨l1, l0, o1, o0, s1⟩
          clear s1 l1 l0 o1 o0
          refine wpAnyH_take (i := 0) (oi := _) (v := ?_) rfl (by kernel_rfl) (by kernel_rfl) (by kernel_rfl) (fun _ _ _ h => h) (Or.inl ⟨by rfl, ?_⟩) (by assumption) ?_
          rotate_left
          · ((intro w hSw; (try dsimp only at hSw); go_simp) <;> (try with_reducible rfl))
          try simp only [Act.put]
          refine wpAnyH_take (i := 1) (oi := _) (v := ?_) rfl (by kernel_rfl) (by kernel_rfl) (by kernel_rfl) (fun _ _ _ h => h) (Or.inl ⟨by rfl, ?_⟩) (by assumption) ?_
          rotate_left
          · ((intro w hSw; (try dsimp only at hSw); go_simp) <;> (try with_reducible rfl))
          try simp only [Act.put]
          refine wpAnyH_take (i := 2) (oi := _) (v := ?_) rfl (by kernel_rfl) (by kernel_rfl) (by kernel_rfl) (fun _ _ _ h => h) (Or.inl ⟨by rfl, ?_⟩) (by assumption) ?_
          rotate_left
          · ((intro w hSw; (try dsimp only at hSw); go_simp) <;> (try with_reducible rfl))
          try simp only [Act.put]
          refine wpAnyH_take (i := 3) (oi := _) (v := ?_) rfl (by kernel_rfl) (by kernel_rfl) (by kernel_rfl) (fun _ _ _ h => h) (Or.inl ⟨by rfl, ?_⟩) (by assumption) ?_
          rotate_left
          · ((intro w hSw; (try dsimp only at hSw); go_simp) <;> (try with_reducible rfl))
          try simp only [Act.put]
          refine wpAnyH_ready (rs := [4]) (by kernel_rfl) (by simp) ?_
          refine AllReadyH.cons (o := _) rfl (fun KK hKK => ?_) AllReadyH.nil
          go_simp
          refine hKK.out _ _ ?_ (fun hHeld => ?_)
          · go_keep
          clear hKK KK
          try simp only [Act.put]
          refine wpAnyH_ready (rs := [5]) (by kernel_rfl) (by simp) ?_
          refine AllReadyH.cons (o := _) rfl (fun KK hKK => ?_) AllReadyH.nil
          go_simp
          (go_at_call 73; refine (HB.out.go _).mono ?_; rintro e w5 ⟨rfl, hb'⟩)
          have K' : Hid (Eli W w5 s.1 s.2 (.slice a0 s.1.length n0) (.slice a1 s.2.length n1)) := Eli.below (by first | exact K.out | exact K.out.drew) hb'
          have F' : Hid (w5.cell? ⟨p, 0, none⟩ = some (.int .u64 0) ∧ w5.cell? ⟨p, 1, none⟩ = some (.int .u64 (ql : Int)) ∧ w5.cell? ⟨p + 1, 0, none⟩ = some (.int .u64 (oh : Int)) ∧ w5.cell? ⟨p + 1, 1, none⟩ = some (.int .u64 (ol : Int))) := ⟨keepc hb' F.out.1, keepc hb' F.out.2.1, keepc hb' F.out.2.2.1, keepc hb' F.out.2.2.2⟩
          clear hb' K F
          have K := K'
          have F := F'
          clear K' F' hHeld
          refine hKK.out _ _ ?_ (fun hHeld => ?_)
          · exact ⟨F.out.1, F.out.2.1, F.out.2.2.1, F.out.2.2.2, K.out.s1⟩
          clear hKK KK
          try simp only [Act.put]
          refine wpAnyH_ready (rs := [6]) (by kernel_rfl) (by simp) ?_
          refine AllReadyH.cons (o := _) rfl (fun KK hKK => ?_) AllReadyH.nil
          go_simp
          (go_at_call 20; refine (HA.out.go _).mono ?_; rintro e w6 ⟨rfl, hb'⟩)
          have K' : Hid (Eli W w6 s.1 s.2 (.slice a0 s.1.length n0) (.slice a1 s.2.length n1)) := Eli.below (by first | exact K.out | exact K.out.drew) hb'
          have F' : Hid (w6.cell? ⟨p, 0, none⟩ = some (.int .u64 0) ∧ w6.cell? ⟨p, 1, none⟩ = some (.int .u64 (ql : Int)) ∧ w6.cell? ⟨p + 1, 0, none⟩ = some (.int .u64 (oh : Int)) ∧ w6.cell? ⟨p + 1, 1, none⟩ = some (.int .u64 (ol : Int))) := ⟨keepc hb' F.out.1, keepc hb' F.out.2.1, keepc hb' F.out.2.2.1, keepc hb' F.out.2.2.2⟩
          clear hb' K F
          have K := K'
          have F := F'
          clear K' F' hHeld
          refine hKK.out _ _ ?_ (fun hHeld => ?_)
          · exact ⟨F.out.1, F.out.2.1, F.out.2.2.1, F.out.2.2.2, K.out.s1⟩
          clear hKK KK
          try simp only [Act.put]
          refine wpAnyH_take (i := 7) (oi := _) (v := ?_) rfl (by kernel_rfl) (by kernel_rfl) (by kernel_rfl) (fun _ _ _ h => h) (Or.inl ⟨by rfl, ?_⟩) (by assumption) ?_
          rotate_left
          · ((intro w hSw; (try dsimp only at hSw); go_simp) <;> (try with_reducible rfl))
          try simp only [Act.put]
          refine wpAnyH_done (by kernel_rfl) ?_ _
          refine peel_last rfl (fun KK hKK => ?_)
          clear hHeld
          go_simp
          have HAD := hidT (sadd_any (W.heap.size + 1) (.slice a0 s.1.length n0) (.slice a1 s.2.length n1) s.1 ((0, ql), y) w6 (cell_lt K.out.s0) K.out.s0 K.out.f0 K.out.s1 K.out.f1 K.out.o0 (by omega) HT.out HL.out.1 HL.out.2 (by simp; omega))
          (go_at_call 72; refine HAD.out.mono ?_; rintro e w9 ⟨v0', rfl, c0', f0', c1', f1', o', hB9, hkeep⟩)
          have K9 : Hid (Eli W w9 _ s.2 v0' (.slice a1 s.2.length n1)) := K.out.add c0' c1' f0' f1' o' hB9 hkeep
          clear hB9 hkeep c0' c1' f0' f1' o' K F HAD
          refine hKK _ _ ?_
          refine NoPanic.normal ?_
          clear hKK KK
          have s1 := K9.out.s1
          have HB9 := cell_lt K9.out.s1
          have hs9 := K9.out.d.size
          go_wp2_with (at_builtin; refine wpList_append_own _ rfl _ _ 79 rfl (W.heap.size + 1 + 1) 3 i0 (.int .i64 0) 1 8 Try.underlying79 HN.out.1 HN.out.2.1 HN.out.2.2.1 HN.out.2.2.2 rfl (by decide) _ _ _ rfl (own_below K9.out.o1 ((Below.refl _ _).alloc (Nat.le_refl _) _)) ⟨w9.heap.size, 0, none⟩ 1 1 [.int .i64 (i : Int)] rfl rfl (fun p u hu => by rcases p with _ | p <;> simp at hu <;> subst hu <;> simp [go_sem]) (by intro u hu; simp at hu; subst hu; rfl) (by simp only [maxLen]; omega) (by omega) (by simp; omega) ?_; intro v' w' hown hgr _; obtain ⟨a2, n2, rfl⟩ := own_slc hown; have KP := (K9.out.below ((Below.refl _ _).alloc (Nat.le_refl _) (Obj.cells #[.int .i64 (i : Int)] 3))).push (fr' := s.2 ++ [i]) hgr (by rw [List.length_append]; simpa [ints] using hown); have P1 := KP.2.1; have P2 := KP.2.2; have KQ : Hid (Eli W _ _ (s.2 ++ [i]) v0' _) := KP.1; clear hown hgr KP s1)
          refine ⟨⟨i + 1, hlt, by simp, v0', .slice a2 (s.2.length + 1) n2, ?_⟩, by simp [intOf]; omega⟩
          rw [HQ.out, if_neg (by simp; omega)]
          exact KQ.out
      · have ch' : ¬ (qh : Int) = 0 := by omega
        go_wp2_with (go_at_call 57; refine (HRd.out _ HD1.out).mono ?_; rintro e w2 ⟨rfl, hb2⟩; have K2 : Hid (Eli W w2 s.1 s.2 (.slice a0 s.1.length n0) (.slice a1 s.2.length n1)) := (HK.out.below HD1.out).below hb2; clear hb2 HD1 HK HRd x1 x0 s0 s1)
        have D3 : Below w2.heap.size w2 ((w2.alloc (Obj.cells #[.int .u64 (qh : Int), .int .u64 (ql : Int)] 27)).alloc (Obj.cells #[.int .u64 (oh : Int), .int .u64 (ol : Int)] 27)) := ((Below.refl _ _).alloc (Nat.le_refl _) _).alloc (by simp) _
        have K : Hid (Eli W ((w2.alloc (Obj.cells #[.int .u64 (qh : Int), .int .u64 (ql : Int)] 27)).alloc (Obj.cells #[.int .u64 (oh : Int), .int .u64 (ol : Int)] 27)) s.1 s.2 (.slice a0 s.1.length n0) (.slice a1 s.2.length n1)) := K2.out.below D3
        have F : Hid (((w2.alloc (Obj.cells #[.int .u64 (qh : Int), .int .u64 (ql : Int)] 27)).alloc (Obj.cells #[.int .u64 (oh : Int), .int .u64 (ol : Int)] 27)).cell? ⟨w2.heap.size, 0, none⟩ = some (.int .u64 (qh : Int)) ∧ ((w2.alloc (Obj.cells #[.int .u64 (qh : Int), .int .u64 (ql : Int)] 27)).alloc (Obj.cells #[.int .u64 (oh : Int), .int .u64 (ol : Int)] 27)).cell? ⟨w2.heap.size, 1, none⟩ = some (.int .u64 (ql : Int)) ∧ ((w2.alloc (Obj.cells #[.int .u64 (qh : Int), .int .u64 (ql : Int)] 27)).alloc (Obj.cells #[.int .u64 (oh : Int), .int .u64 (ol : Int)] 27)).cell? ⟨w2.heap.size + 1, 0, none⟩ = some (.int .u64 (oh : Int)) ∧ ((w2.alloc (Obj.cells #[.int .u64 (qh : Int), .int .u64 (ql : Int)] 27)).alloc (Obj.cells #[.int .u64 (oh : Int), .int .u64 (ol : Int)] 27)).cell? ⟨w2.heap.size + 1, 1, none⟩ = some (.int .u64 (ol : Int))) := ⟨by simp [go_sem], by simp [go_sem], by simp [go_sem], by simp [go_sem]⟩
        have s1 := K.out.s1
        have l1 := F.out.1
        have l0 := F.out.2.1
        have o1 := F.out.2.2.1
        have o0 := F.out.2.2.2
        clear D3 K2
        generalize ((w2.alloc (Obj.cells #[.int .u64 (qh : Int), .int .u64 (ql : Int)] 27)).alloc (Obj.cells #[.int .u64 (oh : Int), .int .u64 (ol : Int)] 27)) = w3 at *
        generalize w2.heap.size = p at *
        refine wp_region_noPanic ?_
        refine wp_region_peel (S := (fun w => w.cell? ⟨p, 0, none⟩ = some (.int .u64 (qh : Int)) ∧ w.cell? ⟨p, 1, none⟩ = some (.int .u64 (ql : Int)) ∧ w.cell? ⟨p + 1, 0, none⟩ = some (.int .u64 (oh : Int)) ∧ w.cell? ⟨p + 1, 1, none⟩ = some (.int .u64 (ol : Int)) ∧ w.cell? ⟨W.heap.size + 1, 1, none⟩ = some (.slice a1 s.2.length n1))) 8 (by kernel_rfl) rfl (by kernel_rfl) ?_ (fun hHeld => ?_)
        · exact ⟨l1, l0, o1, o0, s1⟩
        clear s1 l1 l0 o1 o0
        refine wpAnyH_take (i := 0) (oi := _) (v := ?_) rfl (by kernel_rfl) (by kernel_rfl) (by kernel_rfl) (fun _ _ _ h => h) (Or.inl ⟨by rfl, ?_⟩) (by assumption) ?_
        rotate_left
        · ((intro w hSw; (try dsimp only at hSw); go_simp) <;> (try with_reducible rfl))
        try simp only [Act.put]
        refine wpAnyH_take (i := 1) (oi := _) (v := ?_) rfl (by kernel_rfl) (by kernel_rfl) (by kernel_rfl) (fun _ _ _ h => h) (Or.inl ⟨by rfl, ?_⟩) (by assumption) ?_
        rotate_left
        · ((intro w hSw; (try dsimp only at hSw); go_simp) <;> (try with_reducible rfl))
        try simp only [Act.put]
        refine wpAnyH_take (i := 2) (oi := _) (v := ?_) rfl (by kernel_rfl) (by kernel_rfl) (by kernel_rfl) (fun _ _ _ h => h) (Or.inl ⟨by rfl, ?_⟩) (by assumption) ?_
        rotate_left
        · ((intro w hSw; (try dsimp only at hSw); go_simp) <;> (try with_reducible rfl))
        try simp only [Act.put]
        refine wpAnyH_take (i := 3) (oi := _) (v := ?_) rfl (by kernel_rfl) (by kernel_rfl) (by kernel_rfl) (fun _ _ _ h => h) (Or.inl ⟨by rfl, ?_⟩) (by assumption) ?_
        rotate_left
        · ((intro w hSw; (try dsimp only at hSw); go_simp) <;> (try with_reducible rfl))
        try simp only [Act.put]
        refine wpAnyH_ready (rs := [4]) (by kernel_rfl) (by simp) ?_
        refine AllReadyH.cons (o := _) rfl (fun KK hKK => ?_) AllReadyH.nil
        go_simp
        refine hKK.out _ _ ?_ (fun hHeld => ?_)
        · go_keep
        clear hKK KK
        try simp only [Act.put]
        refine wpAnyH_ready (rs := [5]) (by kernel_rfl) (by simp) ?_
        refine AllReadyH.cons (o := _) rfl (fun KK hKK => ?_) AllReadyH.nil
        go_simp
        (go_at_call 73; refine (HB.out.go _).mono ?_; rintro e w5 ⟨rfl, hb'⟩)
        have K' : Hid (Eli W w5 s.1 s.2 (.slice a0 s.1.length n0) (.slice a1 s.2.length n1)) := Eli.below (by first | exact K.out | exact K.out.drew) hb'
        have F' : Hid (w5.cell? ⟨p, 0, none⟩ = some (.int .u64 (qh : Int)) ∧ w5.cell? ⟨p, 1, none⟩ = some (.int .u64 (ql : Int)) ∧ w5.cell? ⟨p + 1, 0, none⟩ = some (.int .u64 (oh : Int)) ∧ w5.cell? ⟨p + 1, 1, none⟩ = some (.int .u64 (ol : Int))) := ⟨keepc hb' F.out.1, keepc hb' F.out.2.1, keepc hb' F.out.2.2.1, keepc hb' F.out.2.2.2⟩
        clear hb' K F
        have K := K'
        have F := F'
        clear K' F' hHeld
        refine hKK.out _ _ ?_ (fun hHeld => ?_)
        · exact ⟨F.out.1, F.out.2.1, F.out.2.2.1, F.out.2.2.2, K.out.s1⟩
        clear hKK KK
        try simp only [Act.put]
        refine wpAnyH_ready (rs := [6]) (by kernel_rfl) (by simp) ?_
        refine AllReadyH.cons (o := _) rfl (fun KK hKK => ?_) AllReadyH.nil
        go_simp
        (go_at_call 20; refine (HA.out.go _).mono ?_; rintro e w6 ⟨rfl, hb'⟩)
        have K' : Hid (Eli W w6 s.1 s.2 (.slice a0 s.1.length n0) (.slice a1 s.2.length n1)) := Eli.below (by first | exact K.out | exact K.out.drew) hb'
        have F' : Hid (w6.cell? ⟨p, 0, none⟩ = some (.int .u64 (qh : Int)) ∧ w6.cell? ⟨p, 1, none⟩ = some (.int .u64 (ql : Int)) ∧ w6.cell? ⟨p + 1, 0, none⟩ = some (.int .u64 (oh : Int)) ∧ w6.cell? ⟨p + 1, 1, none⟩ = some (.int .u64 (ol : Int))) := ⟨keepc hb' F.out.1, keepc hb' F.out.2.1, keepc hb' F.out.2.2.1, keepc hb' F.out.2.2.2⟩
        clear hb' K F
        have K := K'
        have F := F'
        clear K' F' hHeld
        refine hKK.out _ _ ?_ (fun hHeld => ?_)
        · exact ⟨F.out.1, F.out.2.1, F.out.2.2.1, F.out.2.2.2, K.out.s1⟩
        clear hKK KK
        try simp only [Act.put]
        refine wpAnyH_take (i := 7) (oi := _) (v := ?_) rfl (by kernel_rfl) (by kernel_rfl) (by kernel_rfl) (fun _ _ _ h => h) (Or.inl ⟨by rfl, ?_⟩) (by assumption) ?_
        rotate_left
        · ((intro w hSw; (try dsimp only at hSw); go_simp) <;> (try with_reducible rfl))
        try simp only [Act.put]
        refine wpAnyH_done (by kernel_rfl) ?_ _
        refine peel_last rfl (fun KK hKK => ?_)
        clear hHeld
        go_simp
        have HAD := hidT (sadd_any (W.heap.size + 1) (.slice a0 s.1.length n0) (.slice a1 s.2.length n1) s.1 ((qh, ql), y) w6 (cell_lt K.out.s0) K.out.s0 K.out.f0 K.out.s1 K.out.f1 K.out.o0 (by omega) HT.out HL.out.1 HL.out.2 (by simp; omega))
        (go_at_call 72; refine HAD.out.mono ?_; rintro e w9 ⟨v0', rfl, c0', f0', c1', f1', o', hB9, hkeep⟩)
        have K9 : Hid (Eli W w9 _ s.2 v0' (.slice a1 s.2.length n1)) := K.out.add c0' c1' f0' f1' o' hB9 hkeep
        clear hB9 hkeep c0' c1' f0' f1' o' K F HAD
        refine hKK _ _ ?_
        refine NoPanic.normal ?_
        clear hKK KK
        have s1 := K9.out.s1
        have HB9 := cell_lt K9.out.s1
        have hs9 := K9.out.d.size
        go_wp2_with (at_builtin; refine wpList_append_own _ rfl _ _ 79 rfl (W.heap.size + 1 + 1) 3 i0 (.int .i64 0) 1 8 Try.underlying79 HN.out.1 HN.out.2.1 HN.out.2.2.1 HN.out.2.2.2 rfl (by decide) _ _ _ rfl (own_below K9.out.o1 ((Below.refl _ _).alloc (Nat.le_refl _) _)) ⟨w9.heap.size, 0, none⟩ 1 1 [.int .i64 (i : Int)] rfl rfl (fun p u hu => by rcases p with _ | p <;> simp at hu <;> subst hu <;> simp [go_sem]) (by intro u hu; simp at hu; subst hu; rfl) (by simp only [maxLen]; omega) (by omega) (by simp; omega) ?_; intro v' w' hown hgr _; obtain ⟨a2, n2, rfl⟩ := own_slc hown; have KP := (K9.out.below ((Below.refl _ _).alloc (Nat.le_refl _) (Obj.cells #[.int .i64 (i : Int)] 3))).push (fr' := s.2 ++ [i]) hgr (by rw [List.length_append]; simpa [ints] using hown); have P1 := KP.2.1; have P2 := KP.2.2; have KQ : Hid (Eli W _ _ (s.2 ++ [i]) v0' _) := KP.1; clear hown hgr KP s1)
        refine ⟨⟨i + 1, hlt, by simp, v0', .slice a2 (s.2.length + 1) n2, ?_⟩, by simp [intOf]; omega⟩
        rw [HQ.out, if_neg (by simp; omega)]
        exact KQ.out
    · obtain rfl : i = l.length := by omega
      have s0 := hK.s0
      have s1 := hK.s1
      have r0 := hK.r0
      have r1 := hK.r1
      have g0 := hK.g0
      have g1 := hK.g1
      have HD : Hid (Below W.heap.size W wr) := hK.d
      have HO := hidT hK.o0
      have HP := hidT hK.o1
      have hlt2 := cell_lt hK.s0
      clear hK
      generalize hN0 : (elm l l.length).1.length = N0 at *
      generalize hN1 : (elm l l.length).2.length = N1 at *
      have HN0 : Hid ((elm l l.length).1.length = N0) := hN0
      have HN1 : Hid ((elm l l.length).2.length = N1) := hN1
      clear hN0 hN1
      go_wp2
      refine bodyPost_ret (v := .agg #[.slice a0 N0 n0, .slice a1 N1 n1]) (by simp [results, Try.results56, go_sem, *]) rfl ⟨_, _, rfl, ?_, ?_, ?_⟩
      · rw [HN0.out]; exact own_base (ownsRow_setCell_below (ownsRow_setCell_below (own_base HO.out (show W.heap.size + 1 ≤ W.heap.size + 1 + 1 by omega)) (show W.heap.size < W.heap.size + 1 by omega) _) (show W.heap.size < W.heap.size + 1 by omega) _) (Nat.le_succ _)
      · rw [HN1.out]; exact own_base (ownsRow_setCell_below (ownsRow_setCell_below (own_base HP.out (show W.heap.size + 1 ≤ W.heap.size + 1 + 1 by omega)) (show W.heap.size < W.heap.size + 1 by omega) _) (show W.heap.size < W.heap.size + 1 by omega) _) (Nat.le_succ _)
      · exact below2 (p := W.heap.size) HD.out (Nat.le_refl _) _ _
end Go.Proofs.Ytnecjkdlmecgdaa
