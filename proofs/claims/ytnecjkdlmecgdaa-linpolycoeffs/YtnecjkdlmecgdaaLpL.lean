/- The contract of linpoly.made for any basis, over the seat's translation. -/
import Derived.Test.YtnecjkdlmecgdaaPLpK
namespace Go.Proofs.Ytnecjkdlmecgdaa
open Go.RowKit

theorem own_erow {w : World} {base : Nat} {T : TypeId} {a : Option Addr} {cap : Nat} {es : List (Nat × Nat)} (h : w.ownsRow base T 2 (.slice a es.length cap) es.length (flat es)) : ERow w a es := by
  obtain ⟨a', cap', e, hE⟩ := own_row h
  injection e with e1
  rw [e1]; exact hE
theorem ltE.snoc {es : List (Nat × Nat)} (h : ltE es) {e : Nat × Nat} (h1 : e.1 < 2 ^ 64 ∧ e.2 < 2 ^ 64) : ltE (es ++ [e]) := fun x hx => by
  rcases List.mem_append.1 hx with h2 | h2
  · exact h x h2
  · rw [List.mem_singleton.1 h2]; exact h1
/-- The tops are the values of W at the basis. -/
def TopsOk (l : Int) (ts es : List (Nat × Nat)) : Prop := ∀ i, i < ts.length → ts.getD i (0, 0) = wv l ts (es.getD i (0, 0)) i
theorem wv_more (l : Int) (ts : List (Nat × Nat)) (y x : Nat × Nat) : ∀ k, k ≤ ts.length → wv l (ts ++ [y]) x k = wv l ts x k
  | 0, _ => rfl
  | k + 1, h => by
    have e : (ts ++ [y]).getD k (0, 0) = ts.getD k (0, 0) := by simp [List.getD, List.getElem?_append_left (show k < ts.length from h)]
    show mulv l (wv l (ts ++ [y]) x k) _ = mulv l (wv l ts x k) _
    rw [wv_more l ts y x k (by omega), e]
theorem TopsOk.snoc {l : Int} {ts es : List (Nat × Nat)} {y : Nat × Nat} (h : TopsOk l ts es) (hy : wv l ts (es.getD ts.length (0, 0)) ts.length = y) : TopsOk l (ts ++ [y]) es := fun i hi => by
  rw [List.length_append, List.length_singleton] at hi
  rw [wv_more l ts y _ i (by omega)]
  by_cases h1 : i < ts.length
  · rw [← h i h1]; simp [List.getD, List.getElem?_append_left h1]
  · obtain rfl : i = ts.length := by omega
    rw [hy]; simp [List.getD]
set_option maxHeartbeats 8000000 in
set_option maxRecDepth 100000 in
theorem made_any (l : Int) (a : Option Addr) (cap : Nat) (es : List (Nat × Nat)) (W : World) (hr : ERow W a es) (h10 : es.length ≤ 10) (hes : ltE es) (iv : Nat × Nat → Nat × Nat)
    (HI : Hid (∀ y : Nat × Nat, y.1 < 2 ^ 64 → y.2 < 2 ^ 64 → Ret 65 #[.int .i64 l, .agg #[.int .u64 (y.1 : Int), .int .u64 (y.2 : Int)]] (.agg #[.int .u64 ((iv y).1 : Int), .int .u64 ((iv y).2 : Int)]))) :
    Calls Try.prog 43 #[.int .i64 l, .slice a es.length cap] W fun e w' => ∃ aT aB cT cB ts bs, e = .returned (.pointer (some ⟨W.heap.size, 0, none⟩)) ∧ ts.length = es.length ∧ bs.length = es.length ∧ ltE ts ∧ bs = ts.map iv ∧ TopsOk l ts es ∧ Mk W w' l (.slice a es.length cap) (.slice aT ts.length cT) (.slice aB ts.length cB) ts.length ts.length (flat ts) (flat bs) := by
  have HR : Hid (ERow W a es) := hr
  have HL : Hid (ltE es) := hes
  obtain ⟨i0, hi, hz0, hz1, hz2⟩ := info_elem
  have HN : Hid (Try.prog.info? 27 = some i0 ∧ i0.zero = some (.agg #[.int .u64 0, .int .u64 0]) ∧ i0.size = 2 ∧ i0.bytes = 16) := ⟨hi, hz0, hz1, hz2⟩
  clear hr hes hi hz0 hz1 hz2
  go_enter Try.func43, Try.ntmps43
  go_wp2_with fail
  go_loopw [15] (fun u wr => ∃ (aT aB : Option Addr) (cT cB : Nat) (ts bs : List (Nat × Nat)), ts.length ≤ es.length ∧ u = .int .i64 (ts.length : Int) ∧ bs.length = ts.length ∧ Hid (ltE ts) ∧ Hid (bs = ts.map iv) ∧ Hid (TopsOk l ts es) ∧ Mk W wr l (.slice a es.length cap) (.slice aT ts.length cT) (.slice aB ts.length cB) ts.length ts.length (flat ts) (flat bs)) (fun u _ => es.length - (intOf u).toNat)
  case atStart => exact ⟨none, none, 0, 0, [], [], Nat.zero_le _, rfl, rfl, (fun e he => by cases he), (by rfl), (fun i hi => by simp at hi), by simp [go_sem], by simp [go_sem], by simp [go_sem], by simp [go_sem], by simp [go_sem], by simp [go_sem], World.ownsRow_nil _ _ _ _, World.ownsRow_nil _ _ _ _, (fun g h e => by cases e), by go_grown⟩
  case round =>
    obtain ⟨aT, aB, cT, cB, ts, bs, hj, rfl, hbl, HT, HBS, HTO, hM⟩ := hrel
    by_cases hlt : ts.length < es.length
    · obtain ⟨b, off, rfl, hb, d1, d0⟩ := HR.out.cells ts.length hlt
      have b1 : wr.cell? ⟨b, off + ts.length * 2, none⟩ = some (.int .u64 ((es.getD ts.length (0, 0)).1 : Nat)) := by rw [hM.d.cell (p := ⟨b, off + ts.length * 2, none⟩) hb]; exact d1
      have b0 : wr.cell? ⟨b, off + ts.length * 2 + 1, none⟩ = some (.int .u64 ((es.getD ts.length (0, 0)).2 : Nat)) := by rw [hM.d.cell (p := ⟨b, off + ts.length * 2 + 1, none⟩) hb]; exact d0
      have HX : Hid ((es.getD ts.length (0, 0)).1 < 2 ^ 64 ∧ (es.getD ts.length (0, 0)).2 < 2 ^ 64) := HL.out.at _
      have KM : Hid (Mk W wr l (.slice (some ⟨b, off, none⟩) es.length cap) (.slice aT ts.length cT) (.slice aB ts.length cB) ts.length ts.length (flat ts) (flat bs)) := hM
      clear hM d1 d0 hb HR HL
      obtain ⟨x, HXE⟩ : ∃ x, Hid (es.getD ts.length (0, 0) = x) := ⟨_, rfl⟩
      rw [HXE.out] at b1 b0 HX
      go_wp2_with fail
      have K1 : Hid (Mk W (wr.alloc (Obj.cells #[.int .u64 (x.1 : Int), .int .u64 (x.2 : Int)] 27)) l (.slice (some ⟨b, off, none⟩) es.length cap) (.slice aT ts.length cT) (.slice aB ts.length cB) ts.length ts.length (flat ts) (flat bs)) := KM.out.below ((Below.refl _ _).alloc (Nat.le_refl _) _)
      refine (value_any l W.heap.size ts.length x aT cT ts _ (cell_lt K1.out.c0) K1.out.c0 K1.out.c2 (own_erow K1.out.oT) (Nat.le_refl _) (by omega) HT.out HX.out.1 HX.out.2).mono ?_
      rintro e w2 ⟨rfl, hb2⟩
      have K2 : Hid (Mk W w2 l (.slice (some ⟨b, off, none⟩) es.length cap) (.slice aT ts.length cT) (.slice aB ts.length cB) ts.length ts.length (flat ts) (flat bs)) := K1.out.below hb2
      have HY : Hid ((wv l ts x ts.length).1 < 2 ^ 64 ∧ (wv l ts x ts.length).2 < 2 ^ 64) := wv_lt l ts x HX.out.1 HX.out.2 _
      clear hb2 K1 KM b1 b0 HX
      obtain ⟨y, HYE⟩ : ∃ y, Hid (wv l ts x ts.length = y) := ⟨_, rfl⟩
      rw [HYE.out] at HY ⊢
      go_upto_region 6 with fail
      have K3 : Hid (Mk W (w2.alloc (Obj.cells #[.int .u64 (y.1 : Int), .int .u64 (y.2 : Int)] 27)) l (.slice (some ⟨b, off, none⟩) es.length cap) (.slice aT ts.length cT) (.slice aB ts.length cB) ts.length ts.length (flat ts) (flat bs)) := K2.out.below ((Below.refl _ _).alloc (Nat.le_refl _) _)
      have q1 : (w2.alloc (Obj.cells #[.int .u64 (y.1 : Int), .int .u64 (y.2 : Int)] 27)).cell? ⟨w2.heap.size, 0, none⟩ = some (.int .u64 (y.1 : Int)) := by simp [go_sem]
      have q0 : (w2.alloc (Obj.cells #[.int .u64 (y.1 : Int), .int .u64 (y.2 : Int)] 27)).cell? ⟨w2.heap.size, 1, none⟩ = some (.int .u64 (y.2 : Int)) := by simp [go_sem]
      have hq : W.heap.size < w2.heap.size := cell_lt K2.out.c0
      have hqT : Hid (∀ k, Value.ownBlock (.slice aT ts.length cT) = some k → k < w2.heap.size) := fun k e => (K2.out.oT.lt k e).2
      have hqB : Hid (∀ k, Value.ownBlock (.slice aB ts.length cB) = some k → k < w2.heap.size) := fun k e => (K2.out.oB.lt k e).2
      have hw3 : w2.heap.size < (w2.alloc (Obj.cells #[.int .u64 (y.1 : Int), .int .u64 (y.2 : Int)] 27)).heap.size := by simp
      generalize w2.alloc (Obj.cells #[.int .u64 (y.1 : Int), .int .u64 (y.2 : Int)] 27) = w3 at *
      generalize w2.heap.size = q at *
      clear K2
      have t2 := K3.out.c2
      refine wp_region_noPanic ?_
      refine wp_region_peel (S := fun w => w.cell? ⟨W.heap.size, 2, none⟩ = some (.slice aT ts.length cT) ∧ w.cell? ⟨q, 0, none⟩ = some (.int .u64 (y.1 : Int)) ∧ w.cell? ⟨q, 1, none⟩ = some (.int .u64 (y.2 : Int))) 10 (by kernel_rfl) rfl (by kernel_rfl) ?_ (fun hHeld => ?_)
      · exact ⟨t2, q1, q0⟩
      refine wpAnyH_take (i := 0) (oi := _) (v := ?_) rfl (by kernel_rfl) (by kernel_rfl) (by kernel_rfl) (fun _ _ _ h => h) (Or.inl ⟨by rfl, ?_⟩) (by assumption) ?_
      rotate_left
      · ((intro w hSw; (try dsimp only at hSw); go_simp) <;> (try with_reducible rfl))
      try simp only [Act.put]
      refine wpAnyH_take (i := 1) (oi := _) (v := ?_) rfl (by kernel_rfl) (by kernel_rfl) (by kernel_rfl) (fun _ _ _ h => h) (Or.inl ⟨by rfl, ?_⟩) (by assumption) ?_
      rotate_left
      · ((intro w hSw; (try dsimp only at hSw); go_simp) <;> (try with_reducible rfl))
      try simp only [Act.put]
      refine wpAnyH_take (i := 2) (oi := _) (v := ?_) rfl (by kernel_rfl) (by kernel_rfl) (by kernel_rfl) (fun _ _ _ h => h) (Or.inl ⟨by rfl, ?_⟩) (by assumption) ?_
      rotate_left
      · ((intro w hSw; (try dsimp only at hSw); go_simp) <;> (try with_reducible rfl))
      try simp only [Act.put]
      refine wpAnyH_take (i := 3) (oi := _) (v := ?_) rfl (by kernel_rfl) (by kernel_rfl) (by kernel_rfl) (fun _ _ _ h => h) (Or.inl ⟨by rfl, ?_⟩) (by assumption) ?_
      rotate_left
      · ((intro w hSw; (try dsimp only at hSw); go_simp) <;> (try with_reducible rfl))
      try simp only [Act.put]
      refine wpAnyH_take (i := 4) (oi := _) (v := ?_) rfl (by kernel_rfl) (by kernel_rfl) (by kernel_rfl) (fun _ _ _ h => h) (Or.inl ⟨by rfl, ?_⟩) (by assumption) ?_
      rotate_left
      · ((intro w hSw; (try dsimp only at hSw); go_simp) <;> (try with_reducible rfl))
      try simp only [Act.put]
      refine wpAnyH_take (i := 5) (oi := _) (v := ?_) rfl (by kernel_rfl) (by kernel_rfl) (by kernel_rfl) (fun _ _ _ h => h) (Or.inl ⟨by rfl, ?_⟩) (by assumption) ?_
      rotate_left
      · ((intro w hSw; (try dsimp only at hSw); go_simp) <;> (try with_reducible rfl))
      try simp only [Act.put]
      refine wpAnyH_ready (rs := [6]) (by kernel_rfl) (by simp) ?_
      refine AllReadyH.cons (o := _) rfl (fun KK hKK => ?_) AllReadyH.nil
      go_simp
      refine hKK.out _ _ ?_ (fun hHeld => ?_)
      · go_keep
      clear hKK KK
      try simp only [Act.put]
      refine wpAnyH_ready (rs := [7]) (by kernel_rfl) (by simp) ?_
      refine AllReadyH.cons (o := _) rfl (fun KK hKK => ?_) AllReadyH.nil
      simp only [Array.getElem_pop, List.getElem_toArray, List.getElem_cons_succ, List.getElem_cons_zero]
      rw [if_pos (by rfl)]
      have BA : Below w3.heap.size w3 (w3.drew.alloc (Obj.cells #[.int .u64 (y.1 : Int), .int .u64 (y.2 : Int)] 27)) := (Below.refl _ _).drew.alloc (Nat.le_refl _) _
      refine wp_append_lies _ _ _ 22 rfl (W.heap.size + 1) 27 i0 (.agg #[.int .u64 0, .int .u64 0]) 2 16 Try.underlying22 HN.out.1 HN.out.2.1 HN.out.2.2.1 HN.out.2.2.2 rfl (by decide) (.slice aT ts.length cT) ts.length (flat ts) rfl (own_below K3.out.oT BA) ⟨w3.heap.size, 0, none⟩ 1 1 [.int .u64 (y.1 : Int), .int .u64 (y.2 : Int)] rfl rfl ?_ ?_ (by decide) (by simp only [maxLen]; omega) (by omega) ?_ (w3.drew.alloc (Obj.cells #[.int .u64 (y.1 : Int), .int .u64 (y.2 : Int)] 27)).heap.size rfl ?_
      · exact fun p u hu => by rcases p with _ | _ | p <;> simp at hu <;> subst hu <;> simp [go_sem]
      · intro u hu; simp at hu; rcases hu with rfl | rfl <;> rfl
      · simp; omega
      intro g cap' w' own' hgr hl hg
      refine hKK.out _ _ ?_ (fun hHeld => ?_)
      · exact ⟨(grown_cell hgr (by simp; omega) (row_ne K3.out.oT (by omega))).trans (keepc BA t2), (grown_cell hgr (by simp; omega) (fun e => by have := hqT.out q e.symm; omega)).trans (keepc BA q1), (grown_cell hgr (by simp; omega) (fun e => by have := hqT.out q e.symm; omega)).trans (keepc BA q0)⟩
      clear hKK KK
      try simp only [Act.put]
      refine wpAnyH_take (i := 8) (oi := _) (v := ?_) rfl (by kernel_rfl) (by kernel_rfl) (by kernel_rfl) (fun _ _ _ h => h) (Or.inl ⟨by rfl, ?_⟩) (by assumption) ?_
      rotate_left
      · ((intro w hSw; (try dsimp only at hSw); go_simp) <;> (try with_reducible rfl))
      try simp only [Act.put]
      refine wpAnyH_take (i := 9) (oi := _) (v := ?_) rfl (by kernel_rfl) (by kernel_rfl) (by kernel_rfl) (fun _ _ _ h => h) (Or.inl ⟨by rfl, ?_⟩) (by assumption) ?_
      rotate_left
      · ((intro w hSw; (try dsimp only at hSw); go_simp) <;> (try with_reducible rfl))
      try simp only [Act.put]
      refine wpAnyH_done (by kernel_rfl) ?_ _
      refine peel_last rfl (fun KK hKK => ?_)
      have K4 : Hid (Mk W (w'.setCell ⟨W.heap.size, 2, none⟩ (.slice (some ⟨g, 0, none⟩) (ts.length + 1) cap')) l (.slice (some ⟨b, off, none⟩) es.length cap) (.slice (some ⟨g, 0, none⟩) (ts.length + 1) cap') (.slice aB ts.length cB) (ts.length + 1) ts.length (flat ts ++ [.int .u64 (y.1 : Int), .int .u64 (y.2 : Int)]) (flat bs)) := K3.out.tops BA hgr own' rfl hl
      have u2 : w'.cell? ⟨W.heap.size, 2, none⟩ = some (.slice aT ts.length cT) := (grown_cell hgr (by simp; omega) (row_ne K3.out.oT (by omega))).trans (keepc BA t2)
      have g2 : w'.frozen? ⟨W.heap.size, 2, none⟩ = false := (grown_frozen hgr (by simp; omega) (row_ne K3.out.oT (by omega))).trans (keepf BA t2 K3.out.f2)
      have q1' : (w'.setCell ⟨W.heap.size, 2, none⟩ (.slice (some ⟨g, 0, none⟩) (ts.length + 1) cap')).cell? ⟨q, 0, none⟩ = some (.int .u64 (y.1 : Int)) := by
        rw [World.cell?_setCell_other _ _ _ _ (fun e => by injection e with e1; omega), grown_cell hgr (by simp; omega) (fun e => by have := hqT.out q e.symm; omega)]; exact keepc BA q1
      have q0' : (w'.setCell ⟨W.heap.size, 2, none⟩ (.slice (some ⟨g, 0, none⟩) (ts.length + 1) cap')).cell? ⟨q, 1, none⟩ = some (.int .u64 (y.2 : Int)) := by
        rw [World.cell?_setCell_other _ _ _ _ (fun e => by injection e with e1; omega), grown_cell hgr (by simp; omega) (fun e => by have := hqT.out q e.symm; omega)]; exact keepc BA q0
      clear hHeld q1 q0 t2 own' hgr hl hg BA K3 hqT hw3
      go_simp
      refine hKK _ _ ?_
      refine NoPanic.normal ?_
      clear hKK KK u2 g2
      have hw5 : q < (w'.setCell ⟨W.heap.size, 2, none⟩ (.slice (some ⟨g, 0, none⟩) (ts.length + 1) cap')).heap.size := cell_lt q1'
      generalize w'.setCell ⟨W.heap.size, 2, none⟩ (.slice (some ⟨g, 0, none⟩) (ts.length + 1) cap') = w5 at *
      go_upto_region 7 with fail
      have t3 := K4.out.c3
      refine wp_region_noPanic ?_
      refine wp_region_peel (S := fun w => w.cell? ⟨W.heap.size, 3, none⟩ = some (.slice aB ts.length cB) ∧ w.cell? ⟨q, 0, none⟩ = some (.int .u64 (y.1 : Int)) ∧ w.cell? ⟨q, 1, none⟩ = some (.int .u64 (y.2 : Int))) 12 (by kernel_rfl) rfl (by kernel_rfl) ?_ (fun hHeld => ?_)
      · exact ⟨t3, q1', q0'⟩
      refine wpAnyH_take (i := 0) (oi := _) (v := ?_) rfl (by kernel_rfl) (by kernel_rfl) (by kernel_rfl) (fun _ _ _ h => h) (Or.inl ⟨by rfl, ?_⟩) (by assumption) ?_
      rotate_left
      · ((intro w hSw; (try dsimp only at hSw); go_simp) <;> (try with_reducible rfl))
      try simp only [Act.put]
      refine wpAnyH_take (i := 1) (oi := _) (v := ?_) rfl (by kernel_rfl) (by kernel_rfl) (by kernel_rfl) (fun _ _ _ h => h) (Or.inl ⟨by rfl, ?_⟩) (by assumption) ?_
      rotate_left
      · ((intro w hSw; (try dsimp only at hSw); go_simp) <;> (try with_reducible rfl))
      try simp only [Act.put]
      refine wpAnyH_take (i := 2) (oi := _) (v := ?_) rfl (by kernel_rfl) (by kernel_rfl) (by kernel_rfl) (fun _ _ _ h => h) (Or.inl ⟨by rfl, ?_⟩) (by assumption) ?_
      rotate_left
      · ((intro w hSw; (try dsimp only at hSw); go_simp) <;> (try with_reducible rfl))
      try simp only [Act.put]
      refine wpAnyH_take (i := 3) (oi := _) (v := ?_) rfl (by kernel_rfl) (by kernel_rfl) (by kernel_rfl) (fun _ _ _ h => h) (Or.inl ⟨by rfl, ?_⟩) (by assumption) ?_
      rotate_left
      · ((intro w hSw; (try dsimp only at hSw); go_simp) <;> (try with_reducible rfl))
      try simp only [Act.put]
      refine wpAnyH_take (i := 4) (oi := _) (v := ?_) rfl (by kernel_rfl) (by kernel_rfl) (by kernel_rfl) (fun _ _ _ h => h) (Or.inl ⟨by rfl, ?_⟩) (by assumption) ?_
      rotate_left
      · ((intro w hSw; (try dsimp only at hSw); go_simp) <;> (try with_reducible rfl))
      try simp only [Act.put]
      refine wpAnyH_take (i := 5) (oi := _) (v := ?_) rfl (by kernel_rfl) (by kernel_rfl) (by kernel_rfl) (fun _ _ _ h => h) (Or.inl ⟨by rfl, ?_⟩) (by assumption) ?_
      rotate_left
      · ((intro w hSw; (try dsimp only at hSw); go_simp) <;> (try with_reducible rfl))
      try simp only [Act.put]
      refine wpAnyH_take (i := 6) (oi := _) (v := ?_) rfl (by kernel_rfl) (by kernel_rfl) (by kernel_rfl) (fun _ _ _ h => h) (Or.inl ⟨by rfl, ?_⟩) (by assumption) ?_
      rotate_left
      · ((intro w hSw; (try dsimp only at hSw); go_simp) <;> (try with_reducible rfl))
      try simp only [Act.put]
      refine wpAnyH_ready (rs := [7]) (by kernel_rfl) (by simp) ?_
      refine AllReadyH.cons (o := _) rfl (fun KK hKK => ?_) AllReadyH.nil
      go_simp
      (go_at_call 65; refine ((HI.out y HY.out.1 HY.out.2).go _).mono ?_; rintro e w6 ⟨rfl, hb6⟩)
      have hb6' : Below w5.heap.size w5 w6 := (Below.refl _ _).drew.trans hb6
      have K5 : Hid (Mk W w6 l (.slice (some ⟨b, off, none⟩) es.length cap) (.slice (some ⟨g, 0, none⟩) (ts.length + 1) cap') (.slice aB ts.length cB) (ts.length + 1) ts.length (flat ts ++ [.int .u64 (y.1 : Int), .int .u64 (y.2 : Int)]) (flat bs)) := K4.out.below hb6'
      have t3' := keepc hb6' t3
      have q1'' := keepc hb6' q1'
      have q0'' := keepc hb6' q0'
      refine hKK.out _ _ ?_ (fun hHeld => ?_)
      · exact ⟨t3', q1'', q0''⟩
      clear hKK KK
      try simp only [Act.put]
      clear t3 q1' q0' K4 hb6 hb6' hw5
      have t3 := t3'
      have q1 := q1''
      have q0 := q0''
      have hw6 : q < w6.heap.size := cell_lt q1
      clear t3' q1'' q0''
      generalize hzE : iv y = z at *
      have HZE : Hid (iv y = z) := hzE
      clear hzE
      refine wpAnyH_ready (rs := [8]) (by kernel_rfl) (by simp) ?_
      refine AllReadyH.cons (o := _) rfl (fun KK hKK => ?_) AllReadyH.nil
      go_simp
      refine hKK.out _ _ ?_ (fun hHeld => ?_)
      · go_keep
      clear hKK KK
      try simp only [Act.put]
      refine wpAnyH_ready (rs := [9]) (by kernel_rfl) (by simp) ?_
      refine AllReadyH.cons (o := _) rfl (fun KK hKK => ?_) AllReadyH.nil
      simp only [Array.getElem_pop, List.getElem_toArray, List.getElem_cons_succ, List.getElem_cons_zero]
      rw [if_pos (by rfl)]
      have BA : Below w6.heap.size w6 (w6.alloc (Obj.cells #[.int .u64 (z.1 : Int), .int .u64 (z.2 : Int)] 27)) := (Below.refl _ _).alloc (Nat.le_refl _) _
      refine wp_append_lies _ _ _ 22 rfl (W.heap.size + 1) 27 i0 (.agg #[.int .u64 0, .int .u64 0]) 2 16 Try.underlying22 HN.out.1 HN.out.2.1 HN.out.2.2.1 HN.out.2.2.2 rfl (by decide) (.slice aB ts.length cB) ts.length (flat bs) rfl (own_below K5.out.oB BA) ⟨w6.heap.size, 0, none⟩ 1 1 [.int .u64 (z.1 : Int), .int .u64 (z.2 : Int)] rfl rfl ?_ ?_ (by decide) (by simp only [maxLen]; omega) (by omega) ?_ (w6.alloc (Obj.cells #[.int .u64 (z.1 : Int), .int .u64 (z.2 : Int)] 27)).heap.size rfl ?_
      · exact fun p u hu => by rcases p with _ | _ | p <;> simp at hu <;> subst hu <;> simp [go_sem]
      · intro u hu; simp at hu; rcases hu with rfl | rfl <;> rfl
      · simp; omega
      intro g7 cap7 w' own' hgr hl hg
      refine hKK.out _ _ ?_ (fun hHeld => ?_)
      · exact ⟨(grown_cell hgr (by simp; omega) (row_ne K5.out.oB (by omega))).trans (keepc BA t3), (grown_cell hgr (by simp; omega) (fun e => by have := hqB.out q e.symm; omega)).trans (keepc BA q1), (grown_cell hgr (by simp; omega) (fun e => by have := hqB.out q e.symm; omega)).trans (keepc BA q0)⟩
      clear hKK KK
      try simp only [Act.put]
      refine wpAnyH_take (i := 10) (oi := _) (v := ?_) rfl (by kernel_rfl) (by kernel_rfl) (by kernel_rfl) (fun _ _ _ h => h) (Or.inl ⟨by rfl, ?_⟩) (by assumption) ?_
      rotate_left
      · ((intro w hSw; (try dsimp only at hSw); go_simp) <;> (try with_reducible rfl))
      try simp only [Act.put]
      refine wpAnyH_take (i := 11) (oi := _) (v := ?_) rfl (by kernel_rfl) (by kernel_rfl) (by kernel_rfl) (fun _ _ _ h => h) (Or.inl ⟨by rfl, ?_⟩) (by assumption) ?_
      rotate_left
      · ((intro w hSw; (try dsimp only at hSw); go_simp) <;> (try with_reducible rfl))
      try simp only [Act.put]
      refine wpAnyH_done (by kernel_rfl) ?_ _
      refine peel_last rfl (fun KK hKK => ?_)
      have K8 : Hid (Mk W (w'.setCell ⟨W.heap.size, 3, none⟩ (.slice (some ⟨g7, 0, none⟩) (ts.length + 1) cap7)) l (.slice (some ⟨b, off, none⟩) es.length cap) (.slice (some ⟨g, 0, none⟩) (ts.length + 1) cap') (.slice (some ⟨g7, 0, none⟩) (ts.length + 1) cap7) (ts.length + 1) (ts.length + 1) (flat ts ++ [.int .u64 (y.1 : Int), .int .u64 (y.2 : Int)]) (flat bs ++ [.int .u64 (z.1 : Int), .int .u64 (z.2 : Int)])) := K5.out.backs BA hgr own' rfl hl
      have u3 : w'.cell? ⟨W.heap.size, 3, none⟩ = some (.slice aB ts.length cB) := (grown_cell hgr (by simp; omega) (row_ne K5.out.oB (by omega))).trans (keepc BA t3)
      have g3 : w'.frozen? ⟨W.heap.size, 3, none⟩ = false := (grown_frozen hgr (by simp; omega) (row_ne K5.out.oB (by omega))).trans (keepf BA t3 K5.out.f3)
      clear hHeld q1 q0 t3 own' hgr hl hg BA K5 hqB hw6
      go_simp
      refine hKK _ _ ?_
      refine NoPanic.normal ?_
      clear hKK KK u3 g3
      generalize w'.setCell ⟨W.heap.size, 3, none⟩ (.slice (some ⟨g7, 0, none⟩) (ts.length + 1) cap7) = w9 at *
      go_wp2
      refine ⟨⟨some ⟨g, 0, none⟩, some ⟨g7, 0, none⟩, cap', cap7, ts ++ [y], bs ++ [z], ?_, ?_, ?_, HT.out.snoc HY.out, (by show _ = _; rw [HBS.out, List.map_append, List.map_cons, List.map_nil, HZE.out]), HTO.out.snoc (by rw [HXE.out]; exact HYE.out), ?_⟩, by simp [intOf]; omega⟩
      · simp; omega
      · simp
      · simp [hbl]
      · have := K8.out
        rw [flat_snoc, flat_snoc, List.length_append]
        exact this
    · have hle : ts.length = es.length := by omega
      have KM : Hid (Mk W wr l (.slice a es.length cap) (.slice aT ts.length cT) (.slice aB ts.length cB) ts.length ts.length (flat ts) (flat bs)) := hM
      clear hM
      go_wp2
      go_ret
      exact ⟨aT, aB, cT, cB, ts, bs, rfl, hle, by omega, HT.out, HBS.out, HTO.out, KM.out⟩
end Go.Proofs.Ytnecjkdlmecgdaa
