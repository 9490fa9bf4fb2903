/- Contracts of linpoly's Norm and antt's factors at the first step, and of antt's hindrance and Forward of two elements, over the seat's translation. -/
import Derived.Test.YtcoocgdldoolaaaDoorCdA
import Derived.Test.YtcoocgdldoolaaaDoorWvF
namespace Go.Proofs.YtcoocgdldoolaaaDoor
open Go.RowKit

set_option maxHeartbeats 1000000 in
theorem splevel (k n B : Nat) (W : World) (h : Sp W k n B) : Calls Tryd.prog 16 #[.pointer (some ⟨B, 0, none⟩)] W fun e w' => e = .returned (.int .i64 (k : Int)) ∧ Below W.heap.size W w' := by
  have c0 := h.c0
  go_enter Tryd.func16, Tryd.ntmps16
  go_wp2
  go_ret
  exact ⟨rfl, by first | exact Below.refl _ _ | go_grown⟩
set_option maxHeartbeats 4000000 in
set_option maxRecDepth 100000 in
theorem sphas (k n B i : Nat) (x : Nat × Nat) (hx : x.2 < 2 ^ 64) (ho : ofB (k : Int) (x.1 : Int) (x.2 : Int) = true) (hi : i ≤ n) (W : World) (h : Sp W k n B) : Calls Tryd.prog 34 #[.pointer (some ⟨B, 0, none⟩), .int .i64 (i : Int), .agg #[.int .u64 (x.1 : Int), .int .u64 (x.2 : Int)]] W fun e w' => e = .returned (.bool true) ∧ Below W.heap.size W w' := by
  have HO := of_ret (k : Int) x.1 x.2 hx
  rw [ho] at HO
  obtain ⟨a, c, c1⟩ := h.c1
  have c0 := h.c0
  have h1 : (0 : Int) ≤ (i : Int) := by omega
  have h2 : (i : Int) ≤ (n : Int) := by omega
  clear h
  go_enter Tryd.func34, Tryd.ntmps34
  go_upto_region 1 with fail
  have D : Below W.heap.size W (W.alloc (Obj.cells #[.int .u64 (x.1 : Int), .int .u64 (x.2 : Int)] 25)) := (Below.refl _ _).alloc (Nat.le_refl _) _
  have F : (W.alloc (Obj.cells #[.int .u64 (x.1 : Int), .int .u64 (x.2 : Int)] 25)).cell? ⟨W.heap.size, 0, none⟩ = some (.int .u64 (x.1 : Int)) ∧ (W.alloc (Obj.cells #[.int .u64 (x.1 : Int), .int .u64 (x.2 : Int)] 25)).cell? ⟨W.heap.size, 1, none⟩ = some (.int .u64 (x.2 : Int)) ∧ (W.alloc (Obj.cells #[.int .u64 (x.1 : Int), .int .u64 (x.2 : Int)] 25)).cell? ⟨B, 0, none⟩ = some (.int .i64 (k : Int)) ∧ (W.alloc (Obj.cells #[.int .u64 (x.1 : Int), .int .u64 (x.2 : Int)] 25)).cell? ⟨B, 1, none⟩ = some (.slice a n c) := ⟨by simp [go_sem], by simp [go_sem], keepc D c0, keepc D c1⟩
  clear c0 c1
  generalize W.alloc (Obj.cells #[.int .u64 (x.1 : Int), .int .u64 (x.2 : Int)] 25) = w1 at *
  go_region_held3 (fun w => w.cell? ⟨W.heap.size, 0, none⟩ = some (.int .u64 (x.1 : Int)) ∧ w.cell? ⟨W.heap.size, 1, none⟩ = some (.int .u64 (x.2 : Int)) ∧ w.cell? ⟨B, 0, none⟩ = some (.int .i64 (k : Int)) ∧ w.cell? ⟨B, 1, none⟩ = some (.slice a n c)) (go_keep) (first | (go_at_call 21; refine (HO.go _).mono ?_; rintro e w' ⟨rfl, hb'⟩; have F' := And.intro (keepc hb' F.1) (And.intro (keepc hb' F.2.1) (And.intro (keepc hb' F.2.2.1) (keepc hb' F.2.2.2))); have D' : Below W.heap.size W w' := (D.drew).trans (hb'.mono D.size); clear F D hb'; have F := F'; have D := D'; clear F' D'))
  all_goals
    go_wp2
    go_ret
    exact ⟨by simp, D⟩
theorem mul_zero_ret (l : Int) (b : Nat × Nat) (h : b.1 < 2 ^ 64 ∧ b.2 < 2 ^ 64) : Ret 15 #[.int .i64 l, .agg #[.int .u64 0, .int .u64 0], .agg #[.int .u64 (b.1 : Int), .int .u64 (b.2 : Int)]] (.agg #[.int .u64 0, .int .u64 0]) := by
  have := mul_any l (0, 0) b (Nat.two_pow_pos 64) (Nat.two_pow_pos 64) h.1 h.2
  rw [mulv_zero] at this
  exact this
theorem spval0 (k n B : Nat) (hn : n ≤ 1000) (W : World) (h : Sp W k n B) : Calls Tryd.prog 35 #[.pointer (some ⟨B, 0, none⟩), .int .i64 0, .agg #[.int .u64 0, .int .u64 0]] W fun e w' => e = .returned (.agg #[.int .u64 0, .int .u64 0]) ∧ Below W.heap.size W w' := by
  obtain ⟨a, c, ts, h1, h2, h3, h4⟩ := h.c2
  rw [← h2] at h1
  exact value_any (k : Int) B 0 (0, 0) a c ts W (cell_lt h.c0) h.c0 h1 h4 (Nat.zero_le _) (by omega) h3 (Nat.two_pow_pos 64) (Nat.two_pow_pos 64)
structure Nst (W w : World) (k n B b3 o3 cB : Nat) (y : Nat × Nat) (q : Nat) : Prop where
  bl : Bl W w [(W.heap.size, 0, 0)] [q]
  sp : Sp w k n B
  c3 : w.cell? ⟨B, 3, none⟩ = some (.slice (some ⟨b3, o3, none⟩) n cB)
  y1 : w.cell? ⟨b3, o3, none⟩ = some (.int .u64 (y.1 : Nat))
  y0 : w.cell? ⟨b3, o3 + 1, none⟩ = some (.int .u64 (y.2 : Nat))
theorem Nst.below {W w w' : World} {k n B b3 o3 cB : Nat} {y : Nat × Nat} {q : Nat} (h : Nst W w k n B b3 o3 cB y q) (hb : Below w.heap.size w w') : Nst W w' k n B b3 o3 cB y q := ⟨h.bl.below hb, h.sp.below hb, keepc hb h.c3, keepc hb h.y1, keepc hb h.y0⟩
theorem Nst.drew {W w : World} {k n B b3 o3 cB : Nat} {y : Nat × Nat} {q : Nat} (h : Nst W w k n B b3 o3 cB y q) : Nst W w.drew k n B b3 o3 cB y q := ⟨h.bl.drew, h.sp.below (Below.refl _ _).drew, h.c3, h.y1, h.y0⟩
theorem Nst.facts {W w : World} {k n B b3 o3 cB : Nat} {y : Nat × Nat} {q : Nat} (h : Nst W w k n B b3 o3 cB y q) : w.cell? ⟨B, 0, none⟩ = some (.int .i64 (k : Int)) ∧ w.cell? ⟨B, 3, none⟩ = some (.slice (some ⟨b3, o3, none⟩) n cB) ∧ w.cell? ⟨b3, o3, none⟩ = some (.int .u64 (y.1 : Nat)) ∧ w.cell? ⟨b3, o3 + 1, none⟩ = some (.int .u64 (y.2 : Nat)) ∧ w.cell? ⟨W.heap.size, 0, none⟩ = some (.int .u64 0) ∧ w.cell? ⟨W.heap.size, 1, none⟩ = some (.int .u64 0) := ⟨h.sp.c0, h.c3, h.y1, h.y0, h.bl.els.1.1, h.bl.els.1.2⟩
theorem Nst.zs {W w : World} {k n B b3 o3 cB : Nat} {y : Nat × Nat} {q : Nat} (h : Nst W w k n B b3 o3 cB y q) : w.cell? ⟨q, 0, none⟩ = some (.int .u64 0) ∧ w.cell? ⟨q, 1, none⟩ = some (.int .u64 0) ∧ w.frozen? ⟨q, 0, none⟩ = false ∧ w.frozen? ⟨q, 1, none⟩ = false := h.bl.wrs.1
set_option maxHeartbeats 4000000 in
set_option maxRecDepth 100000 in
theorem norm0 (k n B : Nat) (hk : k < 8) (h0 : 0 < n) (hn : n ≤ 1000) (W : World) (h : Sp W k n B) : Calls Tryd.prog 23 #[.pointer (some ⟨B, 0, none⟩), .int .i64 0, .agg #[.int .u64 0, .int .u64 0]] W fun e w' => e = .returned (.agg #[.int .u64 0, .int .u64 0]) ∧ Below W.heap.size W w' := by
  have HS : Hid (Sp W k n B) := h
  have hne : ¬ (0 : Int) = (n : Int) := by omega
  have hne2 : ¬ n = 0 := by omega
  have hn0 : (0 : Int) < (n : Int) := by omega
  obtain ⟨a3, cB, bs, c3, hl, hlt, hE⟩ := h.c3
  obtain ⟨b3, o3, rfl, hb3, y1, y0⟩ := hE.cells 0 (by omega)
  rw [Nat.zero_mul, Nat.add_zero] at y1 y0
  have HM : Hid (Ret 15 #[.int .i64 (k : Int), .agg #[.int .u64 0, .int .u64 0], .agg #[.int .u64 ((bs.getD 0 (0, 0)).1 : Int), .int .u64 ((bs.getD 0 (0, 0)).2 : Int)]] (.agg #[.int .u64 0, .int .u64 0])) := mul_zero_ret _ _ (hlt.at 0)
  have HV : Hid (∀ w, Sp w k n B → Calls Tryd.prog 35 #[.pointer (some ⟨B, 0, none⟩), .int .i64 0, .agg #[.int .u64 0, .int .u64 0]] w fun e w' => e = .returned (.agg #[.int .u64 0, .int .u64 0]) ∧ Below w.heap.size w w') := fun w h => spval0 k n B hn w h
  have hB : B < W.heap.size := cell_lt h.c0
  generalize bs.getD 0 (0, 0) = y at *
  clear h hE hlt hl
  go_enter Tryd.func23, Tryd.ntmps23
  go_wp2_with fail
  have D0 : Below W.heap.size W ((W.alloc (Obj.cells #[.int .u64 0, .int .u64 0] 25)).alloc (Obj.cells #[.int .u64 0, .int .u64 0] 25)) := ((Below.refl _ _).alloc (Nat.le_refl _) _).alloc (by simp) _
  refine (sphas k n B 0 (0, 0) (Nat.two_pow_pos 64) (of_zero k hk) (Nat.zero_le _) _ (HS.out.below D0)).mono ?_
  rintro e w1 ⟨rfl, hb1⟩
  have K : Nst W w1 k n B b3 o3 cB y (W.heap.size + 1) := Nst.below ⟨⟨⟨⟨by simp [go_sem], by simp [go_sem]⟩, trivial⟩, ⟨⟨by simp [go_sem], by simp [go_sem], by simp [go_sem], by simp [go_sem]⟩, trivial⟩, D0⟩, HS.out.below D0, keepc D0 c3, keepc D0 y1, keepc D0 y0⟩ hb1
  obtain ⟨a1, cc1, c1⟩ := K.sp.c1
  have hq : W.heap.size ≤ W.heap.size + 1 := by omega
  have n1 : ¬ B = W.heap.size + 1 := by omega
  have n2 : ¬ b3 = W.heap.size + 1 := by omega
  have n3 : ¬ W.heap.size = W.heap.size + 1 := by omega
  clear hb1 D0 HS c3 y1 y0
  go_wp2_with fail
  have F := K.facts
  have Z := K.zs
  generalize W.heap.size + 1 = q at *
  go_region_held3 (fun w => w.cell? ⟨B, 0, none⟩ = some (.int .i64 (k : Int)) ∧ w.cell? ⟨B, 3, none⟩ = some (.slice (some ⟨b3, o3, none⟩) n cB) ∧ w.cell? ⟨b3, o3, none⟩ = some (.int .u64 (y.1 : Nat)) ∧ w.cell? ⟨b3, o3 + 1, none⟩ = some (.int .u64 (y.2 : Nat)) ∧ w.cell? ⟨W.heap.size, 0, none⟩ = some (.int .u64 0) ∧ w.cell? ⟨W.heap.size, 1, none⟩ = some (.int .u64 0)) (first | (go_keep; done) | (obtain ⟨_, _, _, _, _, _⟩ := F; refine ⟨?_, ?_, ?_, ?_, ?_, ?_⟩ <;> simp [go_sem, *])) (first | (go_at_call 35; refine (HV.out _ (by first | exact K.sp | exact K.drew.sp)).mono ?_; rintro e w' ⟨rfl, hb'⟩; have K' := Nst.below (w' := w') (by first | exact K | exact K.drew) hb'; clear F Z K hb'; have K := K'; clear K'; have F := K.facts; have Z := K.zs) | (go_at_call 15; refine (HM.out.go _).mono ?_; rintro e w' ⟨rfl, hb'⟩; have K' := Nst.below (w' := w') (by first | exact K | exact K.drew) hb'; clear F Z K hb'; have K := K'; clear K'; have F := K.facts; have Z := K.zs))
  all_goals
    obtain ⟨_, _, _, _⟩ := Z
    go_wp2
    refine bodyPost_ret (v := .agg #[.int .u64 0, .int .u64 0]) (by simp [results, Tryd.results23, go_sem, *]) rfl ⟨rfl, ?_⟩
    exact (K.bl.b.setCell hq _).setCell hq _
set_option maxHeartbeats 2000000 in
set_option maxRecDepth 100000 in
theorem factors1 (k n B : Nat) (hk : k < 8) (h0 : 0 < n) (hn : n ≤ 1000) (W : World) (h : Sp W k n B) : Calls Tryd.prog 12 #[.pointer (some ⟨B, 0, none⟩), .int .i64 1, .int .i64 0, .agg #[.int .u64 0, .int .u64 0]] W fun e w' => ∃ g, e = .returned (.slice (some ⟨g, 0, none⟩) 1 1) ∧ W.heap.size ≤ g ∧ (w'.cell? ⟨g, 0, none⟩ = some (.int .u64 0) ∧ w'.cell? ⟨g, 1, none⟩ = some (.int .u64 0)) ∧ Below W.heap.size W w' := by
  have HN : Hid (∀ w, Sp w k n B → Calls Tryd.prog 23 #[.pointer (some ⟨B, 0, none⟩), .int .i64 0, .agg #[.int .u64 0, .int .u64 0]] w fun e w' => e = .returned (.agg #[.int .u64 0, .int .u64 0]) ∧ Below w.heap.size w w') := fun w h => norm0 k n B hk h0 hn w h
  have HS : Hid (Sp W k n B) := h
  obtain ⟨i0, hi, hz0, hz1, hz2⟩ := info_elem
  have HI : Hid (Tryd.prog.info? 25 = some i0 ∧ i0.zero = some (.agg #[.int .u64 0, .int .u64 0]) ∧ i0.size = 2 ∧ i0.bytes = 16) := ⟨hi, hz0, hz1, hz2⟩
  clear h hi hz0 hz1 hz2
  go_enter Tryd.func12, Tryd.ntmps12
  go_wp2_with (at_make; refine wpList_make_full _ rfl _ _ 22 rfl 0 25 i0 (.agg #[.int .u64 0, .int .u64 0]) 2 Tryd.underlying22 HI.out.1 HI.out.2.1 HI.out.2.2.1 .i64 .i64 _ _ 1 rfl rfl rfl rfl (by rw [HI.out.2.2.2]; omega) (by simp only [maxLen]; omega) (Nat.zero_le _) ?_; intro w2 own2 hgr2; have e1 : w2.cell? ⟨W.heap.size, 0, none⟩ = some (.int .u64 0) := (grown_cell hgr2 (by simp) (by simp)).trans (by simp [go_sem]); have e2 : w2.cell? ⟨W.heap.size, 1, none⟩ = some (.int .u64 0) := (grown_cell hgr2 (by simp) (by simp)).trans (by simp [go_sem]); obtain ⟨f0, R0⟩ := own_isRow own2 (rfl : 1 * 2 = 1 * 2); have D2 : Below W.heap.size W w2 := ((Below.refl _ _).alloc (Nat.le_refl _) _).grown hgr2 (by simp) (fun k hk => by cases hk); clear own2 hgr2)
  refine (HN.out _ (HS.out.below D2)).mono ?_
  rintro e w3 ⟨rfl, hb3⟩
  rw [World.size_alloc] at R0
  have hz : W.heap.size + 1 < w2.heap.size := R0.lt
  have R3 : w3.rowIs (W.heap.size + 1) 25 (1 * 2) f0 := R0.of_block (hb3.block _ hz)
  have c1 := R3.cell (i := 0) (by omega)
  have c0 := R3.cell (i := 1) (by omega)
  have z1 := R3.frozen 0
  have z0 := R3.frozen 1
  have D3 : Hid (Below W.heap.size W w3) := D2.trans (hb3.mono D2.size)
  have hq : W.heap.size ≤ W.heap.size + 1 := by omega
  clear hb3 R3 R0 D2 e1 e2 HN HS
  go_wp2_with fail
  go_rounds 1
  go_ret
  exact ⟨_, rfl, hq, ⟨by simp [go_sem, *], by simp [go_sem, *]⟩, (D3.out.setCell hq _).setCell hq _⟩
/-- What lies there while a list of two is asked about. -/
structure Hst (W w : World) (k B p q : Nat) (x y : Nat × Nat) : Prop where
  d : Below W.heap.size W w
  q1 : w.cell? ⟨q, 0, none⟩ = some (.int .u64 0)
  q0 : w.cell? ⟨q, 1, none⟩ = some (.int .u64 0)
  sp : Sp w k 1 B
  row : ERow w (some ⟨p, 0, none⟩) [x, y]
theorem Hst.below {W w w' : World} {k B p q : Nat} {x y : Nat × Nat} (h : Hst W w k B p q x y) (hb : Below w.heap.size w w') : Hst W w' k B p q x y := ⟨h.d.trans (hb.mono h.d.size), keepc hb h.q1, keepc hb h.q0, h.sp.below hb, h.row.below hb⟩
theorem Hst.drew {W w : World} {k B p q : Nat} {x y : Nat × Nat} (h : Hst W w k B p q x y) : Hst W w.drew k B p q x y := h.below (Below.refl _ _).drew
theorem Hst.facts {W w : World} {k B p q : Nat} {x y : Nat × Nat} (h : Hst W w k B p q x y) : w.cell? ⟨q, 0, none⟩ = some (.int .u64 0) ∧ w.cell? ⟨q, 1, none⟩ = some (.int .u64 0) := ⟨h.q1, h.q0⟩
set_option maxHeartbeats 2000000 in
set_option maxRecDepth 100000 in
theorem hind2 (k B : Nat) (hk : k < 8) (p cap : Nat) (x y : Nat × Nat) (hx : x.2 < 2 ^ 64) (hy : y.2 < 2 ^ 64) (ox : ofB (k : Int) (x.1 : Int) (x.2 : Int) = true) (oy : ofB (k : Int) (y.1 : Int) (y.2 : Int) = true) (W : World) (h : Sp W k 1 B)
    (hr : ERow W (some ⟨p, 0, none⟩) [x, y]) : Calls Tryd.prog 8 #[.pointer (some ⟨B, 0, none⟩), .slice (some ⟨p, 0, none⟩) 2 cap, .agg #[.int .u64 0, .int .u64 0]] W fun e w' => e = .returned (.int .i64 0) ∧ Below W.heap.size W w' := by
  have H1 : Hid (Ret 19 #[.int .u64 2] (.int .i64 1)) := ones2
  have HO : Hid (Ret 21 #[.int .i64 (k : Int), .agg #[.int .u64 0, .int .u64 0]] (.bool true)) := by
    have := of_ret (k : Int) 0 0 (Nat.two_pow_pos 64)
    rw [show ofB (k : Int) ((0 : Nat) : Int) ((0 : Nat) : Int) = true from of_zero k hk] at this
    exact this
  have HX : Hid (∀ j, j < 2 → Ret 21 #[.int .i64 (k : Int), .agg #[.int .u64 (([x, y].getD j (0, 0)).1 : Int), .int .u64 (([x, y].getD j (0, 0)).2 : Int)]] (.bool true)) := fun j hj => by
    match j, hj with
    | 0, _ => have := of_ret (k : Int) x.1 x.2 hx; rw [ox] at this; exact this
    | 1, _ => have := of_ret (k : Int) y.1 y.2 hy; rw [oy] at this; exact this
  have HL : Hid (∀ w, Sp w k 1 B → Calls Tryd.prog 16 #[.pointer (some ⟨B, 0, none⟩)] w fun e w' => e = .returned (.int .i64 (k : Int)) ∧ Below w.heap.size w w') := fun w h => splevel k 1 B w h
  have HS : Hid (Sp W k 1 B) := h
  have HR : Hid (ERow W (some ⟨p, 0, none⟩) [x, y]) := hr
  clear h hr
  go_enter Tryd.func8, Tryd.ntmps8
  go_wp2_with (first | (go_at_call 19; refine (H1.out.go _).mono ?_; rintro e w1 ⟨rfl, hb1⟩; have D1 : Below W.heap.size W w1 := ((Below.refl _ _).alloc (Nat.le_refl _) _).trans (hb1.mono (by simp)); have K1 : Hid (Hst W w1 k B p W.heap.size x y) := ⟨D1, keepc hb1 (by simp [go_sem]), keepc hb1 (by simp [go_sem]), HS.out.below D1, HR.out.below D1⟩; obtain ⟨a1, cc1, cc⟩ := K1.out.sp.c1; clear hb1 D1) | (go_at_call 20; refine (dim_any B 1 cc1 a1 _ cc).mono ?_; rintro e w2 ⟨rfl, hb2⟩; have K2 : Hid (Hst W w2 k B p W.heap.size x y) := K1.out.below hb2))
  have K := K2.out
  have F := K.facts
  clear K1 K2 hb2 cc HS HR
  generalize W.heap.size = q at *
  go_region_held3 (fun w => w.cell? ⟨q, 0, none⟩ = some (.int .u64 0) ∧ w.cell? ⟨q, 1, none⟩ = some (.int .u64 0)) (go_keep) (first | (go_at_call 16; refine (HL.out _ (by first | exact K.sp | exact K.drew.sp)).mono ?_; rintro e w' ⟨rfl, hb'⟩; have K' := Hst.below (w' := w') (by first | exact K | exact K.drew) hb'; clear F K hb'; have K := K'; clear K'; have F := K.facts) | (go_at_call 21; refine (HO.out.go _).mono ?_; rintro e w' ⟨rfl, hb'⟩; have K' := Hst.below (w' := w') (by first | exact K | exact K.drew) hb'; clear F K hb'; have K := K'; clear K'; have F := K.facts))
  have KK : Hid (Hst W w' k B p q x y) := K
  clear F K
  go_wp2_with fail
  go_loopw [34] (fun u wr => ∃ j : Nat, j ≤ 2 ∧ u = .int .i64 j ∧ Hst W wr k B p q x y) (fun u _ => 2 - (intOf u).toNat)
  case atStart => exact ⟨0, Nat.zero_le _, rfl, KK.out⟩
  case round =>
    obtain ⟨j, hj, rfl, hK⟩ := hrel
    have KK : Hid (Hst W wr k B p q x y) := hK
    clear hK
    by_cases hlt : j < 2
    · obtain ⟨p', o', e, _, d1, d0⟩ := KK.out.row.cells j hlt
      simp only [Option.some.injEq, Addr.mk.injEq] at e
      obtain ⟨rfl, rfl, _⟩ := e
      rw [Nat.zero_add] at d1 d0
      have HZ := HX.out j hlt
      generalize [x, y].getD j (0, 0) = z at HZ d1 d0
      go_wp2_with fail
      have D0 : Below wr.heap.size wr (wr.alloc (Obj.cells #[.int .u64 (z.1 : Int), .int .u64 (z.2 : Int)] 25)) := (Below.refl _ _).alloc (Nat.le_refl _) _
      have K := KK.out.below D0
      have E : El (wr.alloc (Obj.cells #[.int .u64 (z.1 : Int), .int .u64 (z.2 : Int)] 25)) wr.heap.size z.1 z.2 := ⟨by simp [go_sem], by simp [go_sem]⟩
      clear D0 KK d1 d0
      generalize wr.alloc (Obj.cells #[.int .u64 (z.1 : Int), .int .u64 (z.2 : Int)] 25) = w5 at *
      generalize wr.heap.size = b at *
      have F := And.intro E.hi E.lo
      go_region_held3 (fun w => w.cell? ⟨b, 0, none⟩ = some (.int .u64 (z.1 : Int)) ∧ w.cell? ⟨b, 1, none⟩ = some (.int .u64 (z.2 : Int))) (go_keep) (first | (go_at_call 16; refine (HL.out _ (by first | exact K.sp | exact K.drew.sp)).mono ?_; rintro e w' ⟨rfl, hb'⟩; have K' := Hst.below (w' := w') (by first | exact K | exact K.drew) hb'; have E' : El w' b z.1 z.2 := ⟨keepc hb' E.hi, keepc hb' E.lo⟩; clear F K E hb'; have K := K'; have E := E'; clear K' E'; have F := And.intro E.hi E.lo) | (go_at_call 21; refine (HZ.go _).mono ?_; rintro e w' ⟨rfl, hb'⟩; have K' := Hst.below (w' := w') (by first | exact K | exact K.drew) hb'; have E' : El w' b z.1 z.2 := ⟨keepc hb' E.hi, keepc hb' E.lo⟩; clear F K E hb'; have K := K'; have E := E'; clear K' E'; have F := And.intro E.hi E.lo))
      go_wp2
      exact ⟨⟨j + 1, hlt, by simp, K⟩, by simp [intOf]; omega⟩
    · obtain rfl : j = 2 := by omega
      go_wp2
      go_ret
      exact ⟨rfl, KK.out.d⟩

set_option maxHeartbeats 1000000 in
set_option maxRecDepth 100000 in
/-- A copy of elements, in a row of its own. -/
theorem clone_own (b off cap : Nat) (es : List (Nat × Nat)) (h10 : es.length ≤ 1000) (W : World) (hr : ERow W (some ⟨b, off, none⟩) es) :
    Calls Tryd.prog 9 #[.slice (some ⟨b, off, none⟩) es.length cap] W fun e w' => ∃ v, e = .returned v ∧ w'.ownsRow W.heap.size 25 2 v es.length (flat es) ∧ Below W.heap.size W w' := by
  obtain ⟨i0, hi, hz0, hz1, hz2⟩ := info_elem
  have HI : Hid (Tryd.prog.info? 25 = some i0 ∧ i0.zero = some (.agg #[.int .u64 0, .int .u64 0]) ∧ i0.size = 2 ∧ i0.bytes = 16) := ⟨hi, hz0, hz1, hz2⟩
  have HR : Hid (ERow W (some ⟨b, off, none⟩) es) := hr
  clear hi hz0 hz1 hz2 hr
  have he : ∀ w, (binOp .eql 22 (.slice (some ⟨b, off, none⟩) es.length cap) (.slice none 0 0)).run Tryd.prog w = .ok (.bool false) w := fun w => Go.Lib.run_eql_slice_nil w 22 25 _ _ _ _ _ Tryd.underlying22
  go_enter Tryd.func9, Tryd.ntmps9
  go_wp2_with (at_builtin; refine wpList_append_own _ rfl _ _ 22 rfl W.heap.size 25 i0 (.agg #[.int .u64 0, .int .u64 0]) 2 16 Tryd.underlying22 HI.out.1 HI.out.2.1 HI.out.2.2.1 HI.out.2.2.2 rfl (by decide) _ 0 [] rfl (World.ownsRow_made W #[] 0 (Nat.le_refl _) (by decide) rfl) ⟨b, off, none⟩ es.length cap (flat es) rfl (flat_len es) (fun p u hu => ((HR.out.below ((Below.refl _ _).alloc (Nat.le_refl _) _)).flatOn p u hu)) (flat_ones es) (by simp only [maxLen]; omega) (by omega) (by simp) ?_; intro v' w' hown' hgr _)
  rw [Nat.zero_add, List.nil_append] at hown'
  have HD : Hid (Below W.heap.size W w') := ((Below.refl _ _).alloc (Nat.le_refl _) _).grown hgr (by simp) fun k hk => ((World.ownsRow_made (e := 25) (size := 2) (base := W.heap.size) W #[] 0 (Nat.le_refl _) (by decide) rfl).lt k hk).1
  have HE : Hid (w'.ownsRow W.heap.size 25 2 v' es.length (flat es)) := hown'
  clear hown' hgr
  go_wp2
  go_ret
  exact ⟨_, rfl, HE.out, HD.out⟩
/-- Two elements in a row of their own. -/
theorem own_two {w : World} {base : Nat} {T : TypeId} {v : Value} {x y : Nat × Nat} (h : w.ownsRow base T 2 v 2 (flat [x, y])) : ∃ p cap, v = .slice (some ⟨p, 0, none⟩) 2 cap ∧ base ≤ p ∧ p < w.heap.size ∧ w.cell? ⟨p, 0, none⟩ = some (.int .u64 (x.1 : Nat)) ∧ w.cell? ⟨p, 1, none⟩ = some (.int .u64 (x.2 : Nat)) ∧ w.cell? ⟨p, 2, none⟩ = some (.int .u64 (y.1 : Nat)) ∧ w.cell? ⟨p, 3, none⟩ = some (.int .u64 (y.2 : Nat)) ∧ ∀ i, w.frozen? ⟨p, i, none⟩ = false := by
  have hlt := h.lt
  rcases h.2 with ⟨_, h0⟩ | ⟨g, cap, cur, rfl, _⟩
  · cases h0
  · exact ⟨g, cap, rfl, (hlt g rfl).1, (hlt g rfl).2, h.cellAt 0 (by omega), h.cellAt 1 (by omega), h.cellAt 2 (by omega), h.cellAt 3 (by omega), fun i => h.frozenAt i⟩
theorem mulv_zero2 (l : Int) (a : Nat × Nat) : mulv l a (0, 0) = (0, 0) := by
  unfold mulv
  split
  · rw [Tw.pm_none]
  · rfl
/-- What lies there while values are reckoned. -/
structure Fst (W w : World) (k B p0 : Nat) (x y : Nat × Nat) : Prop where
  d : Below W.heap.size W w
  cs : w.cell? ⟨W.heap.size, 0, none⟩ = some (.pointer (some ⟨B, 0, none⟩))
  f1 : w.cell? ⟨W.heap.size + 1, 0, none⟩ = some (.int .u64 0)
  f0 : w.cell? ⟨W.heap.size + 1, 1, none⟩ = some (.int .u64 0)
  sp : Sp w k 1 B
  row : ERow w (some ⟨p0, 0, none⟩) [x, y]
  tab : Tab w
theorem Fst.below {W w w' : World} {k B p0 : Nat} {x y : Nat × Nat} (h : Fst W w k B p0 x y) (hb : Below w.heap.size w w') : Fst W w' k B p0 x y := ⟨h.d.trans (hb.mono h.d.size), keepc hb h.cs, keepc hb h.f1, keepc hb h.f0, h.sp.below hb, h.row.below hb, h.tab.below hb⟩
set_option maxHeartbeats 4000000 in
set_option maxRecDepth 100000 in
theorem forward2 (k B : Nat) (hk : k < 8) (p0 cap : Nat) (x y : Nat × Nat) (hx : x.1 < 2 ^ 64 ∧ x.2 < 2 ^ 64) (hy : y.1 < 2 ^ 64 ∧ y.2 < 2 ^ 64) (ox : ofB (k : Int) (x.1 : Int) (x.2 : Int) = true) (oy : ofB (k : Int) (y.1 : Int) (y.2 : Int) = true) (W : World) (hT : Tab W) (h : Sp W k 1 B)
    (hr : ERow W (some ⟨p0, 0, none⟩) [x, y]) : Calls Tryd.prog 4 #[.pointer (some ⟨B, 0, none⟩), .slice (some ⟨p0, 0, none⟩) 2 cap, .agg #[.int .u64 0, .int .u64 0]] W fun e w' => ∃ p c, e = .returned (.tuple #[.slice (some ⟨p, 0, none⟩) 2 c, .int .i64 0]) ∧ ERow w' (some ⟨p, 0, none⟩) [x, (y.1 ^^^ x.1, y.2 ^^^ x.2)] ∧ Below W.heap.size W w' := by
  have HS : Hid (Sp W k 1 B) := h
  have HR : Hid (ERow W (some ⟨p0, 0, none⟩) [x, y]) := hr
  have HT : Hid (Tab W) := hT
  have hmf : ∀ (fn : Fn) (first cap : Array Value) (w : World), (Instr.makeFunc fn first cap).run Tryd.prog w = .ok (.func fn first cap) w := fun _ _ _ _ => rfl
  clear h hr hT
  go_enter Tryd.func4, Tryd.ntmps4
  go_wp2_with fail
  have D0 : Below W.heap.size W ((W.alloc (Obj.cells #[.pointer (some ⟨B, 0, none⟩)] 32)).alloc (Obj.cells #[.int .u64 0, .int .u64 0] 25)) := ((Below.refl _ _).alloc (Nat.le_refl _) _).alloc (by simp) _
  have K0 : Hid (Fst W ((W.alloc (Obj.cells #[.pointer (some ⟨B, 0, none⟩)] 32)).alloc (Obj.cells #[.int .u64 0, .int .u64 0] 25)) k B p0 x y) := ⟨D0, by simp [go_sem], by simp [go_sem], by simp [go_sem], HS.out.below D0, HR.out.below D0, HT.out.below D0⟩
  refine (hind2 k B hk p0 cap x y hx.2 hy.2 ox oy _ K0.out.sp K0.out.row).mono ?_
  rintro e w1 ⟨rfl, hb1⟩
  have K1 : Hid (Fst W w1 k B p0 x y) := K0.out.below hb1
  clear hb1 K0 D0 HR HT
  go_wp2_with fail
  refine (clone_own p0 0 cap [x, y] (by simp) w1 K1.out.row).mono ?_
  rintro e w2 ⟨v, rfl, hO, hb2⟩
  have K2 : Hid (Fst W w2 k B p0 x y) := K1.out.below hb2
  obtain ⟨p, c, rfl, hp1, hp2, v0, v1, v2, v3, vz⟩ := own_two hO
  have HV : Hid (W.heap.size ≤ w1.heap.size ∧ w1.heap.size ≤ p ∧ p < w2.heap.size ∧ w2.cell? ⟨p, 0, none⟩ = some (.int .u64 (x.1 : Nat)) ∧ w2.cell? ⟨p, 1, none⟩ = some (.int .u64 (x.2 : Nat)) ∧ w2.cell? ⟨p, 2, none⟩ = some (.int .u64 (y.1 : Nat)) ∧ w2.cell? ⟨p, 3, none⟩ = some (.int .u64 (y.2 : Nat)) ∧ ∀ i, w2.frozen? ⟨p, i, none⟩ = false) := ⟨K1.out.d.size, hp1, hp2, v0, v1, v2, v3, vz⟩
  have hbig : W.heap.size + 1 < w1.heap.size := cell_lt K1.out.f1
  clear hO hb2 hp1 hp2 v0 v1 v2 v3 vz
  go_wp2_with fail
  refine (log2_any w2 K2.out.tab).mono ?_
  rintro e w3 ⟨rfl, hb3⟩
  have K3 : Hid (Fst W w3 k B p0 x y) := K2.out.below hb3
  have HV3 : Hid (W.heap.size + 1 < p ∧ p < w3.heap.size ∧ w3.cell? ⟨p, 0, none⟩ = some (.int .u64 (x.1 : Nat)) ∧ w3.cell? ⟨p, 1, none⟩ = some (.int .u64 (x.2 : Nat)) ∧ w3.cell? ⟨p, 2, none⟩ = some (.int .u64 (y.1 : Nat)) ∧ w3.cell? ⟨p, 3, none⟩ = some (.int .u64 (y.2 : Nat)) ∧ ∀ i, i < 4 → w3.frozen? ⟨p, i, none⟩ = false) := by
    obtain ⟨h1, h2, h3, h4, h5, h6, h7, h8⟩ := HV.out
    refine ⟨by omega, Nat.lt_of_lt_of_le h3 hb3.size, keepc hb3 h4, keepc hb3 h5, keepc hb3 h6, keepc hb3 h7, fun i hi => ?_⟩
    rw [hb3.frozen (p := ⟨p, i, none⟩) h3]; exact h8 i
  have cs := K3.out.cs
  have f1 := K3.out.f1
  have f0 := K3.out.f0
  clear hb3 HV K1 K2
  go_wp2_with fail
  refine wp_loop_rounds 2 ?_
  rw [rounds_succ]
  go_wp2_with fail
  refine (factors1 k 1 B hk (by decide) (by decide) w3 K3.out.sp).mono ?_
  rintro e w4 ⟨g, rfl, hg, ⟨g1, g0⟩, hb4⟩
  obtain ⟨h1, h2, h3, h4, h5, h6, h7⟩ := HV3.out
  have hgp : g ≠ p := by omega
  have hgl : g < w4.heap.size := cell_lt g1
  have D4 : Below W.heap.size W w4 := K3.out.d.trans (hb4.mono K3.out.d.size)
  have hpW : W.heap.size ≤ p := by omega
  have HT : Hid (∀ w, Below w4.heap.size w4 w → Calls Tryd.prog 13 #[.pointer (some ⟨p, 0, none⟩), .pointer (some ⟨p, 2, none⟩), .agg #[.int .u64 0, .int .u64 0], .pointer (some ⟨W.heap.size, 0, none⟩)] w fun e w' => e = .returned (.tuple #[]) ∧ (w'.cell? ⟨p, 0, none⟩ = some (.int .u64 (x.1 : Nat)) ∧ w'.cell? ⟨p, 1, none⟩ = some (.int .u64 (x.2 : Nat)) ∧ w'.cell? ⟨p, 2, none⟩ = some (.int .u64 ((y.1 ^^^ x.1 : Nat) : Int)) ∧ w'.cell? ⟨p, 3, none⟩ = some (.int .u64 ((y.2 ^^^ x.2 : Nat) : Int))) ∧ Below p w w' ∧ ∀ k, k < w.heap.size → k ≠ p → w'.heap[k]? = w.heap[k]?) := fun w hb => by
    have hb34 : Below w3.heap.size w3 w := hb4.trans (hb.mono hb4.size)
    refine turn2 p W.heap.size B (k : Int) x y (y.1 ^^^ x.1, y.2 ^^^ x.2) w (by omega) (Nat.lt_of_lt_of_le h2 hb34.size) (keepc hb34 K3.out.cs) (keepc hb34 h3) (keepc hb34 h4) (keepc hb34 h5) (keepc hb34 h6) (fun i hi => by rw [hb34.frozen (p := ⟨p, i, none⟩) h2]; exact h7 i hi) (fun w' hb' => ?_) ?_ ?_ ?_
    · exact splevel k 1 B w' (HS.out.below ((D4.trans (hb.mono D4.size)).trans (hb'.mono hpW)))
    · have := mul_any (k : Int) y (0, 0) hy.1 hy.2 (Nat.two_pow_pos 64) (Nat.two_pow_pos 64)
      rw [mulv_zero2] at this
      exact this
    · have := add_any x.1 x.2 0 0 hx.1 hx.2 (Nat.two_pow_pos 64) (Nat.two_pow_pos 64)
      rw [Nat.xor_zero, Nat.xor_zero] at this
      exact this
    · exact add_any y.1 y.2 x.1 x.2 hy.1 hy.2 hx.1 hx.2
  clear h3 h4 h5 h6 h7 cs f1 f0 K3 HV3 hb4
  go_wp2_with fail
  refine (eachp2 p W.heap.size g c w4 hgl hgp g1 g0 (fun w' => w'.cell? ⟨p, 0, none⟩ = some (.int .u64 (x.1 : Nat)) ∧ w'.cell? ⟨p, 1, none⟩ = some (.int .u64 (x.2 : Nat)) ∧ w'.cell? ⟨p, 2, none⟩ = some (.int .u64 ((y.1 ^^^ x.1 : Nat) : Int)) ∧ w'.cell? ⟨p, 3, none⟩ = some (.int .u64 ((y.2 ^^^ x.2 : Nat) : Int))) HT).mono ?_
  rintro e w5 ⟨rfl, ⟨q0, q1, q2, q3⟩, hb5⟩
  have D5 : Hid (Below W.heap.size W w5) := D4.trans (hb5.mono hpW)
  have HE : Hid (ERow w5 (some ⟨p, 0, none⟩) [x, (y.1 ^^^ x.1, y.2 ^^^ x.2)]) := ⟨fun i hi => by
    match i, hi with
    | 0, _ => exact ⟨p, 0, rfl, cell_lt q0, q0, q1⟩
    | 1, _ => exact ⟨p, 0, rfl, cell_lt q0, q2, q3⟩⟩
  clear q0 q1 q2 q3 hb5 HT
  go_wp2_with fail
  rw [rounds_succ]
  go_wp2
  refine bodyPost_ret (v := .tuple #[.slice (some ⟨p, 0, none⟩) 2 c, .int .i64 0]) (by simp [results, Tryd.results4, go_sem]) rfl ?_
  exact ⟨p, c, rfl, HE.out, D5.out⟩
end Go.Proofs.YtcoocgdldoolaaaDoor
