/- The contract of cube.halved over the seat's translation. -/
import Derived.Test.YtejoombhcnldmaaCbB
import Derived.Deep.OwnRows
namespace Go.Proofs.Ytejoombhcnldmaa
open Go.RowKit
open Cb
open Tw (pm)

/-- The cell number p of a table. -/
def tcell (f : Nat → Nat × Nat) (p : Nat) : Value := if p % 2 = 0 then .int .u64 ((f (p / 2)).1 : Int) else .int .u64 ((f (p / 2)).2 : Int)
theorem row_tab {w : World} {g : Nat} {T : TypeId} {m : Nat} {f : Nat → Value} {es : List (Nat × Nat)} (hm : es.length = m) (R : w.rowIs g T (m * 2) f) (F : ∀ p, p < m * 2 → f p = tcell (el es) p) : ERow w (some ⟨g, 0, none⟩) es := ⟨fun i hi => by
  have c1 := R.cell (i := i * 2) (by omega)
  have c0 := R.cell (i := i * 2 + 1) (by omega)
  rw [F _ (by omega)] at c1 c0
  unfold tcell at c1 c0
  rw [if_pos (by omega), show i * 2 / 2 = i by omega] at c1
  rw [if_neg (by omega), show (i * 2 + 1) / 2 = i by omega] at c0
  exact ⟨g, 0, rfl, R.lt, by rw [Nat.zero_add]; exact c1, by rw [Nat.zero_add]; exact c0⟩⟩
theorem own_rowT {w : World} {base : Nat} {T : TypeId} {g n c : Nat} {xs : List Value} (h : w.ownsRow base T 2 (.slice (some ⟨g, 0, none⟩) n n) n xs) (hc : c = n * 2) : ∃ f, w.rowIs g T c f := by
  subst hc
  rcases h.2 with ⟨h1, _⟩ | ⟨g', cap, cur, e, _, hg, _, _, hs, _⟩
  · injection h1 with h2; cases h2
  · injection e with e1 e2 e3
    obtain rfl : g = g' := by injection e1 with e4; injection e4
    subst e3
    exact ⟨fun i => cur.getD i undef, cur, hg, hs, fun i hi => by
      show cur[i]? = some (cur.getD i undef)
      rw [Array.getD_eq_getD_getElem?, Array.getElem?_eq_getElem (by omega)]; rfl⟩
theorem half_el (st gp : Nat) (t : List (Nat × Nat)) (r : Nat × Nat) {i m : Nat} (hm : t.length / 2 = m) (h : i < m) : el (half st gp t r) i = hv st gp t r i := half_at st gp t r (by omega)
theorem Ew.off {w : World} {b c h l : Nat} (e : Ew w c h l) (hn : b ≠ c) (o o' : Nat) (u v : Value) : Ew ((w.setCell ⟨b, o, none⟩ u).setCell ⟨b, o', none⟩ v) c h l := by
  obtain ⟨⟨h1, h2⟩, h3, h4⟩ := e
  have hn' : c ≠ b := fun h => hn h.symm
  exact ⟨⟨by simp [go_sem, *], by simp [go_sem, *]⟩, by simp [go_sem, *], by simp [go_sem, *]⟩
/-- Three elements in boxes, and the row that is filled. -/
structure Hst (W w : World) (m : Nat) (f : Nat → Value) (P1 P2 : Nat) (r x y : Nat × Nat) : Prop where
  r : Ew w W.heap.size r.1 r.2
  x : El w P1 x.1 x.2
  y : El w P2 y.1 y.2
  row : w.rowIs (W.heap.size + 1) 26 (m * 2) f
  d : Below W.heap.size W w
theorem Hst.below {W w w' : World} {m : Nat} {f : Nat → Value} {P1 P2 : Nat} {r x y : Nat × Nat} (h : Hst W w m f P1 P2 r x y) (hb : Below w.heap.size w w') : Hst W w' m f P1 P2 r x y :=
  ⟨h.r.below hb, h.x.below hb, h.y.below hb, h.row.of_block (hb.block _ h.row.lt), h.d.trans (hb.mono h.d.size)⟩
theorem Hst.drew {W w : World} {m : Nat} {f : Nat → Value} {P1 P2 : Nat} {r x y : Nat × Nat} (h : Hst W w m f P1 P2 r x y) : Hst W w.drew m f P1 P2 r x y := h.below (Below.refl _ _).drew
theorem Hst.facts {W w : World} {m : Nat} {f : Nat → Value} {P1 P2 : Nat} {r x y : Nat × Nat} (h : Hst W w m f P1 P2 r x y) :
    w.cell? ⟨W.heap.size, 0, none⟩ = some (.int .u64 (r.1 : Int)) ∧ w.cell? ⟨W.heap.size, 1, none⟩ = some (.int .u64 (r.2 : Int)) ∧ w.cell? ⟨P1, 0, none⟩ = some (.int .u64 (x.1 : Int)) ∧ w.cell? ⟨P1, 1, none⟩ = some (.int .u64 (x.2 : Int)) ∧ w.cell? ⟨P2, 0, none⟩ = some (.int .u64 (y.1 : Int)) ∧ w.cell? ⟨P2, 1, none⟩ = some (.int .u64 (y.2 : Int)) :=
  ⟨h.r.hi, h.r.lo, h.x.hi, h.x.lo, h.y.hi, h.y.lo⟩
set_option maxHeartbeats 4000000 in
set_option maxRecDepth 100000 in
theorem halved_ok (k : Nat) (hk : k < 8) (st gp m : Nat) (a : Option Addr) (cap : Nat) (t : List (Nat × Nat)) (r : Nat × Nat) (hm : t.length / 2 = m) (h10 : t.length ≤ 1000) (hst : st ≤ 2) (hgp : gp ≤ 1000) (hix : ∀ i, i < m → st * i + gp < t.length) (ht : ltE t) (hr : lt2 r) (ot : ofT k t) (or : ofE k r) (W : World) (hR : ERow W a t) :
    Calls Try.prog 80 #[.int .i64 (k : Int), .slice a t.length cap, .int .i64 (st : Int), .int .i64 (gp : Int), .agg #[.int .u64 (r.1 : Int), .int .u64 (r.2 : Int)]] W fun e w' => ∃ g, e = .returned (.slice (some ⟨g, 0, none⟩) m m) ∧ ERow w' (some ⟨g, 0, none⟩) (half st gp t r) ∧ Below W.heap.size W w' := by
  obtain ⟨i0, hi, hz0, hz1, hz2⟩ := info_elem
  have HN : Hid (Try.prog.info? 26 = some i0 ∧ i0.zero = some (.agg #[.int .u64 0, .int .u64 0]) ∧ i0.size = 2 ∧ i0.bytes = 16) := ⟨hi, hz0, hz1, hz2⟩
  have hm1 : m ≤ 500 := by omega
  have hq : (t.length : Int).tdiv 2 = (m : Int) := by rw [Int.tdiv_eq_ediv_of_nonneg (by omega)]; omega
  have HR : Hid (ERow W a t) := hR
  have HX : Hid (∀ i, i < m → st * i + gp < t.length) := hix
  have HT : Hid (∀ i, lt2 (el t i) ∧ ofE k (el t i)) := fun i => ⟨ltE_el ht i, ot.el hk i⟩
  have HV : Hid ((half st gp t r).length = m ∧ ∀ i, i < m → el (half st gp t r) i = hv st gp t r i) := ⟨by rw [half_len, hm], fun i hi => half_el st gp t r hm hi⟩
  have HB : Hid (t.length ≤ 1000 ∧ st ≤ 2 ∧ gp ≤ 1000) := ⟨h10, hst, hgp⟩
  clear hi hz0 hz1 hz2 hR hix ht ot hm h10 hst hgp
  go_enter Try.func80, Try.ntmps80
  go_wp2_with (at_make; refine wpList_make_full _ rfl _ _ 23 rfl 0 26 i0 (.agg #[.int .u64 0, .int .u64 0]) 2 Try.underlying23 HN.out.1 HN.out.2.1 HN.out.2.2.1 .i64 .i64 _ _ m rfl rfl rfl rfl (by rw [HN.out.2.2.2]; omega) (by simp only [maxLen]; omega) (Nat.zero_le _) ?_; intro w2 own2 hgr2)
  have D : Hid (Below W.heap.size W w2) := ((Below.refl _ _).alloc (Nat.le_refl _) _).grown hgr2 (by simp) (fun k hk => by cases hk)
  have E0 : Ew w2 W.heap.size r.1 r.2 := Ew.below (w := W.alloc (Obj.cells #[.int .u64 (r.1 : Int), .int .u64 (r.2 : Int)] 26)) ⟨⟨by simp [go_sem], by simp [go_sem]⟩, by simp [go_sem], by simp [go_sem]⟩ ((Below.refl _ _).grown hgr2 (Nat.le_refl _) (fun k hk => by cases hk))
  obtain ⟨f0, R0⟩ := own_rowT own2 (rfl : m * 2 = m * 2)
  clear own2 hgr2 HN
  go_loopw [21] (fun u wr => ∃ (j : Nat) (f : Nat → Value), j ≤ m ∧ u = .int .i64 j ∧ wr.rowIs (W.heap.size + 1) 26 (m * 2) f ∧ Hid (∀ p, p < j * 2 → f p = tcell (hv st gp t r) p) ∧ Ew wr W.heap.size r.1 r.2 ∧ Below W.heap.size W wr) (fun u _ => m - (intOf u).toNat)
  case atStart => exact ⟨0, f0, Nat.zero_le _, rfl, by simpa using R0, (fun p hp => by omega), E0, D.out⟩
  case round =>
    obtain ⟨j, f, hj, rfl, hRr, HF, hE, hD⟩ := hrel
    clear R0 D E0
    have HRr : Hid (wr.rowIs (W.heap.size + 1) 26 (m * 2) f) := hRr
    have HD : Hid (Below W.heap.size W wr) := hD
    have HEw : Hid (Ew wr W.heap.size r.1 r.2) := hE
    have hgs : W.heap.size + 1 < wr.heap.size := hRr.lt
    clear hRr hE
    by_cases hlt : j < m
    · have hx := HX.out j hlt
      obtain ⟨q, hq0⟩ : ∃ q, q = st * j := ⟨_, rfl⟩
      have e1 : IntKind.i64.wrap ((st : Int) * (j : Int)) = (q : Int) := by rw [← Int.natCast_mul, ← hq0, IntKind.wrap_i64]; have := HB.out; omega
      have e2 : IntKind.i64.wrap ((q : Int) + (gp : Int)) = ((q + gp : Nat) : Int) := by rw [IntKind.wrap_i64]; have := HB.out; omega
      rw [← hq0] at hx
      have HQ : Hid (q = st * j) := hq0
      clear hq0
      obtain ⟨b, off, rfl, hb, c1, c0⟩ := HR.out.cells q (by omega)
      obtain ⟨b2, off2, e, hb2, d1, d0⟩ := HR.out.cells (q + gp) (by omega)
      injection e with e
      injection e with e3 e4
      subst e3 e4
      have c1' : wr.cell? ⟨b, off + q * 2, none⟩ = some (.int .u64 ((el t q).1 : Nat)) := keepc hD c1
      have c0' : wr.cell? ⟨b, off + q * 2 + 1, none⟩ = some (.int .u64 ((el t q).2 : Nat)) := keepc hD c0
      have d1' : wr.cell? ⟨b, off + (q + gp) * 2, none⟩ = some (.int .u64 ((el t (q + gp)).1 : Nat)) := keepc hD d1
      have d0' : wr.cell? ⟨b, off + (q + gp) * 2 + 1, none⟩ = some (.int .u64 ((el t (q + gp)).2 : Nat)) := keepc hD d0
      have hxl : (q : Int) < (t.length : Int) := by omega
      have hxr : ((q + gp : Nat) : Int) < (t.length : Int) := by omega
      clear c1 c0 d1 d0 hD
      obtain ⟨p, HP⟩ : ∃ p, Hid (p = q + gp) := ⟨_, rfl⟩
      rw [← HP.out] at e2 d1' d0' hxr hx
      go_wp2_with fail
      have HVJ : hv st gp t r j = xa (el t q) (pm r (xa (el t q) (el t p))) := by unfold hv; rw [← HQ.out, ← HP.out]
      have hX := HT.out q
      have hY := HT.out p
      clear HT
      generalize el t q = x at *
      generalize el t p = y at *
      have hbw : b < wr.heap.size := cell_lt c1'
      clear HX HR
      have H1 : Hid (Ret 36 #[.agg #[.int .u64 (x.1 : Int), .int .u64 (x.2 : Int)], .agg #[.int .u64 (y.1 : Int), .int .u64 (y.2 : Int)]] (.agg #[.int .u64 ((xa x y).1 : Int), .int .u64 ((xa x y).2 : Int)])) := fun w => add_any _ _ _ _ hX.1.1 hX.1.2 hY.1.1 hY.1.2 w
      have H2 : Hid (Ret 37 #[.int .i64 (k : Int), .agg #[.int .u64 (r.1 : Int), .int .u64 (r.2 : Int)], .agg #[.int .u64 ((xa x y).1 : Int), .int .u64 ((xa x y).2 : Int)]] (.agg #[.int .u64 ((pm r (xa x y)).1 : Int), .int .u64 ((pm r (xa x y)).2 : Int)])) := by
        have := mul_any (k : Int) r (xa x y) hr.1 hr.2 (lt_xa hX.1 hY.1).1 (lt_xa hX.1 hY.1).2
        rw [mulv_of or (of_xor hk hX.2 hY.2)] at this
        exact this
      have H3 : Hid (Ret 36 #[.agg #[.int .u64 (x.1 : Int), .int .u64 (x.2 : Int)], .agg #[.int .u64 ((pm r (xa x y)).1 : Int), .int .u64 ((pm r (xa x y)).2 : Int)]] (.agg #[.int .u64 ((xa x (pm r (xa x y))).1 : Int), .int .u64 ((xa x (pm r (xa x y))).2 : Int)])) := fun w => add_any _ _ _ _ hX.1.1 hX.1.2 (lt_pm _ _).1 (lt_pm _ _).2 w
      clear hX hY
      have HVV : Hid (hv st gp t r j = xa x (pm r (xa x y))) := HVJ
      clear HVJ
      generalize xa x (pm r (xa x y)) = z at *
      generalize pm r (xa x y) = z2 at *
      generalize xa x y = z3 at *
      go_region_held3 (fun w => w.cell? ⟨b, off + q * 2, none⟩ = some (.int .u64 (x.1 : Nat)) ∧ w.cell? ⟨b, off + q * 2 + 1, none⟩ = some (.int .u64 (x.2 : Nat)) ∧ w.cell? ⟨b, off + p * 2, none⟩ = some (.int .u64 (y.1 : Nat)) ∧ w.cell? ⟨b, off + p * 2 + 1, none⟩ = some (.int .u64 (y.2 : Nat))) (go_keep) (fail)
      · have hb0 : Below wr.heap.size wr ((wr.alloc (Obj.cells #[.int .u64 (x.1 : Int), .int .u64 (x.2 : Int)] 26)).alloc (Obj.cells #[.int .u64 (y.1 : Int), .int .u64 (y.2 : Int)] 26)).drew := by go_grown
        have K : Hst W ((wr.alloc (Obj.cells #[.int .u64 (x.1 : Int), .int .u64 (x.2 : Int)] 26)).alloc (Obj.cells #[.int .u64 (y.1 : Int), .int .u64 (y.2 : Int)] 26)).drew m f wr.heap.size (wr.heap.size + 1) r x y :=
          ⟨HEw.out.below hb0, ⟨by simp [go_sem], by simp [go_sem]⟩, ⟨by simp [go_sem], by simp [go_sem]⟩, HRr.out.of_block (hb0.block _ hgs), HD.out.trans (hb0.mono HD.out.size)⟩
        clear hb0
        go_wp2_with fail
        generalize ((wr.alloc (Obj.cells #[.int .u64 (x.1 : Int), .int .u64 (x.2 : Int)] 26)).alloc (Obj.cells #[.int .u64 (y.1 : Int), .int .u64 (y.2 : Int)] 26)).drew = w3 at *
        obtain ⟨P1, hP1⟩ : ∃ P, P = wr.heap.size := ⟨_, rfl⟩
        obtain ⟨P2, hP2⟩ : ∃ P, P = (wr.heap.size + 1) := ⟨_, rfl⟩
        have n1 : ¬ P1 = W.heap.size + 1 := by omega
        have n2 : ¬ P2 = W.heap.size + 1 := by omega
        rw [← hP2, ← hP1] at K ⊢
        clear hP1 hP2 HEw HRr HD
        have F := K.facts
        have c1 := K.row.cell (i := j * 2) (by omega)
        have c0 := K.row.cell (i := j * 2 + 1) (by omega)
        have z1 := K.row.frozen (j * 2)
        have z0 := K.row.frozen (j * 2 + 1)
        go_region_held3 (fun w => w.cell? ⟨W.heap.size, 0, none⟩ = some (.int .u64 (r.1 : Int)) ∧ w.cell? ⟨W.heap.size, 1, none⟩ = some (.int .u64 (r.2 : Int)) ∧ w.cell? ⟨P1, 0, none⟩ = some (.int .u64 (x.1 : Int)) ∧ w.cell? ⟨P1, 1, none⟩ = some (.int .u64 (x.2 : Int)) ∧ w.cell? ⟨P2, 0, none⟩ = some (.int .u64 (y.1 : Int)) ∧ w.cell? ⟨P2, 1, none⟩ = some (.int .u64 (y.2 : Int))) (first | (go_keep; done) | (obtain ⟨f1, f2, f3, f4, f5, f6⟩ := F; refine ⟨?_, ?_, ?_, ?_, ?_, ?_⟩ <;> simp [go_sem, *])) (first | (go_at_call_of 36 (#[.agg #[.int .u64 (x.1 : Int), .int .u64 (x.2 : Int)], .agg #[.int .u64 (y.1 : Int), .int .u64 (y.2 : Int)]] : Array Value); refine (H1.out.go _).mono ?_; rintro e w' ⟨rfl, hb'⟩; have K' := Hst.below (w' := w') (by first | exact K | exact K.drew) hb'; clear F K hb' c1 c0 z1 z0; have K := K'; clear K'; have F := K.facts; have c1 := K.row.cell (i := j * 2) (by omega); have c0 := K.row.cell (i := j * 2 + 1) (by omega); have z1 := K.row.frozen (j * 2); have z0 := K.row.frozen (j * 2 + 1)) | (go_at_call 37; refine (H2.out.go _).mono ?_; rintro e w' ⟨rfl, hb'⟩; have K' := Hst.below (w' := w') (by first | exact K | exact K.drew) hb'; clear F K hb' c1 c0 z1 z0; have K := K'; clear K'; have F := K.facts; have c1 := K.row.cell (i := j * 2) (by omega); have c0 := K.row.cell (i := j * 2 + 1) (by omega); have z1 := K.row.frozen (j * 2); have z0 := K.row.frozen (j * 2 + 1)) | (go_at_call 36; refine (H3.out.go _).mono ?_; rintro e w' ⟨rfl, hb'⟩; have K' := Hst.below (w' := w') (by first | exact K | exact K.drew) hb'; clear F K hb' c1 c0 z1 z0; have K := K'; clear K'; have F := K.facts; have c1 := K.row.cell (i := j * 2) (by omega); have c0 := K.row.cell (i := j * 2 + 1) (by omega); have z1 := K.row.frozen (j * 2); have z0 := K.row.frozen (j * 2 + 1)))
        go_wp2
        refine ⟨⟨j + 1, _, hlt, by simp, (K.row.set (j * 2) _).set (j * 2 + 1) _, fun p hp => ?_, K.r.off (by omega) _ _ _ _, (K.d.setCell (by simp) _).setCell (by simp) _⟩, by simp [intOf]; omega⟩
        have hF := HF.out p
        unfold tcell at hF ⊢
        by_cases q1 : p = j * 2 + 1
        · rw [if_pos q1, if_neg (by omega), show p / 2 = j by omega, HVV.out]
        · rw [if_neg q1]
          by_cases q2 : p = j * 2
          · rw [if_pos q2, if_pos (by omega), show p / 2 = j by omega, HVV.out]
          · rw [if_neg q2]; exact hF (by omega)
      · have hb0 : Below wr.heap.size wr ((wr.alloc (Obj.cells #[.int .u64 (y.1 : Int), .int .u64 (y.2 : Int)] 26)).alloc (Obj.cells #[.int .u64 (x.1 : Int), .int .u64 (x.2 : Int)] 26)).drew := by go_grown
        have K : Hst W ((wr.alloc (Obj.cells #[.int .u64 (y.1 : Int), .int .u64 (y.2 : Int)] 26)).alloc (Obj.cells #[.int .u64 (x.1 : Int), .int .u64 (x.2 : Int)] 26)).drew m f (wr.heap.size + 1) wr.heap.size r x y :=
          ⟨HEw.out.below hb0, ⟨by simp [go_sem], by simp [go_sem]⟩, ⟨by simp [go_sem], by simp [go_sem]⟩, HRr.out.of_block (hb0.block _ hgs), HD.out.trans (hb0.mono HD.out.size)⟩
        clear hb0
        go_wp2_with fail
        generalize ((wr.alloc (Obj.cells #[.int .u64 (y.1 : Int), .int .u64 (y.2 : Int)] 26)).alloc (Obj.cells #[.int .u64 (x.1 : Int), .int .u64 (x.2 : Int)] 26)).drew = w3 at *
        obtain ⟨P1, hP1⟩ : ∃ P, P = (wr.heap.size + 1) := ⟨_, rfl⟩
        obtain ⟨P2, hP2⟩ : ∃ P, P = wr.heap.size := ⟨_, rfl⟩
        have n1 : ¬ P1 = W.heap.size + 1 := by omega
        have n2 : ¬ P2 = W.heap.size + 1 := by omega
        rw [← hP1, ← hP2] at K ⊢
        clear hP1 hP2 HEw HRr HD
        have F := K.facts
        have c1 := K.row.cell (i := j * 2) (by omega)
        have c0 := K.row.cell (i := j * 2 + 1) (by omega)
        have z1 := K.row.frozen (j * 2)
        have z0 := K.row.frozen (j * 2 + 1)
        go_region_held3 (fun w => w.cell? ⟨W.heap.size, 0, none⟩ = some (.int .u64 (r.1 : Int)) ∧ w.cell? ⟨W.heap.size, 1, none⟩ = some (.int .u64 (r.2 : Int)) ∧ w.cell? ⟨P1, 0, none⟩ = some (.int .u64 (x.1 : Int)) ∧ w.cell? ⟨P1, 1, none⟩ = some (.int .u64 (x.2 : Int)) ∧ w.cell? ⟨P2, 0, none⟩ = some (.int .u64 (y.1 : Int)) ∧ w.cell? ⟨P2, 1, none⟩ = some (.int .u64 (y.2 : Int))) (first | (go_keep; done) | (obtain ⟨f1, f2, f3, f4, f5, f6⟩ := F; refine ⟨?_, ?_, ?_, ?_, ?_, ?_⟩ <;> simp [go_sem, *])) (first | (go_at_call_of 36 (#[.agg #[.int .u64 (x.1 : Int), .int .u64 (x.2 : Int)], .agg #[.int .u64 (y.1 : Int), .int .u64 (y.2 : Int)]] : Array Value); refine (H1.out.go _).mono ?_; rintro e w' ⟨rfl, hb'⟩; have K' := Hst.below (w' := w') (by first | exact K | exact K.drew) hb'; clear F K hb' c1 c0 z1 z0; have K := K'; clear K'; have F := K.facts; have c1 := K.row.cell (i := j * 2) (by omega); have c0 := K.row.cell (i := j * 2 + 1) (by omega); have z1 := K.row.frozen (j * 2); have z0 := K.row.frozen (j * 2 + 1)) | (go_at_call 37; refine (H2.out.go _).mono ?_; rintro e w' ⟨rfl, hb'⟩; have K' := Hst.below (w' := w') (by first | exact K | exact K.drew) hb'; clear F K hb' c1 c0 z1 z0; have K := K'; clear K'; have F := K.facts; have c1 := K.row.cell (i := j * 2) (by omega); have c0 := K.row.cell (i := j * 2 + 1) (by omega); have z1 := K.row.frozen (j * 2); have z0 := K.row.frozen (j * 2 + 1)) | (go_at_call 36; refine (H3.out.go _).mono ?_; rintro e w' ⟨rfl, hb'⟩; have K' := Hst.below (w' := w') (by first | exact K | exact K.drew) hb'; clear F K hb' c1 c0 z1 z0; have K := K'; clear K'; have F := K.facts; have c1 := K.row.cell (i := j * 2) (by omega); have c0 := K.row.cell (i := j * 2 + 1) (by omega); have z1 := K.row.frozen (j * 2); have z0 := K.row.frozen (j * 2 + 1)))
        go_wp2
        refine ⟨⟨j + 1, _, hlt, by simp, (K.row.set (j * 2) _).set (j * 2 + 1) _, fun p hp => ?_, K.r.off (by omega) _ _ _ _, (K.d.setCell (by simp) _).setCell (by simp) _⟩, by simp [intOf]; omega⟩
        have hF := HF.out p
        unfold tcell at hF ⊢
        by_cases q1 : p = j * 2 + 1
        · rw [if_pos q1, if_neg (by omega), show p / 2 = j by omega, HVV.out]
        · rw [if_neg q1]
          by_cases q2 : p = j * 2
          · rw [if_pos q2, if_pos (by omega), show p / 2 = j by omega, HVV.out]
          · rw [if_neg q2]; exact hF (by omega)
    · obtain rfl : j = m := by omega
      have HE : Hid (ERow wr (some ⟨W.heap.size + 1, 0, none⟩) (half st gp t r)) := row_tab HV.out.1 HRr.out fun p hp => by
        rw [HF.out p hp]
        unfold tcell
        rw [HV.out.2 (p / 2) (by omega)]
      clear HF HV HX HT hD
      go_wp2
      go_ret
      exact ⟨_, rfl, HE.out, HD.out⟩
end Go.Proofs.Ytejoombhcnldmaa
