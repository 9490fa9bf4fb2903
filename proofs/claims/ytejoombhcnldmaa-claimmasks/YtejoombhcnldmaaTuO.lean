/- The contract of turn's next over the seat's translation. -/
import Derived.Test.YtejoombhcnldmaaPTuN
namespace Go.Proofs.Ytejoombhcnldmaa
open Go.RowKit
open Cb
open Tw (pm)

/-- What the first m of four terms make. -/
def acm (bit : Nat) (c f t : Nat → Nat × Nat) : Nat → Nat → Nat × Nat
  | 0 => fun _ => (0, 0)
  | m + 1 => fun h => if h = (m % 2 + bit + m / 2) / 2 then xa (acm bit c f t m h) (pm (c (m / 2)) (pm (f (m % 2)) (t ((m % 2 + bit + m / 2) % 2)))) else acm bit c f t m h
theorem lt_acm (bit : Nat) (c f t : Nat → Nat × Nat) : ∀ m h, lt2 (acm bit c f t m h)
  | 0, _ => lt_zero
  | m + 1, h => by
    simp only [acm]
    split
    · exact lt_xa (lt_acm bit c f t m h) (lt_pm _ _)
    · exact lt_acm bit c f t m h
structure Nx (W w : World) (qf qt qo : Nat) (c f t o : Nat → Nat × Nat) : Prop where
  c : E2 w W.heap.size c
  f : E2 w qf f
  t : E2 w qt t
  o : E2 w qo o
  fo : F2 w qo
  r : E2 w (W.heap.size + 3) (fun _ => (0, 0))
  fr : F2 w (W.heap.size + 3)
  q : W.heap.size + 3 < qf ∧ W.heap.size + 3 < qt ∧ qf < qo ∧ qt < qo
  d : Below W.heap.size W w
theorem Nx.below {W w w' : World} {qf qt qo : Nat} {c f t o : Nat → Nat × Nat} (h : Nx W w qf qt qo c f t o) (hb : Below w.heap.size w w') : Nx W w' qf qt qo c f t o :=
  ⟨h.c.below hb, h.f.below hb, h.t.below hb, h.o.below hb, h.fo.below h.o hb, h.r.below hb, h.fr.below h.r hb, h.q, h.d.trans (hb.mono h.d.size)⟩
theorem Nx.drew {W w : World} {qf qt qo : Nat} {c f t o : Nat → Nat × Nat} (h : Nx W w qf qt qo c f t o) : Nx W w.drew qf qt qo c f t o := h.below (Below.refl _ _).drew
theorem E2.other {w : World} {q p : Nat} {c : Nat → Nat × Nat} (h : E2 w q c) (hn : q ≠ p) (i j : Nat) (u v : Value) : E2 ((w.setCell ⟨p, i, none⟩ u).setCell ⟨p, j, none⟩ v) q c := by
  obtain ⟨h1, h2, h3, h4⟩ := h
  exact ⟨by simp [go_sem, *], by simp [go_sem, *], by simp [go_sem, *], by simp [go_sem, *]⟩
theorem F2.other {w : World} {q p : Nat} (h : F2 w q) (i j : Nat) (u v : Value) : F2 ((w.setCell ⟨p, i, none⟩ u).setCell ⟨p, j, none⟩ v) q := by
  obtain ⟨h1, h2, h3, h4⟩ := h
  exact ⟨by simp [go_sem, *], by simp [go_sem, *], by simp [go_sem, *], by simp [go_sem, *]⟩
theorem E2.put {w : World} {q : Nat} {o : Nat → Nat × Nat} (h : E2 w q o) (g : F2 w q) {i : Nat} (hi : i < 2) (v : Nat × Nat) : E2 ((w.setCell ⟨q, i * 2, none⟩ (.int .u64 (v.1 : Int))).setCell ⟨q, i * 2 + 1, none⟩ (.int .u64 (v.2 : Int))) q (fun j => if j = i then v else o j) ∧ F2 ((w.setCell ⟨q, i * 2, none⟩ (.int .u64 (v.1 : Int))).setCell ⟨q, i * 2 + 1, none⟩ (.int .u64 (v.2 : Int))) q := by
  obtain ⟨h1, h2, h3, h4⟩ := h
  obtain ⟨g1, g2, g3, g4⟩ := g
  obtain rfl | rfl : i = 0 ∨ i = 1 := by omega
  · exact ⟨⟨by simp [go_sem, *], by simp [go_sem, *], by simp [go_sem, *], by simp [go_sem, *]⟩, by simp [go_sem, *], by simp [go_sem, *], by simp [go_sem, *], by simp [go_sem, *]⟩
  · exact ⟨⟨by simp [go_sem, *], by simp [go_sem, *], by simp [go_sem, *], by simp [go_sem, *]⟩, by simp [go_sem, *], by simp [go_sem, *], by simp [go_sem, *], by simp [go_sem, *]⟩
theorem Nx.put {W w : World} {qf qt qo : Nat} {c f t o : Nat → Nat × Nat} (h : Nx W w qf qt qo c f t o) {i : Nat} (hi : i < 2) (v : Nat × Nat) : Nx W ((w.setCell ⟨qo, i * 2, none⟩ (.int .u64 (v.1 : Int))).setCell ⟨qo, i * 2 + 1, none⟩ (.int .u64 (v.2 : Int))) qf qt qo c f t (fun j => if j = i then v else o j) := by
  have hq := h.q
  have hp := h.o.put h.fo hi v
  exact ⟨h.c.other (by omega) _ _ _ _, h.f.other (by omega) _ _ _ _, h.t.other (by omega) _ _ _ _, hp.1, hp.2, h.r.other (by omega) _ _ _ _, h.fr.other _ _ _ _, hq, (h.d.setCell (by show _ ≤ qo; omega) _).setCell (by show _ ≤ qo; omega) _⟩
structure Ny (W w : World) (qf qt : Nat) (c f t : Nat → Nat × Nat) : Prop where
  c : E2 w W.heap.size c
  f : E2 w qf f
  t : E2 w qt t
  r : E2 w (W.heap.size + 3) (fun _ => (0, 0))
  fr : F2 w (W.heap.size + 3)
  q : W.heap.size + 3 < qf ∧ W.heap.size + 3 < qt
  d : Below W.heap.size W w
theorem Ny.next {W w : World} {qf qt : Nat} {c f t : Nat → Nat × Nat} (h : Ny W w qf qt c f t) (T : TypeId) : Nx W (w.alloc (Obj.cells #[.int .u64 0, .int .u64 0, .int .u64 0, .int .u64 0] T)) qf qt w.heap.size c f t (fun _ => (0, 0)) := by
  have hb := (Below.refl w.heap.size w).alloc (Nat.le_refl _) (Obj.cells #[.int .u64 0, .int .u64 0, .int .u64 0, .int .u64 0] T)
  exact ⟨h.c.below hb, h.f.below hb, h.t.below hb, E2.new w (fun _ => (0, 0)) T, F2.new w (fun _ => (0, 0)) T, h.r.below hb, h.fr.below h.r hb, ⟨h.q.1, h.q.2, cell_lt h.f.a1, cell_lt h.t.a1⟩, h.d.trans (hb.mono h.d.size)⟩
theorem Nx.alloc {W w : World} {qf qt qo : Nat} {c f t o : Nat → Nat × Nat} (h : Nx W w qf qt qo c f t o) (b : Obj) : Nx W (w.alloc b) qf qt qo c f t o := h.below ((Below.refl _ _).alloc (Nat.le_refl _) b)
theorem Nx.other {W w : World} {qf qt qo : Nat} {c f t o : Nat → Nat × Nat} (h : Nx W w qf qt qo c f t o) {p : Nat} (hp : qo < p) (i j : Nat) (u v : Value) : Nx W ((w.setCell ⟨p, i, none⟩ u).setCell ⟨p, j, none⟩ v) qf qt qo c f t o := by
  have hq := h.q
  exact ⟨h.c.other (by omega) _ _ _ _, h.f.other (by omega) _ _ _ _, h.t.other (by omega) _ _ _ _, h.o.other (by omega) _ _ _ _, h.fo.other _ _ _ _, h.r.other (by omega) _ _ _ _, h.fr.other _ _ _ _, hq, (h.d.setCell (by show _ ≤ p; omega) _).setCell (by show _ ≤ p; omega) _⟩
theorem Ew.new0 (w : World) (T : TypeId) : Ew (w.alloc (Obj.cells #[.int .u64 0, .int .u64 0] T)) w.heap.size 0 0 := ⟨⟨by simp [go_sem], by simp [go_sem]⟩, by simp [go_sem], by simp [go_sem]⟩
theorem nand (a : Nat) (ha : a < 1000) : bits .and .i64 (a : Int) 1 = ((a % 2 : Nat) : Int) := by
  have := cand_nat a 1 (by omega) (by decide)
  rw [Nat.and_one_is_mod] at this
  exact this
/-- The cells that a term reads. -/
theorem Nx.some6 {W w : World} {qf qt qo : Nat} {c f t o : Nat → Nat × Nat} (h : Nx W w qf qt qo c f t o) {q : Nat} {z : Nat × Nat} (e : El w q z.1 z.2) {a i : Nat} (ha : a < 2) (hi : i < 2) :
    w.cell? ⟨qo, i * 2, none⟩ = some (.int .u64 ((o i).1 : Int)) ∧ w.cell? ⟨qo, i * 2 + 1, none⟩ = some (.int .u64 ((o i).2 : Int)) ∧ w.cell? ⟨W.heap.size, a * 2, none⟩ = some (.int .u64 ((c a).1 : Int)) ∧ w.cell? ⟨W.heap.size, a * 2 + 1, none⟩ = some (.int .u64 ((c a).2 : Int)) ∧ w.cell? ⟨q, 0, none⟩ = some (.int .u64 (z.1 : Int)) ∧ w.cell? ⟨q, 1, none⟩ = some (.int .u64 (z.2 : Int)) :=
  ⟨(h.o.at hi).1, (h.o.at hi).2, (h.c.at ha).1, (h.c.at ha).2, e.hi, e.lo⟩
theorem Nx.some4 {W w : World} {qf qt qo : Nat} {c f t o : Nat → Nat × Nat} (h : Nx W w qf qt qo c f t o) {b l : Nat} (hb : b < 2) (hl : l < 2) :
    w.cell? ⟨qf, b * 2, none⟩ = some (.int .u64 ((f b).1 : Int)) ∧ w.cell? ⟨qf, b * 2 + 1, none⟩ = some (.int .u64 ((f b).2 : Int)) ∧ w.cell? ⟨qt, l * 2, none⟩ = some (.int .u64 ((t l).1 : Int)) ∧ w.cell? ⟨qt, l * 2 + 1, none⟩ = some (.int .u64 ((t l).2 : Int)) :=
  ⟨(h.f.at hb).1, (h.f.at hb).2, (h.t.at hl).1, (h.t.at hl).2⟩
theorem F2.at {w : World} {q : Nat} (h : F2 w q) {i : Nat} (hi : i < 2) : w.frozen? ⟨q, i * 2, none⟩ = false ∧ w.frozen? ⟨q, i * 2 + 1, none⟩ = false := by
  obtain rfl | rfl : i = 0 ∨ i = 1 := by omega
  · exact ⟨h.a1, h.a0⟩
  · exact ⟨h.b1, h.b0⟩
set_option maxHeartbeats 8000000 in
set_option maxRecDepth 100000 in
theorem tnext_l (m : Nat) (k : Int) (bit : Nat) (hk : ¬ k = 2) (hbit : bit < 2) (c x y : Nat → Nat × Nat) (hc : ∀ i, lt2 (c i) ∧ ofE m (c i)) (hx : ∀ i, lt2 (x i) ∧ ofE m (x i)) (hy : ∀ i, lt2 (y i) ∧ ofE m (y i)) (hm : m < 8) :
    Ret 66 #[ag2 c, .int .i64 (m : Int), .int .i64 k, .int .i64 (bit : Int), ag2 x, ag2 y] (ag2 (acm bit c y x 4)) := by
  intro W
  unfold ag2
  have hk' : (k == 2) = false := by rw [beq_eq_false_iff_ne]; exact hk
  obtain ⟨rr, hrr⟩ : ∃ r, r = acm bit c y x 4 := ⟨_, rfl⟩
  rw [← hrr]
  have HRR : Hid (rr = acm bit c y x 4) := hrr
  clear hrr
  go_enter Try.func66, Try.ntmps66
  go_upto_region 1 with fail
  go_cut [13, 14] (fun p13 p14 wx => ∃ qf qt : Nat, p13 = .pointer (some ⟨qf, 0, none⟩) ∧ p14 = .pointer (some ⟨qt, 0, none⟩) ∧ Hid (Ny W wx qf qt c y x))
  case first =>
    go_region
    · go_wp2_with fail
      go_meet
      exact ⟨_, _, rfl, rfl, ⟨⟨by simp [go_sem], by simp [go_sem], by simp [go_sem], by simp [go_sem]⟩, ⟨by simp [go_sem], by simp [go_sem], by simp [go_sem], by simp [go_sem]⟩, ⟨by simp [go_sem], by simp [go_sem], by simp [go_sem], by simp [go_sem]⟩, ⟨by simp [go_sem], by simp [go_sem], by simp [go_sem], by simp [go_sem]⟩, ⟨by simp [go_sem], by simp [go_sem], by simp [go_sem], by simp [go_sem]⟩, ⟨by omega, by omega⟩, by go_grown⟩⟩
    · go_wp2_with fail
      go_meet
      exact ⟨_, _, rfl, rfl, ⟨⟨by simp [go_sem], by simp [go_sem], by simp [go_sem], by simp [go_sem]⟩, ⟨by simp [go_sem], by simp [go_sem], by simp [go_sem], by simp [go_sem]⟩, ⟨by simp [go_sem], by simp [go_sem], by simp [go_sem], by simp [go_sem]⟩, ⟨by simp [go_sem], by simp [go_sem], by simp [go_sem], by simp [go_sem]⟩, ⟨by simp [go_sem], by simp [go_sem], by simp [go_sem], by simp [go_sem]⟩, ⟨by omega, by omega⟩, by go_grown⟩⟩
  case rest =>
    obtain ⟨qf, qt, rfl, rfl, HN⟩ := hcut
    have K0 := Hid.mkT (HN.out.next 100)
    have HXY : Hid ((∀ i, lt2 (c i) ∧ ofE m (c i)) ∧ (∀ i, lt2 (x i) ∧ ofE m (x i)) ∧ ∀ i, lt2 (y i) ∧ ofE m (y i)) := ⟨hc, hx, hy⟩
    clear hc hx hy
    go_wp2_with fail
    clear HN
    generalize wc.heap.size = qo at *
    go_loopw [26] (fun u wr => ∃ a : Nat, a ≤ 2 ∧ u = .int .i64 a ∧ Hid (Nx W wr qf qt qo c y x (acm bit c y x (2 * a)))) (fun u _ => 2 - (intOf u).toNat)
    case atStart => exact ⟨0, by decide, rfl, K0⟩
    case round =>
      obtain ⟨a, ha, rfl, HI⟩ := hrel
      clear K0
      by_cases hlt : a < 2
      · have a1 : (a : Int) < 2 := by omega
        go_wp2_with fail
        go_loopw [29] (fun u wr => ∃ b : Nat, b ≤ 2 ∧ u = .int .i64 b ∧ Hid (Nx W wr qf qt qo c y x (acm bit c y x (2 * a + b)))) (fun u _ => 2 - (intOf u).toNat)
        case atStart => exact ⟨0, by decide, rfl, HI⟩
        case round =>
          obtain ⟨b, hb, rfl, HJ⟩ := hrel
          clear HI
          by_cases hlb : b < 2
          · have b1 : (b : Int) < 2 := by omega
            obtain ⟨sm, hsm⟩ : ∃ sm, sm = b + bit + a := ⟨_, rfl⟩
            have e1 : IntKind.i64.wrap ((b : Int) + (bit : Int)) = (b : Int) + (bit : Int) := by rw [IntKind.wrap_i64]; omega
            have e2 : IntKind.i64.wrap ((b : Int) + (bit : Int) + (a : Int)) = (b : Int) + (bit : Int) + (a : Int) := by rw [IntKind.wrap_i64]; omega
            obtain ⟨lo, hlo⟩ : ∃ lo, lo = sm % 2 := ⟨_, rfl⟩
            obtain ⟨i, hi⟩ : ∃ i, i = sm / 2 := ⟨_, rfl⟩
            have e3 : bits .and .i64 ((b : Int) + (bit : Int) + (a : Int)) 1 = (lo : Int) := by rw [show (b : Int) + (bit : Int) + (a : Int) = (sm : Int) by omega, nand sm (by omega), hlo]
            have e4 : ((b : Int) + (bit : Int) + (a : Int)) / 2 = (i : Int) := by omega
            have hlo2 : lo < 2 := by omega
            have hi2 : i < 2 := by omega
            have l1 : (lo : Int) < 2 := by omega
            have l0 : (0 : Int) ≤ (lo : Int) := by omega
            have b0 : (0 : Int) ≤ (b : Int) := by omega
            have a0 : (0 : Int) ≤ (a : Int) := by omega
            have i1 : (i : Int) < 2 := by omega
            have i0 : (0 : Int) ≤ (i : Int) := by omega
            have HA : Hid (acm bit c y x (2 * a + (b + 1)) = fun h => if h = i then xa (acm bit c y x (2 * a + b) h) (pm (c a) (pm (y b) (x lo))) else acm bit c y x (2 * a + b) h) := by
              show _ = _
              rw [show 2 * a + (b + 1) = (2 * a + b) + 1 by omega]
              simp only [acm]
              rw [show (2 * a + b) % 2 = b by omega, show (2 * a + b) / 2 = a by omega, hi, hlo, hsm]
            have H1 : Hid (Ret 37 #[.int .i64 (m : Int), .agg #[.int .u64 ((y b).1 : Int), .int .u64 ((y b).2 : Int)], .agg #[.int .u64 ((x lo).1 : Int), .int .u64 ((x lo).2 : Int)]] (.agg #[.int .u64 ((pm (y b) (x lo)).1 : Int), .int .u64 ((pm (y b) (x lo)).2 : Int)])) := by
              have := mul_any (m : Int) (y b) (x lo) (HXY.out.2.2 b).1.1 (HXY.out.2.2 b).1.2 (HXY.out.2.1 lo).1.1 (HXY.out.2.1 lo).1.2
              rw [mulv_of (HXY.out.2.2 b).2 (HXY.out.2.1 lo).2] at this
              exact this
            have H2 : Hid (Ret 37 #[.int .i64 (m : Int), .agg #[.int .u64 ((c a).1 : Int), .int .u64 ((c a).2 : Int)], .agg #[.int .u64 ((pm (y b) (x lo)).1 : Int), .int .u64 ((pm (y b) (x lo)).2 : Int)]] (.agg #[.int .u64 ((pm (c a) (pm (y b) (x lo))).1 : Int), .int .u64 ((pm (c a) (pm (y b) (x lo))).2 : Int)])) := by
              have := mul_any (m : Int) (c a) (pm (y b) (x lo)) (HXY.out.1 a).1.1 (HXY.out.1 a).1.2 (lt_pm _ _).1 (lt_pm _ _).2
              rw [mulv_of (HXY.out.1 a).2 (of_pm hm (HXY.out.2.2 b).2 (HXY.out.2.1 lo).2)] at this
              exact this
            have HT : Hid (lt2 (acm bit c y x (2 * a + b) i)) := lt_acm bit c y x _ i
            have H3 : Hid (Ret 36 #[.agg #[.int .u64 ((acm bit c y x (2 * a + b) i).1 : Int), .int .u64 ((acm bit c y x (2 * a + b) i).2 : Int)], .agg #[.int .u64 ((pm (c a) (pm (y b) (x lo))).1 : Int), .int .u64 ((pm (c a) (pm (y b) (x lo))).2 : Int)]] (.agg #[.int .u64 ((xa (acm bit c y x (2 * a + b) i) (pm (c a) (pm (y b) (x lo)))).1 : Int), .int .u64 ((xa (acm bit c y x (2 * a + b) i) (pm (c a) (pm (y b) (x lo)))).2 : Int)])) := fun w => add_any _ _ _ _ HT.out.1 HT.out.2 (lt_pm _ _).1 (lt_pm _ _).2 w
            generalize acm bit c y x (2 * a + b) = O at *
            generalize pm (c a) (pm (y b) (x lo)) = z2 at *
            generalize pm (y b) (x lo) = z at *
            obtain ⟨z3, hz3⟩ : ∃ z3, z3 = xa (O i) z2 := ⟨_, rfl⟩
            rw [← hz3] at H3
            have HZ3 : Hid (z3 = xa (O i) z2) := hz3
            have HSM : Hid (sm = b + bit + a ∧ lo = sm % 2 ∧ i = sm / 2) := ⟨hsm, hlo, hi⟩
            clear hz3 hsm hlo hi HT
            obtain ⟨f1, f0⟩ := HJ.out.f.at hlb
            obtain ⟨t1, t0⟩ := HJ.out.t.at hlo2
            have hqo : qo < wr.heap.size := cell_lt HJ.out.o.a1
            go_upto_region 12 with fail
            go_cut [19] (fun p19 wx => ∃ q19 : Nat, p19 = .pointer (some ⟨q19, 0, none⟩) ∧ Hid (El wx q19 z.1 z.2 ∧ Nx W wx qf qt qo c y x O))
            case first =>
              have K := HJ
              clear HJ
              go_region_held3 (fun w => w.cell? ⟨qf, b * 2, none⟩ = some (.int .u64 ((y b).1 : Int)) ∧ w.cell? ⟨qf, b * 2 + 1, none⟩ = some (.int .u64 ((y b).2 : Int)) ∧ w.cell? ⟨qt, lo * 2, none⟩ = some (.int .u64 ((x lo).1 : Int)) ∧ w.cell? ⟨qt, lo * 2 + 1, none⟩ = some (.int .u64 ((x lo).2 : Int))) (first | (go_keep; done) | exact K.out.some4 hlb hlo2 | exact K.out.drew.some4 hlb hlo2 | exact (K.out.other hqo _ _ _ _).some4 hlb hlo2) (first | (go_at_call 37; refine (H1.out.go _).mono ?_; rintro e w' ⟨rfl, hb'⟩; have K' : Hid (Nx W w' qf qt qo c y x O) := (by first | exact K.out.below hb' | exact K.out.drew.below hb' | exact (K.out.alloc _).below hb' | exact (K.out.drew.alloc _).below hb' | exact (K.out.alloc _).drew.below hb'); (first | (have B : Ew w' wr.heap.size 0 0 := (by first | exact (Ew.new0 wr _).below hb' | exact (Ew.new0 wr.drew _).below hb' | exact (Ew.new0 wr _).drew.below hb'); obtain ⟨⟨v1, v2⟩, v3, v4⟩ := B) | skip); clear f1 f0 t1 t0 K hb'; have K := K'; clear K'; obtain ⟨f1, f0⟩ := K.out.f.at hlb; obtain ⟨t1, t0⟩ := K.out.t.at hlo2))
              all_goals
                go_wp2_with fail
                go_meet
                first
                  | exact ⟨_, rfl, ⟨⟨by simp [go_sem], by simp [go_sem]⟩, K.out.alloc _⟩⟩
                  | exact ⟨_, rfl, ⟨⟨by simp [go_sem, *], by simp [go_sem, *]⟩, K.out.other hqo _ _ _ _⟩⟩
            case rest =>
              obtain ⟨q19, rfl, K⟩ := hcut
              clear HJ f1 f0 t1 t0
              go_upto_region 13 with fail
              refine wp_region_noPanic ?_
              refine wp_region_peel (S := fun w => w.cell? ⟨qo, i * 2, none⟩ = some (.int .u64 ((O i).1 : Int)) ∧ w.cell? ⟨qo, i * 2 + 1, none⟩ = some (.int .u64 ((O i).2 : Int)) ∧ w.cell? ⟨W.heap.size, a * 2, none⟩ = some (.int .u64 ((c a).1 : Int)) ∧ w.cell? ⟨W.heap.size, a * 2 + 1, none⟩ = some (.int .u64 ((c a).2 : Int)) ∧ w.cell? ⟨q19, 0, none⟩ = some (.int .u64 (z.1 : Int)) ∧ w.cell? ⟨q19, 1, none⟩ = some (.int .u64 (z.2 : Int))) 14 (by kernel_rfl) rfl (by kernel_rfl) ?_ (fun hHeld => ?_)
              · exact K.out.2.some6 K.out.1 hlt hi2
              refine wpAnyH_take (i := 0) (oi := _) (v := ?_) rfl (by kernel_rfl) (by kernel_rfl) (by kernel_rfl) (fun _ _ _ h => h) (Or.inl ⟨by rfl, ?_⟩) (by assumption) ?_
              rotate_left
              · ((intro w hSw; (try dsimp only at hSw); go_simp) <;> (try with_reducible rfl))
              try simp only [Act.put]
              refine wpAnyH_take (i := 1) (oi := _) (v := ?_) rfl (by kernel_rfl) (by kernel_rfl) (by kernel_rfl) (fun _ _ _ h => h) (Or.inl ⟨by rfl, ?_⟩) (by assumption) ?_
              rotate_left
              · ((intro w hSw; (try dsimp only at hSw); go_simp) <;> (try with_reducible rfl))
              try simp only [Act.put]
              refine wpAnyH_take (i := 2) (oi := _) (v := ?_) rfl (by kernel_rfl) (by kernel_rfl) (by kernel_rfl) (fun _ _ _ h => h) (Or.inl ⟨by rfl, ?_⟩) (by assumption) ?_
              rotate_left
              · ((intro w hSw; (try dsimp only at hSw); go_simp) <;> (try with_reducible rfl))
              try simp only [Act.put]
              refine wpAnyH_take (i := 3) (oi := _) (v := ?_) rfl (by kernel_rfl) (by kernel_rfl) (by kernel_rfl) (fun _ _ _ h => h) (Or.inl ⟨by rfl, ?_⟩) (by assumption) ?_
              rotate_left
              · ((intro w hSw; (try dsimp only at hSw); go_simp) <;> (try with_reducible rfl))
              try simp only [Act.put]
              refine wpAnyH_take (i := 4) (oi := _) (v := ?_) rfl (by kernel_rfl) (by kernel_rfl) (by kernel_rfl) (fun _ _ _ h => h) (Or.inl ⟨by rfl, ?_⟩) (by assumption) ?_
              rotate_left
              · ((intro w hSw; (try dsimp only at hSw); go_simp) <;> (try with_reducible rfl))
              try simp only [Act.put]
              refine wpAnyH_take (i := 5) (oi := _) (v := ?_) rfl (by kernel_rfl) (by kernel_rfl) (by kernel_rfl) (fun _ _ _ h => h) (Or.inl ⟨by rfl, ?_⟩) (by assumption) ?_
              rotate_left
              · ((intro w hSw; (try dsimp only at hSw); go_simp) <;> (try with_reducible rfl))
              try simp only [Act.put]
              refine wpAnyH_take (i := 6) (oi := _) (v := ?_) rfl (by kernel_rfl) (by kernel_rfl) (by kernel_rfl) (fun _ _ _ h => h) (Or.inl ⟨by rfl, ?_⟩) (by assumption) ?_
              rotate_left
              · ((intro w hSw; (try dsimp only at hSw); go_simp) <;> (try with_reducible rfl))
              try simp only [Act.put]
              refine wpAnyH_take (i := 7) (oi := _) (v := ?_) rfl (by kernel_rfl) (by kernel_rfl) (by kernel_rfl) (fun _ _ _ h => h) (Or.inl ⟨by rfl, ?_⟩) (by assumption) ?_
              rotate_left
              · ((intro w hSw; (try dsimp only at hSw); go_simp) <;> (try with_reducible rfl))
              try simp only [Act.put]
              refine wpAnyH_take (i := 8) (oi := _) (v := ?_) rfl (by kernel_rfl) (by kernel_rfl) (by kernel_rfl) (fun _ _ _ h => h) (Or.inl ⟨by rfl, ?_⟩) (by assumption) ?_
              rotate_left
              · ((intro w hSw; (try dsimp only at hSw); go_simp) <;> (try with_reducible rfl))
              try simp only [Act.put]
              refine wpAnyH_take (i := 9) (oi := _) (v := ?_) rfl (by kernel_rfl) (by kernel_rfl) (by kernel_rfl) (fun _ _ _ h => h) (Or.inl ⟨by rfl, ?_⟩) (by assumption) ?_
              rotate_left
              · ((intro w hSw; (try dsimp only at hSw); go_simp) <;> (try with_reducible rfl))
              try simp only [Act.put]
              refine wpAnyH_take (i := 10) (oi := _) (v := ?_) rfl (by kernel_rfl) (by kernel_rfl) (by kernel_rfl) (fun _ _ _ h => h) (Or.inl ⟨by rfl, ?_⟩) (by assumption) ?_
              rotate_left
              · ((intro w hSw; (try dsimp only at hSw); go_simp) <;> (try with_reducible rfl))
              try simp only [Act.put]
              refine wpAnyH_ready (rs := [11]) (by kernel_rfl) (by simp) ?_
              refine AllReadyH.cons (o := _) rfl (fun KK hKK => ?_) AllReadyH.nil
              go_simp
              ((go_at_call 37; refine (H2.out.go _).mono ?_; rintro e w' ⟨rfl, hb'⟩))
              have K'' : Hid (El w' q19 z.1 z.2 ∧ Nx W w' qf qt qo c y x O) := (by first | exact ⟨K.out.1.below hb', K.out.2.below hb'⟩ | exact ⟨K.out.1.drew.below hb', K.out.2.drew.below hb'⟩)
              clear K hb'
              have K := K''
              clear K''
              refine hKK.out _ _ ?_ (fun hHeld => ?_)
              · exact K.out.2.some6 K.out.1 hlt hi2
              clear hKK KK
              try simp only [Act.put]
              refine wpAnyH_ready (rs := [12]) (by kernel_rfl) (by simp) ?_
              refine AllReadyH.cons (o := _) rfl (fun KK hKK => ?_) AllReadyH.nil
              go_simp
              ((go_at_call 36; refine (H3.out.go _).mono ?_; rintro e w' ⟨rfl, hb'⟩))
              have K'' : Hid (El w' q19 z.1 z.2 ∧ Nx W w' qf qt qo c y x O) := (by first | exact ⟨K.out.1.below hb', K.out.2.below hb'⟩ | exact ⟨K.out.1.drew.below hb', K.out.2.drew.below hb'⟩)
              clear K hb'
              have K := K''
              clear K''
              refine hKK.out _ _ ?_ (fun hHeld => ?_)
              · exact K.out.2.some6 K.out.1 hlt hi2
              clear hKK KK
              try simp only [Act.put]
              refine wpAnyH_take (i := 13) (oi := _) (v := ?_) rfl (by kernel_rfl) (by kernel_rfl) (by kernel_rfl) (fun _ _ _ h => h) (Or.inl ⟨by rfl, ?_⟩) (by assumption) ?_
              rotate_left
              · ((intro w hSw; (try dsimp only at hSw); go_simp) <;> (try with_reducible rfl))
              try simp only [Act.put]
              refine wpAnyH_done (by kernel_rfl) ?_ _
              refine peel_last rfl (fun KK hKK => ?_)
              clear hHeld
              obtain ⟨k1, k2, k3, k4, k5, k6⟩ := K.out.2.some6 K.out.1 hlt hi2
              obtain ⟨y1, y2⟩ := K.out.2.fo.at hi2
              go_simp
              refine hKK _ _ ?_
              refine NoPanic.normal ?_
              clear hKK KK
              clear k1 k2 k3 k4 k5 k6 y1 y2
              have K2 := Hid.mkT (K.out.2.put hi2 z3)
              rw [show (fun j => if j = i then z3 else O j) = acm bit c y x (2 * a + (b + 1)) from by
                rw [HA.out]
                funext h
                split
                · rename_i hh
                  rw [hh, HZ3.out]
                · rfl] at K2
              clear K HA HZ3 HSM H1 H2 H3
              go_wp2_with fail
              exact ⟨⟨b + 1, hlb, by simp, K2⟩, by simp [intOf]; omega⟩
          · obtain rfl : b = 2 := by omega
            rw [show 2 * a + 2 = 2 * (a + 1) by omega] at HJ
            go_wp2_with fail
            exact ⟨⟨a + 1, hlt, by simp, HJ⟩, by simp [intOf]; omega⟩
      · obtain rfl : a = 2 := by omega
        rw [show 2 * 2 = 4 from rfl, ← HRR.out] at HI
        obtain ⟨o1, o2, o3, o4⟩ := HI.out.o
        obtain ⟨r1, r2, r3, r4⟩ := HI.out.r
        obtain ⟨s1, s2, s3, s4⟩ := HI.out.fr
        have hd := Hid.mkT HI.out.d
        have hnq : ¬ W.heap.size + 3 = qo := by have := HI.out.q; omega
        clear HI HXY HRR
        go_wp2_with fail
        refine bodyPost_ret (v := .agg #[.int .u64 ((rr 0).1 : Int), .int .u64 ((rr 0).2 : Int), .int .u64 ((rr 1).1 : Int), .int .u64 ((rr 1).2 : Int)]) (by simp [results, Try.results66, go_sem, *]) rfl ⟨rfl, ?_⟩
        exact (((hd.out.setCell (by simp; omega) _).setCell (by simp; omega) _).setCell (by simp; omega) _).setCell (by simp; omega) _
end Go.Proofs.Ytejoombhcnldmaa
