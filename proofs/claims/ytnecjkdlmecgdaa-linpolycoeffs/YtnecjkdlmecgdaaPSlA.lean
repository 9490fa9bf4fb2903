/- Contracts of tower.Mul, Square, MulX and X for any level and elements, over the seat's translation. -/
import Derived.Test.YtnecjkdlmecgdaaPTwT
import Derived.Test.YtnecjkdlmecgdaaTwBl
namespace Go.Proofs.Ytnecjkdlmecgdaa
open Go.RowKit
open Tw (px pm)

/-- The product in a level: nothing, if one is not of it. -/
def mulv (l : Int) (a b : Nat × Nat) : Nat × Nat := if ofB l a.1 a.2 = true ∧ ofB l b.1 b.2 = true then pm a b else (0, 0)
/-- The generator of a level. -/
def xv (l : Int) : Nat × Nat := if levelB l = true then (if l = 0 then (0, 1) else Tw.gp (l.toNat - 1)) else (0, 0)

theorem below2 {B p : Nat} {W w : World} (h : Below B W w) (hp : B ≤ p) (u v : Value) : Below B W ((w.setCell ⟨p, 0, none⟩ u).setCell ⟨p, 1, none⟩ v) := (h.setCell hp _).setCell hp _
set_option maxHeartbeats 400000 in
theorem mul_no1 (l : Int) (ah al bh bl : Nat) (HO : Ret 54 #[.int .i64 l, .agg #[.int .u64 (ah : Int), .int .u64 (al : Int)]] (.bool false)) :
    Ret 51 #[.int .i64 l, .agg #[.int .u64 (ah : Int), .int .u64 (al : Int)], .agg #[.int .u64 (bh : Int), .int .u64 (bl : Int)]] (.agg #[.int .u64 0, .int .u64 0]) := by
  intro W
  go_enter Try.func51, Try.ntmps51
  go_wp2_with fail
  refine (HO.go _).mono ?_
  rintro e w1 ⟨rfl, hb1⟩
  have R : Ew w1 (W.heap.size + 1 + 1) 0 0 := Ew.below ⟨⟨by simp [go_sem], by simp [go_sem]⟩, by simp [go_sem], by simp [go_sem]⟩ hb1
  have D : Below W.heap.size W w1 := ((((Below.refl _ _).alloc (Nat.le_refl _) _).alloc (by simp <;> omega) _).alloc (by simp <;> omega) _).trans (hb1.mono (by simp <;> omega))
  obtain ⟨⟨r1, r0⟩, f1, f0⟩ := R
  clear hb1
  go_wp2
  refine bodyPost_ret (v := .agg #[.int .u64 0, .int .u64 0]) (by simp [results, Try.results51, go_sem, *]) rfl ⟨rfl, ?_⟩
  exact below2 D (by omega) _ _
set_option maxHeartbeats 400000 in
theorem mul_no2 (l : Int) (ah al bh bl : Nat) (HO : Ret 54 #[.int .i64 l, .agg #[.int .u64 (ah : Int), .int .u64 (al : Int)]] (.bool true)) (HO2 : Ret 54 #[.int .i64 l, .agg #[.int .u64 (bh : Int), .int .u64 (bl : Int)]] (.bool false)) :
    Ret 51 #[.int .i64 l, .agg #[.int .u64 (ah : Int), .int .u64 (al : Int)], .agg #[.int .u64 (bh : Int), .int .u64 (bl : Int)]] (.agg #[.int .u64 0, .int .u64 0]) := by
  intro W
  go_enter Try.func51, Try.ntmps51
  go_wp2_with fail
  refine (HO.go _).mono ?_
  rintro e w1 ⟨rfl, hb1⟩
  have B1 : Box3 W.heap.size ah al bh bl w1 := (box3_three W ah al bh bl).below hb1
  have D1 : Below W.heap.size W w1 := ((((Below.refl _ _).alloc (Nat.le_refl _) _).alloc (by simp <;> omega) _).alloc (by simp <;> omega) _).trans (hb1.mono (by simp <;> omega))
  obtain ⟨k1, k2, k3, k4, k5, k6, k7, k8, k9⟩ := B1.facts
  go_wp2_with fail
  refine (HO2.go _).mono ?_
  rintro e w2 ⟨rfl, hb2⟩
  have B2 := B1.below hb2
  have D2 := D1.trans (hb2.mono D1.size)
  clear k1 k2 k3 k4 k5 k6 k7 k8 k9 B1 D1 hb1 hb2 HO HO2
  obtain ⟨k1, k2, k3, k4, k5, k6, k7, k8, k9⟩ := B2.facts
  go_wp2
  refine bodyPost_ret (v := .agg #[.int .u64 0, .int .u64 0]) (by simp [results, Try.results51, go_sem, *]) rfl ⟨rfl, ?_⟩
  exact below2 D2 (by omega) _ _
theorem mulv_no1 {l : Int} {a b : Nat × Nat} (h : ofB l a.1 a.2 = false) : mulv l a b = (0, 0) := by
  unfold mulv; rw [if_neg (by rintro ⟨h1, _⟩; rw [h] at h1; cases h1)]
theorem mulv_no2 {l : Int} {a b : Nat × Nat} (h : ofB l b.1 b.2 = false) : mulv l a b = (0, 0) := by
  unfold mulv; rw [if_neg (by rintro ⟨_, h1⟩; rw [h] at h1; cases h1)]
theorem mulv_of {l : Int} {a b : Nat × Nat} (h1 : ofB l a.1 a.2 = true) (h2 : ofB l b.1 b.2 = true) : mulv l a b = pm a b := by
  unfold mulv; rw [if_pos ⟨h1, h2⟩]
/-- Mul, whatever the level and the elements. -/
theorem mul_any (l : Int) (a b : Nat × Nat) (h1 : a.1 < 2 ^ 64) (h2 : a.2 < 2 ^ 64) (h3 : b.1 < 2 ^ 64) (h4 : b.2 < 2 ^ 64) :
    Ret 51 #[.int .i64 l, .agg #[.int .u64 (a.1 : Int), .int .u64 (a.2 : Int)], .agg #[.int .u64 (b.1 : Int), .int .u64 (b.2 : Int)]] (.agg #[.int .u64 ((mulv l a b).1 : Int), .int .u64 ((mulv l a b).2 : Int)]) := by
  have HA := of_ret l a.1 a.2 h2
  have HB := of_ret l b.1 b.2 h4
  cases ha : ofB l a.1 a.2
  · rw [ha] at HA; rw [mulv_no1 ha]; exact mul_no1 l _ _ _ _ HA
  · rw [ha] at HA
    cases hb : ofB l b.1 b.2
    · rw [hb] at HB; rw [mulv_no2 hb]; exact mul_no2 l _ _ _ _ HA HB
    · rw [mulv_of ha hb]; exact fun W => mul_of l a.1 a.2 b.1 b.2 ha hb h1 h2 h3 h4 W
set_option maxHeartbeats 400000 in
theorem square_no (l : Int) (ah al : Nat) (HO : Ret 54 #[.int .i64 l, .agg #[.int .u64 (ah : Int), .int .u64 (al : Int)]] (.bool false)) :
    Ret 55 #[.int .i64 l, .agg #[.int .u64 (ah : Int), .int .u64 (al : Int)]] (.agg #[.int .u64 0, .int .u64 0]) := by
  intro W
  go_enter Try.func55, Try.ntmps55
  go_wp2_with fail
  refine (HO.go _).mono ?_
  rintro e w1 ⟨rfl, hb1⟩
  have R : Ew w1 (W.heap.size + 1) 0 0 := Ew.below ⟨⟨by simp [go_sem], by simp [go_sem]⟩, by simp [go_sem], by simp [go_sem]⟩ hb1
  have D : Below W.heap.size W w1 := (((Below.refl _ _).alloc (Nat.le_refl _) _).alloc (by simp) _).trans (hb1.mono (by simp <;> omega))
  obtain ⟨⟨r1, r0⟩, f1, f0⟩ := R
  clear hb1
  go_wp2
  refine bodyPost_ret (v := .agg #[.int .u64 0, .int .u64 0]) (by simp [results, Try.results55, go_sem, *]) rfl ⟨rfl, ?_⟩
  exact below2 D (by omega) _ _
theorem square_ret (l : Int) (a : Nat × Nat) (h1 : a.1 < 2 ^ 64) (h2 : a.2 < 2 ^ 64) :
    Ret 55 #[.int .i64 l, .agg #[.int .u64 (a.1 : Int), .int .u64 (a.2 : Int)]] (.agg #[.int .u64 ((mulv l a a).1 : Int), .int .u64 ((mulv l a a).2 : Int)]) := by
  have HA := of_ret l a.1 a.2 h2
  cases ha : ofB l a.1 a.2
  · rw [ha] at HA; rw [mulv_no1 ha]; exact square_no l _ _ HA
  · rw [mulv_of ha ha]; exact fun W => square_of l a.1 a.2 ha h1 h2 W
set_option maxHeartbeats 400000 in
theorem mulx_no (l : Int) (ah al : Nat) (HO : Ret 54 #[.int .i64 l, .agg #[.int .u64 (ah : Int), .int .u64 (al : Int)]] (.bool false)) :
    Ret 91 #[.int .i64 l, .agg #[.int .u64 (ah : Int), .int .u64 (al : Int)]] (.agg #[.int .u64 0, .int .u64 0]) := by
  intro W
  go_enter Try.func91, Try.ntmps91
  go_wp2_with fail
  refine (HO.go _).mono ?_
  rintro e w1 ⟨rfl, hb1⟩
  have R : Ew w1 (W.heap.size + 1) 0 0 := Ew.below ⟨⟨by simp [go_sem], by simp [go_sem]⟩, by simp [go_sem], by simp [go_sem]⟩ hb1
  have D : Below W.heap.size W w1 := (((Below.refl _ _).alloc (Nat.le_refl _) _).alloc (by simp) _).trans (hb1.mono (by simp <;> omega))
  obtain ⟨⟨r1, r0⟩, f1, f0⟩ := R
  clear hb1
  go_wp2
  refine bodyPost_ret (v := .agg #[.int .u64 0, .int .u64 0]) (by simp [results, Try.results91, go_sem, *]) rfl ⟨rfl, ?_⟩
  exact below2 D (by omega) _ _
set_option maxHeartbeats 1000000 in
theorem mulx_top (ah al t r : Nat) (f : bits .xor .u64 (al : Int) (t : Int) = (r : Int)) (HO : Ret 54 #[.int .i64 7, .agg #[.int .u64 (ah : Int), .int .u64 (al : Int)]] (.bool true)) (H1 : Ret 84 #[.int .u64 (ah : Int)] (.int .u64 (t : Int))) :
    Ret 91 #[.int .i64 7, .agg #[.int .u64 (ah : Int), .int .u64 (al : Int)]] (.agg #[.int .u64 (r : Int), .int .u64 (ah : Int)]) := by
  intro W
  go_enter Try.func91, Try.ntmps91
  go_wp2_with fail
  refine (HO.go _).mono ?_
  rintro e w1 ⟨rfl, hb1⟩
  have B : Bl W w1 [(W.heap.size, ah, al)] [W.heap.size + 1] :=
    Bl.below ⟨⟨⟨by simp [go_sem], by simp [go_sem]⟩, trivial⟩, ⟨⟨by simp [go_sem], by simp [go_sem], by simp [go_sem], by simp [go_sem]⟩, trivial⟩, by go_grown⟩ hb1
  have hq : W.heap.size ≤ W.heap.size + 1 := by omega
  have hd : ¬ W.heap.size = W.heap.size + 1 ∧ ¬ W.heap.size + 1 = W.heap.size := by omega
  clear hb1
  go_upto_region 4 with fail
  generalize W.heap.size + 1 = p1 at *
  have F := B.facts
  simp only [Els, Wrs, and_true] at F
  go_region_held3 (fun w => w.cell? ⟨W.heap.size, 0, none⟩ = some (.int .u64 (ah : Int)) ∧ w.cell? ⟨W.heap.size, 1, none⟩ = some (.int .u64 (al : Int))) (go_keep) (first | (go_at_call 84; refine (H1.go _).mono ?_; rintro e w' ⟨rfl, hb'⟩; have B'' := Bl.below (w' := w') (by first | exact B | exact B.drew | exact B.room | exact B.drew.room | exact B.room.drew | exact B.alloc _ | exact B.drew.alloc _ | exact (B.alloc _).drew) hb'; clear F B hb'; have B := B''; clear B''; (try simp only [World.size_drew] at B); have F := B.facts; simp only [Els, Wrs, and_true] at F; have N := B.nes; simp only [Nes, List.map, and_true] at N; have N2 := B.b.size))
  all_goals
    go_wp2
    refine bodyPost_ret (v := .agg #[.int .u64 (r : Int), .int .u64 (ah : Int)]) (by simp [results, Try.results91, go_sem, *]) rfl ⟨rfl, ?_⟩
    exact (B.b.setCell hq _).setCell hq _
theorem of_x (l : Int) (h : levelB l = true) : ofB l (xv l).1 (xv l).2 = true := by
  rcases level_cases l h with rfl | rfl | rfl | rfl | rfl | rfl | rfl | rfl <;> decide
theorem levelB_of {l h k : Int} (e : ofB l h k = true) : levelB l = true := by
  unfold ofB at e
  cases hl : levelB l
  · rw [hl] at e; cases e
  · rfl
theorem gbit_xv (l : Int) (h : levelB l = true) (h7 : ¬ l = 7) : xv l = (0, gbit l) := by
  rcases level_cases l h with rfl | rfl | rfl | rfl | rfl | rfl | rfl | rfl
  all_goals first | (exact absurd rfl h7) | decide
theorem mulx_any (l : Int) (a : Nat × Nat) (h1 : a.1 < 2 ^ 64) (h2 : a.2 < 2 ^ 64) :
    Ret 91 #[.int .i64 l, .agg #[.int .u64 (a.1 : Int), .int .u64 (a.2 : Int)]] (.agg #[.int .u64 ((mulv l a (xv l)).1 : Int), .int .u64 ((mulv l a (xv l)).2 : Int)]) := by
  have HA := of_ret l a.1 a.2 h2
  cases ha : ofB l a.1 a.2
  · rw [ha] at HA; rw [mulv_no1 ha]; exact mulx_no l _ _ HA
  · rw [ha] at HA
    have hl := levelB_of ha
    rw [mulv_of ha (of_x l hl)]
    by_cases h7 : l = 7
    · subst h7
      have e : pm a (xv 7) = Tw.tms 6 a := by rw [Tw.tms_pm 6 a h1 h2]; rfl
      rw [e]
      exact mulx_top a.1 a.2 _ _ (u64_xor_nat _ _ h2 (Tw.px_lt _ _)) HA (fun W => (t6_any a.1 h1 W).mono fun _ _ ⟨h3, h4⟩ => ⟨h3, by rw [h4]; exact Below.refl _ _⟩)
    · have h0 : a.1 = 0 := by
        obtain ⟨k, hk, rfl⟩ : ∃ k : Nat, k < 8 ∧ l = (k : Int) := ⟨l.toNat, by simp [levelB] at hl; omega, by simp [levelB] at hl; omega⟩
        rcases (ofB_iff k a.1 a.2 hk).1 ha with h3 | h3
        · exact absurd (by rw [h3]; rfl) h7
        · exact h3.1
      have e : pm a (xv l) = (0, px (gbit l) a.2) := by
        rw [gbit_xv l hl h7]
        unfold pm
        simp only [h0]
        rw [Tw.pmh_low, Tw.pml_low, Tw.px_comm]
      rw [e]
      exact mulx_low l a.1 a.2 _ h7 HA (fun W => tx_any l a.2 h2 W)
end Go.Proofs.Ytnecjkdlmecgdaa

/- Slices of elements: what lies in memory; contracts of tower.Sum and steeplelaw01.Ref over the seat's translation. -/
namespace Go.Proofs.Ytnecjkdlmecgdaa
open Go.RowKit

/-- Elements in memory, as a slice has them. -/
structure ERow (w : World) (a : Option Addr) (es : List (Nat × Nat)) : Prop where
  cells : ∀ i, i < es.length → ∃ b off : Nat, a = some ⟨b, off, none⟩ ∧ b < w.heap.size ∧ w.cell? ⟨b, off + i * 2, none⟩ = some (.int .u64 ((es.getD i (0, 0)).1 : Nat)) ∧ w.cell? ⟨b, off + i * 2 + 1, none⟩ = some (.int .u64 ((es.getD i (0, 0)).2 : Nat))
theorem ERow.below {w w' : World} {a : Option Addr} {es : List (Nat × Nat)} (h : ERow w a es) (hb : Below w.heap.size w w') : ERow w' a es := ⟨fun i hi => by
  obtain ⟨b, off, h1, h2, h3, h4⟩ := h.cells i hi
  exact ⟨b, off, h1, Nat.lt_of_lt_of_le h2 hb.size, by rw [hb.cell (p := ⟨b, off + i * 2, none⟩) h2]; exact h3, by rw [hb.cell (p := ⟨b, off + i * 2 + 1, none⟩) h2]; exact h4⟩⟩
theorem ERow.drew {w : World} {a : Option Addr} {es : List (Nat × Nat)} (h : ERow w a es) : ERow w.drew a es := ⟨h.cells⟩
def ltE (es : List (Nat × Nat)) : Prop := ∀ e ∈ es, e.1 < 2 ^ 64 ∧ e.2 < 2 ^ 64
theorem ltE.at {es : List (Nat × Nat)} (h : ltE es) (i : Nat) : (es.getD i (0, 0)).1 < 2 ^ 64 ∧ (es.getD i (0, 0)).2 < 2 ^ 64 := by
  by_cases hi : i < es.length
  · rw [show es.getD i (0, 0) = es[i] by simp [hi]]; exact h _ (List.getElem_mem hi)
  · rw [show es.getD i (0, 0) = (0, 0) by simp [List.getD, List.getElem?_eq_none (Nat.not_lt.1 hi)]]; exact ⟨Nat.two_pow_pos 64, Nat.two_pow_pos 64⟩
theorem flat_at (es : List (Nat × Nat)) : ∀ i, i < es.length → (flat es)[i * 2]? = some (.int .u64 ((es.getD i (0, 0)).1 : Nat)) ∧ (flat es)[i * 2 + 1]? = some (.int .u64 ((es.getD i (0, 0)).2 : Nat)) := by
  induction es with
  | nil => intro i hi; simp at hi
  | cons e l ih =>
    intro i hi
    have ef : flat (e :: l) = .int .u64 (e.1 : Int) :: .int .u64 (e.2 : Int) :: flat l := by simp [flat]
    rw [ef]
    rcases i with _ | i
    · simp
    · have := ih i (by simpa using hi)
      rw [show (i + 1) * 2 = i * 2 + 1 + 1 by omega, show i * 2 + 1 + 1 + 1 = (i * 2 + 1) + 1 + 1 by omega]
      simpa using this
theorem own_row {w : World} {base : Nat} {T : TypeId} {v : Value} {es : List (Nat × Nat)} (h : w.ownsRow base T 2 v es.length (flat es)) :
    ∃ a cap, v = .slice a es.length cap ∧ ERow w a es := by
  rcases h.2 with ⟨h1, h0⟩ | ⟨g, cap, cur, rfl, _⟩
  · refine ⟨none, 0, ?_, ⟨fun i hi => by omega⟩⟩
    rw [h1, h0]
  · refine ⟨_, cap, rfl, ⟨fun i hi => ?_⟩⟩
    have e1 := h.cellAt (i * 2) (by omega)
    have e0 := h.cellAt (i * 2 + 1) (by omega)
    rw [(flat_at es i hi).1] at e1
    rw [(flat_at es i hi).2] at e0
    refine ⟨g, 0, rfl, ?_, by rw [Nat.zero_add]; exact e1, by rw [Nat.zero_add]; exact e0⟩
    rcases Nat.lt_or_ge g w.heap.size with h2 | h2
    · exact h2
    · simp [World.cell?, Array.getElem?_eq_none h2] at e1

theorem info_relem : ∃ i, Try.prog.info? 39 = some i ∧ i.zero = some (.agg #[.int .u64 0, .int .u64 0]) ∧ i.size = 2 ∧ i.bytes = 16 := by
  have h : (Try.prog.info? 39).map (fun i => (i.zero, i.size, i.bytes)) = some (some (.agg #[.int .u64 0, .int .u64 0]), 2, 16) := by kernel_rfl
  obtain ⟨i, hi, he⟩ := Option.map_eq_some_iff.1 h
  simp only [Prod.mk.injEq] at he
  exact ⟨i, hi, he.1, he.2.1, he.2.2⟩
set_option maxHeartbeats 1000000 in
set_option maxRecDepth 100000 in
/-- Elements as the document has them. -/
theorem ref_row (a : Option Addr) (cap : Nat) (es : List (Nat × Nat)) (hn : es.length ≤ 1000) (W : World) (hr : ERow W a es) :
    Calls Try.prog 12 #[.slice a es.length cap] W fun e w' => ∃ a' cap', e = .returned (.slice a' es.length cap') ∧ ERow w' a' es ∧ Below W.heap.size W w' := by
  have HC : Hid (ERow W a es) := hr
  clear hr
  go_enter Try.func12, Try.ntmps12
  go_wp2_with fail
  go_loopw [3, 4] (fun v u wr => ∃ j : Nat, j ≤ es.length ∧ u = .int .i64 j ∧ wr.ownsRow W.heap.size 39 2 v j (flat (es.take j)) ∧ Below W.heap.size W wr) (fun _ u _ => es.length - (intOf u).toNat)
  case atStart => exact ⟨0, Nat.zero_le _, rfl, ⟨by simp [flat], .inl ⟨rfl, rfl⟩⟩, Below.refl _ _⟩
  case round =>
    obtain ⟨j, hj, rfl, hown, hbw⟩ := hrel
    by_cases hlt : j < es.length
    · obtain ⟨b, off, rfl, hb, c1, c0⟩ := HC.out.cells j hlt
      have d1 : wr.cell? ⟨b, off + j * 2, none⟩ = some (.int .u64 ((es.getD j (0, 0)).1 : Nat)) := by rw [hbw.cell (p := ⟨b, off + j * 2, none⟩) hb]; exact c1
      have d0 : wr.cell? ⟨b, off + j * 2 + 1, none⟩ = some (.int .u64 ((es.getD j (0, 0)).2 : Nat)) := by rw [hbw.cell (p := ⟨b, off + j * 2 + 1, none⟩) hb]; exact c0
      have H : Hid (es.take (j + 1) = es.take j ++ [es.getD j (0, 0)]) := take_sn es j hlt
      obtain ⟨i0, hi, hz0, hz1, hz2⟩ := info_relem
      have HI : Hid (Try.prog.info? 39 = some i0 ∧ i0.zero = some (.agg #[.int .u64 0, .int .u64 0]) ∧ i0.size = 2 ∧ i0.bytes = 16) := ⟨hi, hz0, hz1, hz2⟩
      have HO : Hid (wr.ownsRow W.heap.size 39 2 u3 j (flat (es.take j))) := hown
      have HB : Hid (Below W.heap.size W wr) := hbw
      clear hown c1 c0 hi hz0 hz1 hz2 hbw HC
      generalize es.getD j (0, 0) = x at *
      go_wp2_with (at_builtin; refine wpList_append_own _ rfl _ _ 34 rfl W.heap.size 39 i0 (.agg #[.int .u64 0, .int .u64 0]) 2 16 Try.underlying34 HI.out.1 HI.out.2.1 HI.out.2.2.1 HI.out.2.2.2 rfl (by decide) _ _ _ rfl (own_below HO.out (by go_grown)) ⟨wr.heap.size, 0, none⟩ 1 1 [.int .u64 (x.1 : Int), .int .u64 (x.2 : Int)] rfl rfl (fun p u hu => by rcases p with _ | _ | p <;> simp at hu <;> subst hu <;> simp [go_sem]) (by intro u hu; simp at hu; rcases hu with rfl | rfl <;> rfl) (by simp only [maxLen]; omega) (by omega) (by have := HB.out.size; simp; omega) ?_; intro v' w' hown' hgr _)
      refine ⟨⟨j + 1, hlt, by simp, ?_, ?_⟩, by simp [intOf]; omega⟩
      · rw [H.out, flat_snoc]; exact hown'
      · exact (HB.out.alloc HB.out.size _).grown hgr (by have := HB.out.size; simp; omega) fun k hk => (HO.out.lt k hk).1
    · have hje : j = es.length := by omega
      subst hje
      rw [List.take_of_length_le (Nat.le_refl _)] at hown
      obtain ⟨a', cap', rfl, hE⟩ := own_row hown
      have HB : Hid (Below W.heap.size W wr) := hbw
      have HE : Hid (ERow wr a' es) := hE
      clear hown hbw hE HC
      go_wp2
      go_ret
      exact ⟨a', cap', rfl, HE.out, HB.out⟩
end Go.Proofs.Ytnecjkdlmecgdaa
