/- Contracts of steeplelaw09.Few and steeplelaw20.Few, and the walk of SumcheckVerifies over the seat's translation. -/
import Derived.Test.YtfhojakhoobnhaaScF
import Derived.Test.YtfhojakhoobnhaaPScR
namespace Go.Proofs.Ytfhojakhoobnhaa
open Go.RowKit
open Cb Ln Sc
open Tw (pm)

/-- Are tables no more than so many, and no longer than so many? -/
def fewT (ts : List (List (Nat × Nat))) (most long : Nat) : Bool := decide (ts.length ≤ most) && ts.all fun r => decide (r.length ≤ long)
theorem fewT_true {ts : List (List (Nat × Nat))} {most long : Nat} (h : fewT ts most long = true) : ts.length ≤ most ∧ ∀ t ∈ ts, t.length ≤ long := by
  unfold fewT at h
  rw [Bool.and_eq_true] at h
  exact ⟨of_decide_eq_true h.1, fun t ht => of_decide_eq_true (List.all_eq_true.1 h.2 t ht)⟩
set_option maxHeartbeats 1000000 in
theorem sfew (a : Option Addr) (cap most long : Nat) (ts : List (List (Nat × Nat))) (hm : most ≤ 1000) (W : World) (hr : TRow W a ts) :
    Calls Try.prog 8 #[.slice a ts.length cap, .int .i64 (most : Int), .int .i64 (long : Int)] W fun e w' => e = .returned (.bool (fewT ts most long)) ∧ Below W.heap.size W w' := by
  have HR : Hid (TRow W a ts) := hr
  clear hr
  by_cases hl : ts.length ≤ most
  · have h1 : ¬ (most : Int) < (ts.length : Int) := by omega
    have HF : Hid (fewT ts most long = ts.all fun r => decide (r.length ≤ long)) := by show _ = _; simp [fewT, hl]
    go_enter Try.func8, Try.ntmps8
    go_wp2_with fail
    go_loopw [7] (fun u wr => ∃ j : Nat, j ≤ ts.length ∧ u = .int .i64 j ∧ Hid ((ts.take j).all (fun r => decide (r.length ≤ long)) = true) ∧ Below W.heap.size W wr) (fun u _ => ts.length - (intOf u).toNat)
    case atStart => exact ⟨0, Nat.zero_le _, rfl, (by rfl), Below.refl _ _⟩
    case round =>
      obtain ⟨j, hj, rfl, HT, hD⟩ := hrel
      have HD : Hid (Below W.heap.size W wr) := hD
      clear hD
      by_cases hlt : j < ts.length
      · obtain ⟨b, off, ta, tc, rfl, hb, cb, _⟩ := HR.out.cells j hlt
        have db := keepc HD.out cb
        have HS : Hid (ts.take (j + 1) = ts.take j ++ [tb ts j]) := take_ts ts j hlt
        have HM : Hid (tb ts j ∈ ts) := tb_mem hlt
        clear cb
        generalize tb ts j = x at *
        by_cases hx : x.length ≤ long
        · have h2 : ¬ (long : Int) < (x.length : Int) := by omega
          go_wp2
          exact ⟨⟨j + 1, hlt, by simp, (by show _ = _; rw [HS.out, List.all_append, HT.out]; simp [hx]), HD.out⟩, by simp [intOf]; omega⟩
        · have h2 : (long : Int) < (x.length : Int) := by omega
          go_wp2
          go_ret
          refine ⟨?_, HD.out⟩
          rw [HF.out, show (ts.all fun r => decide (r.length ≤ long)) = false from by
            rw [List.all_eq_false]; exact ⟨x, HM.out, by simp [hx]⟩]
          rfl
      · obtain rfl : j = ts.length := by omega
        go_wp2
        go_ret
        refine ⟨?_, HD.out⟩
        have := HT.out
        rw [List.take_of_length_le (Nat.le_refl _)] at this
        rw [HF.out, this]
        rfl
  · have h1 : (most : Int) < (ts.length : Int) := by omega
    have HF : Hid (fewT ts most long = false) := by show _ = _; simp [fewT, hl]
    go_enter Try.func8, Try.ntmps8
    go_wp2
    go_ret
    exact ⟨by rw [HF.out]; rfl, by first | exact Below.refl _ _ | go_grown⟩
/-- What SumcheckVerifies is given, in a box of its own. -/
structure Vx (W w : World) (c : Nat × Nat) (a ra : Option Addr) (n cap m rcap : Nat) : Prop where
  vx0 : w.cell? ⟨W.heap.size, 0, none⟩ = some (.int .u64 (c.1 : Int))
  vx1 : w.cell? ⟨W.heap.size, 1, none⟩ = some (.int .u64 (c.2 : Int))
  vx2 : w.cell? ⟨W.heap.size, 2, none⟩ = some (.slice a n cap)
  vx3 : w.cell? ⟨W.heap.size, 3, none⟩ = some (.slice ra m rcap)
  d : Below W.heap.size W w
theorem Vx.below {W w w' : World} {c : Nat × Nat} {a ra : Option Addr} {n cap m rcap : Nat} (h : Vx W w c a ra n cap m rcap) (hb : Below w.heap.size w w') : Vx W w' c a ra n cap m rcap :=
  ⟨keepc hb h.vx0, keepc hb h.vx1, keepc hb h.vx2, keepc hb h.vx3, h.d.trans (hb.mono h.d.size)⟩
theorem Vx.start (W : World) (c : Nat × Nat) (a ra : Option Addr) (n cap m rcap : Nat) (T : TypeId) : Vx W (W.alloc (Obj.cells #[.int .u64 (c.1 : Int), .int .u64 (c.2 : Int), .slice a n cap, .slice ra m rcap] T)) c a ra n cap m rcap :=
  ⟨by simp [go_sem], by simp [go_sem], by simp [go_sem], by simp [go_sem], by go_grown⟩
/-- With an answer's box. -/
structure Vw (W w : World) (c : Nat × Nat) (a ra : Option Addr) (n cap m rcap q : Nat) (y : Nat × Nat) : Prop where
  v : Vx W w c a ra n cap m rcap
  e : El w q y.1 y.2
theorem Vw.below {W w w' : World} {c : Nat × Nat} {a ra : Option Addr} {n cap m rcap q : Nat} {y : Nat × Nat} (h : Vw W w c a ra n cap m rcap q y) (hb : Below w.heap.size w w') : Vw W w' c a ra n cap m rcap q y := ⟨h.v.below hb, h.e.below hb⟩
theorem Vw.set3 {W w : World} {c : Nat × Nat} {a ra : Option Addr} {n cap m rcap q : Nat} {y : Nat × Nat} (h : Vw W w c a ra n cap m rcap q y) {g : Nat} (h1 : W.heap.size < g) (h2 : q < g) (u v x : Value) : Vw W (((w.setCell ⟨g, 0, none⟩ u).setCell ⟨g, 1, none⟩ v).setCell ⟨g, 2, none⟩ x) c a ra n cap m rcap q y := by
  obtain ⟨⟨v0, v1, v2, v3, d⟩, e1, e0⟩ := h
  have n1 : ¬ g = W.heap.size := by omega
  have n2 : ¬ W.heap.size = g := by omega
  have n3 : ¬ g = q := by omega
  have n4 : ¬ q = g := by omega
  exact ⟨⟨by simp [go_sem, *], by simp [go_sem, *], by simp [go_sem, *], by simp [go_sem, *], below3 d (by omega) _ _ _⟩, by simp [go_sem, *], by simp [go_sem, *]⟩
/-- Room for three, or three. -/
structure R3 (w : World) (q : Nat) (u v x : Value) : Prop where
  r0 : w.cell? ⟨q, 0, none⟩ = some u
  r1 : w.cell? ⟨q, 1, none⟩ = some v
  r2 : w.cell? ⟨q, 2, none⟩ = some x
  f0 : w.frozen? ⟨q, 0, none⟩ = false
  f1 : w.frozen? ⟨q, 1, none⟩ = false
  f2 : w.frozen? ⟨q, 2, none⟩ = false
theorem R3.below {w w' : World} {q : Nat} {u v x : Value} (h : R3 w q u v x) (hb : Below w.heap.size w w') : R3 w' q u v x :=
  ⟨keepc hb h.r0, keepc hb h.r1, keepc hb h.r2, keepf hb h.r0 h.f0, keepf hb h.r1 h.f1, keepf hb h.r2 h.f2⟩
theorem R3.new (w : World) (u v x : Value) (T : TypeId) : R3 (w.alloc (Obj.cells #[u, v, x] T)) w.heap.size u v x :=
  ⟨by simp [go_sem], by simp [go_sem], by simp [go_sem], by simp [go_sem], by simp [go_sem], by simp [go_sem]⟩
theorem R3.drew {w : World} {q : Nat} {u v x : Value} (h : R3 w q u v x) : R3 w.drew q u v x := h.below (Below.refl _ _).drew
theorem R3.set {w : World} {q : Nat} {u v x : Value} (h : R3 w q u v x) (u' v' x' : Value) : R3 (((w.setCell ⟨q, 0, none⟩ u').setCell ⟨q, 1, none⟩ v').setCell ⟨q, 2, none⟩ x') q u' v' x' := by
  obtain ⟨r0, r1, r2, f0, f1, f2⟩ := h
  exact ⟨by simp [go_sem, *], by simp [go_sem, *], by simp [go_sem, *], by simp [go_sem, *], by simp [go_sem, *], by simp [go_sem, *]⟩
set_option maxHeartbeats 8000000 in
set_option maxRecDepth 100000 in
theorem scv_any (lv d : Int) (c : Nat × Nat) (hc : lt2 c) (a ra : Option Addr) (cap rcap : Nat) (rs : List (List (Nat × Nat))) (r : List (Nat × Nat)) (hrs : ltT rs) (hr : ltE r) (W : World) (hT : TRowC W a rs) (hE : ERow W ra r) :
    Calls Try.prog 3 #[.int .i64 lv, .int .i64 d, .agg #[.int .u64 (c.1 : Int), .int .u64 (c.2 : Int), .slice a rs.length cap, .slice ra r.length rcap]] W fun e w' => e = .returned (.bool true) ∧ Below W.heap.size W w' := by
  have AW := Hid.mkS awake20
  have HF : Hid (∀ w, Below W.heap.size W w → Calls Try.prog 8 #[.slice a rs.length cap, .int .i64 8, .int .i64 10] w fun e w' => e = .returned (.bool (fewT rs 8 10)) ∧ Below w.heap.size w w') := fun w hb => sfew a cap 8 10 rs (by decide) w (hT.t.below hb)
  have K0 := Hid.mkS (Vx.start W c a ra rs.length cap r.length rcap 28)
  rcases hB : fewT rs 8 10 with _ | _
  · rw [hB] at HF
    clear hB hT hE hrs hr hc
    go_enter Try.func3, Try.ntmps3
    go_wp2_with (first | (go_at_call 8; refine (HF.out _ K0.out.d).mono ?_; rintro e w1 ⟨rfl, hb1⟩; have K1 := Hid.mkS (K0.out.below hb1); clear hb1) | (go_at_call 9; refine (AW.out.go _).mono ?_; rintro e w2 ⟨rfl, hb2⟩; have K2 := Hid.mkS (K1.out.below hb2); clear hb2))
    go_ret
    exact ⟨rfl, K2.out.d⟩
  obtain ⟨hf1, hf2⟩ := fewT_true hB
  rw [hB] at HF
  clear hB
  by_cases h8 : r.length ≤ 8
  case neg =>
    have h8' : (8 : Int) < (r.length : Int) := by omega
    clear hT hE hrs hr hc hf1 hf2
    go_enter Try.func3, Try.ntmps3
    go_wp2_with (first | (go_at_call 8; refine (HF.out _ K0.out.d).mono ?_; rintro e w1 ⟨rfl, hb1⟩; have K1 := Hid.mkS (K0.out.below hb1); clear hb1; have vx3 := K1.out.vx3) | (go_at_call 9; refine (AW.out.go _).mono ?_; rintro e w2 ⟨rfl, hb2⟩; have K2 := Hid.mkS (K1.out.below hb2); clear hb2))
    go_ret
    exact ⟨rfl, K2.out.d⟩
  have h8' : ¬ (8 : Int) < (r.length : Int) := by omega
  have hlen : ∀ t ∈ rs, t.length ≤ 1000 := fun t ht => by have := hf2 t ht; omega
  have HV : Hid (∀ w, Below W.heap.size W w → Calls Try.prog 10 #[.int .i64 lv, .int .i64 d, .agg #[.int .u64 (c.1 : Int), .int .u64 (c.2 : Int)], .slice a rs.length cap, .slice ra r.length rcap] w fun e w' => e = .returned (.tuple #[.agg #[.int .u64 ((vfR lv d c rs r).1.1 : Int), .int .u64 ((vfR lv d c rs r).1.2 : Int)], .int .i64 (vfR lv d c rs r).2]) ∧ Below w.heap.size w w') := fun w hb => sver lv d c hc a ra cap rcap rs r (by omega) (by omega) hlen hrs hr w (hT.below hb) (hE.below hb)
  have HRf : Hid (∀ w, Below W.heap.size W w → Calls Try.prog 12 #[.slice a rs.length cap] w fun e w' => ∃ a' cap', e = .returned (.slice a' rs.length cap') ∧ TRow w' a' rs ∧ Below w.heap.size w w') := fun w hb => refs_any a cap rs (by omega) hlen w (hT.t.below hb)
  have HRr : Hid (∀ w, Below W.heap.size W w → Calls Try.prog 13 #[.slice ra r.length rcap] w fun e w' => ∃ a' cap', e = .returned (.slice a' r.length cap') ∧ ERow w' a' r ∧ Below w.heap.size w w') := fun w hb => ref_row ra rcap r (by omega) w (hE.below hb)
  have HRv : Hid (∀ (w : World) (a1 a2 : Option Addr) (c1 c2 : Nat), TRow w a1 rs → ERow w a2 r → Calls Try.prog 11 #[.int .i64 lv, .int .i64 d, .agg #[.int .u64 (c.1 : Int), .int .u64 (c.2 : Int)], .slice a1 rs.length c1, .slice a2 r.length c2] w fun e w' => e = .returned (.agg #[.int .u64 ((vfR lv d c rs r).1.1 : Int), .int .u64 ((vfR lv d c rs r).1.2 : Int), .int .i64 (vfR lv d c rs r).2]) ∧ Below w.heap.size w w') := fun w a1 a2 c1 c2 h1 h2 => rver lv d c hc a1 a2 c1 c2 rs r (by omega) (by omega) hlen hrs hr w h1 h2
  clear hT hE hrs hr hc hf1 hf2 hlen
  generalize vfR lv d c rs r = Y at *
  obtain ⟨rn, hrn⟩ : ∃ rn, rn = rs.length := ⟨_, rfl⟩
  obtain ⟨rm, hrm⟩ : ∃ rm, rm = r.length := ⟨_, rfl⟩
  rw [← hrn] at HF K0 HV HRf HRv ⊢
  rw [← hrm] at K0 HV HRr HRv h8' ⊢
  clear hrn hrm h8
  go_enter Try.func3, Try.ntmps3
  go_upto_region 4 with (first | (go_at_call 8; refine (HF.out _ K0.out.d).mono ?_; rintro e w1 ⟨rfl, hb1⟩; have K1 := Hid.mkS (K0.out.below hb1); clear hb1 K0; have vx0 := K1.out.vx0; have vx1 := K1.out.vx1; have vx2 := K1.out.vx2; have vx3 := K1.out.vx3) | (go_at_call 10; refine (HV.out _ K1.out.d).mono ?_; rintro e w2 ⟨rfl, hb2⟩; have K2 := Hid.mkS (K1.out.below hb2); clear hb2 K1 vx0 vx1 vx2 vx3))
  obtain ⟨q7, hq7⟩ : ∃ q7, q7 = w2.heap.size := ⟨_, rfl⟩
  have KQ : Hid (Vw W (w2.alloc (Obj.cells #[.int .u64 (Y.1.1 : Int), .int .u64 (Y.1.2 : Int)] 24)) c a ra rn cap rm rcap q7 Y.1) := ⟨K2.out.below ((Below.refl _ _).alloc (Nat.le_refl _) _), by rw [hq7]; exact ⟨by simp [go_sem], by simp [go_sem]⟩⟩
  obtain ⟨wq, hwq⟩ : ∃ wq, wq = w2.alloc (Obj.cells #[.int .u64 (Y.1.1 : Int), .int .u64 (Y.1.2 : Int)] 24) := ⟨_, rfl⟩
  rw [← hwq] at KQ ⊢
  rw [← hq7]
  clear hwq hq7 K2 HF HV
  go_cut [9] (fun p9 wx => ∃ q : Nat, p9 = .pointer (some ⟨q, 0, none⟩) ∧ Hid (R3 wx q (.int .u64 (Y.1.1 : Int)) (.int .u64 (Y.1.2 : Int)) (.int .i64 Y.2) ∧ Vw W wx c a ra rn cap rm rcap q7 Y.1))
  case first =>
    have K := KQ
    have vx0 := K.out.v.vx0
    have vx1 := K.out.v.vx1
    have vx2 := K.out.v.vx2
    have vx3 := K.out.v.vx3
    have hW : W.heap.size < wq.heap.size := cell_lt vx0
    have h7 : q7 < wq.heap.size := K.out.e.lt
    go_region_held3 (fun w => w.cell? ⟨W.heap.size, 0, none⟩ = some (.int .u64 (c.1 : Int)) ∧ w.cell? ⟨W.heap.size, 1, none⟩ = some (.int .u64 (c.2 : Int)) ∧ w.cell? ⟨W.heap.size, 2, none⟩ = some (.slice a rn cap) ∧ w.cell? ⟨W.heap.size, 3, none⟩ = some (.slice ra rm rcap)) (first | (go_keep; done) | exact ⟨K.out.v.vx0, K.out.v.vx1, K.out.v.vx2, K.out.v.vx3⟩ | exact ⟨(K.out.set3 (by assumption) (by assumption) _ _ _).v.vx0, (K.out.set3 (by assumption) (by assumption) _ _ _).v.vx1, (K.out.set3 (by assumption) (by assumption) _ _ _).v.vx2, (K.out.set3 (by assumption) (by assumption) _ _ _).v.vx3⟩) (first
      | (go_at_call 12; refine (HRf.out _ (by first | exact K.out.v.d | exact (K.out.below (Below.refl _ _).drew).v.d | exact (K.out.below ((Below.refl _ _).alloc (Nat.le_refl _) _)).v.d | exact ((K.out.below (Below.refl _ _).drew).below ((Below.refl _ _).alloc (Nat.le_refl _) _)).v.d | exact ((K.out.below ((Below.refl _ _).alloc (Nat.le_refl _) _)).below (Below.refl _ _).drew).v.d)).mono ?_; rintro e w4 ⟨a1, c1, rfl, hT4, hb4⟩; have K' : Hid (Vw W w4 c a ra rn cap rm rcap q7 Y.1) := (by first | exact K.out.below hb4 | exact (K.out.below (Below.refl _ _).drew).below hb4 | exact (K.out.below ((Below.refl _ _).alloc (Nat.le_refl _) _)).below hb4 | exact ((K.out.below (Below.refl _ _).drew).below ((Below.refl _ _).alloc (Nat.le_refl _) _)).below hb4 | exact ((K.out.below ((Below.refl _ _).alloc (Nat.le_refl _) _)).below (Below.refl _ _).drew).below hb4); have T4 := Hid.mkS hT4; clear hT4; (first | (have B' := B.below hb4; clear B; have B := B'; clear B') | (have B : R3 w4 _ (.int .u64 0) (.int .u64 0) (.int .i64 0) := (R3.new _ _ _ _ _).below hb4) | (have B : R3 w4 _ (.int .u64 0) (.int .u64 0) (.int .i64 0) := (R3.new _ _ _ _ _).drew.below hb4) | skip); clear hb4 K vx0 vx1 vx2 vx3; have K := K'; clear K'; have hW4 : W.heap.size < w4.heap.size := cell_lt K.out.v.vx0; have h74 : q7 < w4.heap.size := K.out.e.lt; have vx0 := K.out.v.vx0; have vx1 := K.out.v.vx1; have vx2 := K.out.v.vx2; have vx3 := K.out.v.vx3; (try (have g0 := B.r0; have g1 := B.r1; have g2 := B.r2; have h0 := B.f0; have h1 := B.f1; have h2 := B.f2)))
      | (go_at_call 13; refine (HRr.out _ (by first | exact K.out.v.d | exact (K.out.below (Below.refl _ _).drew).v.d | exact (K.out.below ((Below.refl _ _).alloc (Nat.le_refl _) _)).v.d | exact ((K.out.below (Below.refl _ _).drew).below ((Below.refl _ _).alloc (Nat.le_refl _) _)).v.d | exact ((K.out.below ((Below.refl _ _).alloc (Nat.le_refl _) _)).below (Below.refl _ _).drew).v.d)).mono ?_; rintro e w5 ⟨a2, c2, rfl, hE5, hb5⟩; have K' : Hid (Vw W w5 c a ra rn cap rm rcap q7 Y.1) := (by first | exact K.out.below hb5 | exact (K.out.below (Below.refl _ _).drew).below hb5 | exact (K.out.below ((Below.refl _ _).alloc (Nat.le_refl _) _)).below hb5 | exact ((K.out.below (Below.refl _ _).drew).below ((Below.refl _ _).alloc (Nat.le_refl _) _)).below hb5 | exact ((K.out.below ((Below.refl _ _).alloc (Nat.le_refl _) _)).below (Below.refl _ _).drew).below hb5); have T5 : Hid (TRow w5 a1 rs ∧ ERow w5 a2 r) := ⟨(by first | exact T4.out.below hb5 | exact (T4.out.below (Below.refl _ _).drew).below hb5 | exact (T4.out.below ((Below.refl _ _).alloc (Nat.le_refl _) _)).below hb5 | exact ((T4.out.below (Below.refl _ _).drew).below ((Below.refl _ _).alloc (Nat.le_refl _) _)).below hb5 | exact ((T4.out.below ((Below.refl _ _).alloc (Nat.le_refl _) _)).below (Below.refl _ _).drew).below hb5), hE5⟩; clear hE5 T4; (first | (have B' := B.below hb5; clear B; have B := B'; clear B') | (have B : R3 w5 _ (.int .u64 0) (.int .u64 0) (.int .i64 0) := (R3.new _ _ _ _ _).below hb5) | (have B : R3 w5 _ (.int .u64 0) (.int .u64 0) (.int .i64 0) := (R3.new _ _ _ _ _).drew.below hb5) | skip); clear hb5 K vx0 vx1 vx2 vx3; have K := K'; clear K'; have hW5 : W.heap.size < w5.heap.size := cell_lt K.out.v.vx0; have h75 : q7 < w5.heap.size := K.out.e.lt; have vx0 := K.out.v.vx0; have vx1 := K.out.v.vx1; have vx2 := K.out.v.vx2; have vx3 := K.out.v.vx3; (try (have g0 := B.r0; have g1 := B.r1; have g2 := B.r2; have h0 := B.f0; have h1 := B.f1; have h2 := B.f2)))
      | (go_at_call 11; refine (HRv.out _ _ _ _ _ (by first | exact T5.out.1 | exact (T5.out.1.below (Below.refl _ _).drew) | exact (T5.out.1.below ((Below.refl _ _).alloc (Nat.le_refl _) _)) | exact ((T5.out.1.below (Below.refl _ _).drew).below ((Below.refl _ _).alloc (Nat.le_refl _) _)) | exact ((T5.out.1.below ((Below.refl _ _).alloc (Nat.le_refl _) _)).below (Below.refl _ _).drew)) (by first | exact T5.out.2 | exact (T5.out.2.below (Below.refl _ _).drew) | exact (T5.out.2.below ((Below.refl _ _).alloc (Nat.le_refl _) _)) | exact ((T5.out.2.below (Below.refl _ _).drew).below ((Below.refl _ _).alloc (Nat.le_refl _) _)) | exact ((T5.out.2.below ((Below.refl _ _).alloc (Nat.le_refl _) _)).below (Below.refl _ _).drew))).mono ?_; rintro e w6 ⟨rfl, hb6⟩; have K' : Hid (Vw W w6 c a ra rn cap rm rcap q7 Y.1) := (by first | exact K.out.below hb6 | exact (K.out.below (Below.refl _ _).drew).below hb6 | exact (K.out.below ((Below.refl _ _).alloc (Nat.le_refl _) _)).below hb6 | exact ((K.out.below (Below.refl _ _).drew).below ((Below.refl _ _).alloc (Nat.le_refl _) _)).below hb6 | exact ((K.out.below ((Below.refl _ _).alloc (Nat.le_refl _) _)).below (Below.refl _ _).drew).below hb6); skip; (first | (have B' := B.below hb6; clear B; have B := B'; clear B') | (have B : R3 w6 _ (.int .u64 0) (.int .u64 0) (.int .i64 0) := (R3.new _ _ _ _ _).below hb6) | (have B : R3 w6 _ (.int .u64 0) (.int .u64 0) (.int .i64 0) := (R3.new _ _ _ _ _).drew.below hb6) | skip); clear hb6 K vx0 vx1 vx2 vx3; have K := K'; clear K'; have hW6 : W.heap.size < w6.heap.size := cell_lt K.out.v.vx0; have h76 : q7 < w6.heap.size := K.out.e.lt; have vx0 := K.out.v.vx0; have vx1 := K.out.v.vx1; have vx2 := K.out.v.vx2; have vx3 := K.out.v.vx3; (try (have g0 := B.r0; have g1 := B.r1; have g2 := B.r2; have h0 := B.f0; have h1 := B.f1; have h2 := B.f2))))
    all_goals
      go_wp2_with fail
      go_meet
      first
        | exact ⟨_, rfl, ⟨R3.new _ _ _ _ _, K.out.below ((Below.refl _ _).alloc (Nat.le_refl _) _)⟩⟩
        | exact ⟨_, rfl, ⟨B.set _ _ _, K.out.set3 (by assumption) (by assumption) _ _ _⟩⟩
  case rest =>
    obtain ⟨q, rfl, HX⟩ := hcut
    clear KQ HRf HRr HRv
    go_wp2_with (go_at_call 9; refine (AW.out.go _).mono ?_; rintro e w7 ⟨rfl, hb7⟩; have K7 : Hid (R3 w7 q (.int .u64 (Y.1.1 : Int)) (.int .u64 (Y.1.2 : Int)) (.int .i64 Y.2) ∧ Vw W w7 c a ra rn cap rm rcap q7 Y.1) := ⟨HX.out.1.below hb7, HX.out.2.below hb7⟩; clear hb7 HX; have r0 := K7.out.1.r0; have r1 := K7.out.1.r1; have r2 := K7.out.1.r2; have e1 := K7.out.2.e.hi; have e0 := K7.out.2.e.lo)
    go_ret
    exact ⟨rfl, K7.out.2.v.d⟩
end Go.Proofs.Ytfhojakhoobnhaa
