/- steeplelaw17.awake and the walk of LinePlaces over the seat's translation. -/
import Derived.Test.YtfhojakhoobnhaaPLnE
import Derived.Test.YtfhojakhoobnhaaPPeel
namespace Go.Proofs.Ytfhojakhoobnhaa
open Go.RowKit
open Cb Ln
open Tw (pm)

theorem pm32 : pm (0, 3) (0, 2) = (0, 1) := by decide +kernel
theorem iv_one : Ln.iv (0, 1) = (0, 1) := by
  obtain ⟨h1, h2⟩ := Tw.iv_bit (al := 1) (by decide)
  simp only [Ln.iv, h1, h2]
theorem atv_awake : atv [(0, 1), (0, 3)] (0, 2) = (0, 2) := by
  have l3 : lt2 (0, 3) := ⟨by decide, by decide⟩
  have l2 : lt2 (0, 2) := ⟨by decide, by decide⟩
  have o0 : ov 0 (0, 2) 2 = (0, 3) := by
    show pm (0, 1) (xa (0, 2) (pl 1)) = _
    rw [show xa (0, 2) (pl 1) = (0, 3) by decide, one_pm l3]
  have u0 : un 0 2 = (0, 1) := by
    show pm (0, 1) (xa (pl 0) (pl 1)) = _
    rw [show xa (pl 0) (pl 1) = (0, 1) by decide, one_pm lt_one]
  have o1 : ov 1 (0, 2) 2 = (0, 2) := by
    show pm (0, 1) (xa (0, 2) (pl 0)) = _
    rw [show xa (0, 2) (pl 0) = (0, 2) by decide, one_pm l2]
  have u1 : un 1 2 = (0, 1) := by
    show pm (0, 1) (xa (pl 1) (pl 0)) = _
    rw [show xa (pl 1) (pl 0) = (0, 1) by decide, one_pm lt_one]
  have f0 : fcv 2 0 (0, 2) = (0, 3) := by rw [fcv, o0, u0, iv_one, pm_one l3]
  have f1 : fcv 2 1 (0, 2) = (0, 2) := by rw [fcv, o1, u1, iv_one, pm_one l2]
  show dots [(0, 1), (0, 3)] (fcs 2 (0, 2)) 2 = _
  rw [show fcs 2 (0, 2) = [(0, 3), (0, 2)] by show [fcv 2 0 (0, 2), fcv 2 1 (0, 2)] = _; rw [f0, f1]]
  have e0 : dots [(0, 1), (0, 3)] [(0, 3), (0, 2)] 0 = (0, 0) := rfl
  have e1 : ([(0, 1), (0, 3)] : List (Nat × Nat)).getD 0 (0, 0) = (0, 1) := rfl
  have e2 : ([(0, 1), (0, 3)] : List (Nat × Nat)).getD 1 (0, 0) = (0, 3) := rfl
  have e3 : ([(0, 3), (0, 2)] : List (Nat × Nat)).getD 0 (0, 0) = (0, 3) := rfl
  have e4 : ([(0, 3), (0, 2)] : List (Nat × Nat)).getD 1 (0, 0) = (0, 2) := rfl
  rw [dots_succ, dots_succ, e0, e1, e2, e3, e4, pm32, one_pm l3]
  decide
theorem erow_two {w : World} {b : Nat} {x y : Nat × Nat} (h1 : w.cell? ⟨b, 0, none⟩ = some (.int .u64 (x.1 : Int))) (h2 : w.cell? ⟨b, 1, none⟩ = some (.int .u64 (x.2 : Int))) (h3 : w.cell? ⟨b, 2, none⟩ = some (.int .u64 (y.1 : Int))) (h4 : w.cell? ⟨b, 3, none⟩ = some (.int .u64 (y.2 : Int))) : ERow w (some ⟨b, 0, none⟩) [x, y] := ⟨fun i hi => by
  have hb := cell_lt h1
  simp at hi
  obtain rfl | rfl : i = 0 ∨ i = 1 := by omega
  · exact ⟨b, 0, rfl, hb, h1, h2⟩
  · exact ⟨b, 0, rfl, hb, h3, h4⟩⟩
/-- The value in its box, and what lay there. -/
structure Lp (W w : World) (q : Nat) (y : Nat × Nat) (b o : Nat) (z : Nat × Nat) : Prop where
  y : El w q y.1 y.2
  z1 : w.cell? ⟨b, o, none⟩ = some (.int .u64 (z.1 : Int))
  z0 : w.cell? ⟨b, o + 1, none⟩ = some (.int .u64 (z.2 : Int))
  d : Below W.heap.size W w
theorem Lp.below {W w w' : World} {q : Nat} {y : Nat × Nat} {b o : Nat} {z : Nat × Nat} (h : Lp W w q y b o z) (hb : Below w.heap.size w w') : Lp W w' q y b o z := ⟨h.y.below hb, keepc hb h.z1, keepc hb h.z0, h.d.trans (hb.mono h.d.size)⟩
theorem Lp.drew {W w : World} {q : Nat} {y : Nat × Nat} {b o : Nat} {z : Nat × Nat} (h : Lp W w q y b o z) : Lp W w.drew q y b o z := h.below (Below.refl _ _).drew
theorem Lp.facts {W w : World} {q : Nat} {y : Nat × Nat} {b o : Nat} {z : Nat × Nat} (h : Lp W w q y b o z) : w.cell? ⟨q, 0, none⟩ = some (.int .u64 (y.1 : Int)) ∧ w.cell? ⟨q, 1, none⟩ = some (.int .u64 (y.2 : Int)) ∧ w.cell? ⟨b, o, none⟩ = some (.int .u64 (z.1 : Int)) ∧ w.cell? ⟨b, o + 1, none⟩ = some (.int .u64 (z.2 : Int)) := ⟨h.y.hi, h.y.lo, h.z1, h.z0⟩
theorem place_mod (i : Int) (n : Nat) (hn : 0 < n) (h9 : n ≤ 9) : ∃ j : Nat, j < n ∧ (i.tmod n + n).tmod n = (j : Int) ∧ IntKind.i64.wrap (i.tmod n + n) = i.tmod n + n := by
  have h1 : i.tmod n < n := Int.tmod_lt_of_pos i (by omega)
  have h2 : -(n : Int) < i.tmod n := by
    rcases Int.lt_or_le i 0 with h | h
    · have e : i.tmod n = -((-i).tmod n) := by rw [Int.neg_tmod, Int.neg_neg]
      have := Int.tmod_lt_of_pos (-i) (show (0 : Int) < n by omega)
      omega
    · have := Int.tmod_nonneg (n : Int) h
      omega
  refine ⟨((i.tmod n + n).tmod n).toNat, ?_, ?_, ?_⟩
  · have h3 : (i.tmod n + n).tmod n < n := Int.tmod_lt_of_pos _ (by omega)
    have h4 : 0 ≤ (i.tmod n + n).tmod n := Int.tmod_nonneg _ (by omega)
    omega
  · have h4 : 0 ≤ (i.tmod n + n).tmod n := Int.tmod_nonneg _ (by omega)
    omega
  · rw [IntKind.wrap_i64]; omega
end Go.Proofs.Ytfhojakhoobnhaa

/- The contract of line.Ends over the seat's translation, and the errors of line.At beside those of steeplelaw17.may. -/
namespace Go.Proofs.Ytfhojakhoobnhaa
open Go.RowKit
open Cb Ln
open Tw (pm)

theorem erow_take {w : World} {a : Option Addr} {es : List (Nat × Nat)} (h : ERow w a es) (m : Nat) : ERow w a (es.take m) := ⟨fun i hi => by
  have hl : i < es.length := by rw [List.length_take] at hi; omega
  have hm : i < m := by rw [List.length_take] at hi; omega
  obtain ⟨b, off, e, h1, h2, h3⟩ := h.cells i hl
  have : (es.take m).getD i (0, 0) = es.getD i (0, 0) := by simp [List.getD, hm]
  exact ⟨b, off, e, h1, by rw [this]; exact h2, by rw [this]; exact h3⟩⟩
theorem ltE_take {es : List (Nat × Nat)} (h : ltE es) (m : Nat) : ltE (es.take m) := fun e he => h e (List.mem_of_mem_take he)
/-- The first two values added. -/
def ends (t : List (Nat × Nat)) : Nat × Nat := xsum (t.take 2)
set_option maxHeartbeats 2000000 in
set_option maxRecDepth 100000 in
theorem lends (a : Option Addr) (cap : Nat) (t : List (Nat × Nat)) (ht : ltE t) (h1 : t.length ≤ 1000) (W : World) (ha : ERow W a t) (hcap : t.length ≤ cap) :
    Calls Try.prog 38 #[.slice a t.length cap] W fun e w' => e = .returned (.agg #[.int .u64 ((ends t).1 : Int), .int .u64 ((ends t).2 : Int)]) ∧ Below W.heap.size W w' := by
  obtain ⟨m, hm⟩ : ∃ m, m = (t.take 2).length := ⟨_, rfl⟩
  have hm2 : m = min 2 t.length := by rw [hm, List.length_take]
  have HS : Hid (∀ w, Below W.heap.size W w → Calls Try.prog 72 #[.slice a m cap] w fun e w' => e = .returned (.agg #[.int .u64 ((ends t).1 : Nat), .int .u64 ((ends t).2 : Nat)]) ∧ Below w.heap.size w w') := fun w hb => by
    rw [hm]; exact sum_row a cap (t.take 2) (ltE_take ht 2) (by rw [← hm]; omega) w (erow_take (ha.below hb) 2)
  have e1 : min (2 : Int) (t.length : Int) = (m : Int) := by omega
  have e2 : (m : Int) ≤ (t.length : Int) := by omega
  have e3 : (0 : Int) ≤ (m : Int) := by omega
  have e4 : (m : Int) ≤ (cap : Int) := by omega
  have D0 : Hid (Ew (W.alloc (Obj.cells #[.int .u64 0, .int .u64 0] 24)) W.heap.size 0 0 ∧ Below W.heap.size W (W.alloc (Obj.cells #[.int .u64 0, .int .u64 0] 24))) := ⟨⟨⟨by simp [go_sem], by simp [go_sem]⟩, by simp [go_sem], by simp [go_sem]⟩, by go_grown⟩
  clear ha ht hm hm2
  generalize ends t = z at *
  go_enter Try.func38, Try.ntmps38
  go_wp2_with (go_at_call 72; refine (HS.out _ D0.out.2).mono ?_; rintro e w1 ⟨rfl, hb1⟩; have D1 : Hid (Ew w1 W.heap.size 0 0 ∧ Below W.heap.size W w1) := ⟨D0.out.1.below hb1, D0.out.2.trans (hb1.mono D0.out.2.size)⟩; clear hb1; obtain ⟨⟨r1, r0⟩, t1, t0⟩ := D1.out.1)
  refine bodyPost_ret (v := .agg #[.int .u64 (z.1 : Int), .int .u64 (z.2 : Int)]) (by simp [results, Try.results38, go_sem, *]) rfl ⟨rfl, ?_⟩
  exact below2 (p := W.heap.size) D1.out.2 (Nat.le_refl _) _ _
/-- The error of At is that of the values, or that of the element. -/
theorem lhnd_lmy (l : Int) (t : List (Nat × Nat)) (x : Nat × Nat) : lhnd l ((t.length : Int) - 1) t [x] = if lmy l t = 0 then (if ofB l (x.1 : Int) (x.2 : Int) = true then 0 else 5) else lmy l t := by
  have hx : ([x].all fun e => ofB l (e.1 : Int) (e.2 : Int)) = ofB l (x.1 : Int) (x.2 : Int) := by simp
  have hn : (([] : List (Nat × Nat)).all fun e => ofB l (e.1 : Int) (e.2 : Int)) = true := rfl
  unfold lmy lhnd
  rw [hx, hn]
  generalize (t.all fun e => ofB l (e.1 : Int) (e.2 : Int)) = X
  generalize ofB l (x.1 : Int) (x.2 : Int) = Y
  by_cases h1 : 0 ≤ l ∧ l ≤ 7
  · rw [if_pos h1, if_pos h1]
    by_cases h2 : fitB l ((t.length : Int) - 1) = true ∧ t.length ≠ 0 ∧ (t.length : Int) ≤ (t.length : Int) - 1 + 1
    · rw [if_pos h2, if_pos h2]
      cases X <;> cases Y <;> rfl
    · rw [if_neg h2, if_neg h2]; rfl
  · rw [if_neg h1, if_neg h1]; rfl
end Go.Proofs.Ytfhojakhoobnhaa

/- Contracts of sumcheck.hindrance and Verify over the seat's translation. -/
namespace Go.Proofs.Ytfhojakhoobnhaa
open Go.RowKit
open Cb Ln Sc
open Tw (pm)

/-- An element in a box of its own. -/
structure Bo (W w : World) (c : Nat × Nat) : Prop where
  x : Ew w W.heap.size c.1 c.2
  d : Below W.heap.size W w
theorem Bo.below {W w w' : World} {c : Nat × Nat} (h : Bo W w c) (hb : Below w.heap.size w w') : Bo W w' c := ⟨h.x.below hb, h.d.trans (hb.mono h.d.size)⟩
theorem Bo.start (W : World) (c : Nat × Nat) (T : TypeId) : Bo W (W.alloc (Obj.cells #[.int .u64 (c.1 : Int), .int .u64 (c.2 : Int)] T)) c := ⟨⟨⟨by simp [go_sem], by simp [go_sem]⟩, by simp [go_sem], by simp [go_sem]⟩, by go_grown⟩
theorem Hid.mkS {p : Prop} (h : p) : Hid p := h
/-- Are all elements of all lists of a level? -/
def allG (lv : Int) (ts : List (List (Nat × Nat))) : Bool := ts.all fun t => t.all fun e => ofB lv (e.1 : Int) (e.2 : Int)
def vhn (lv d : Int) (c : Nat × Nat) (rs : List (List (Nat × Nat))) (r : List (Nat × Nat)) : Int :=
  if d < 1 ∨ fitB lv d = false then 1
  else if ¬ rs.length = r.length ∨ (rs.all fun t => decide (t.length = (d + 1).toNat)) = false then 6
  else if ofB lv (c.1 : Int) (c.2 : Int) = false ∨ (r.all fun e => ofB lv (e.1 : Int) (e.2 : Int)) = false then 5
  else if allG lv rs = true then 0 else 5
set_option maxHeartbeats 4000000 in
set_option maxRecDepth 100000 in
theorem shind (lv d : Int) (c : Nat × Nat) (hc : lt2 c) (a ra : Option Addr) (cap rcap : Nat) (rs : List (List (Nat × Nat))) (r : List (Nat × Nat)) (h1 : rs.length ≤ 1000) (h2 : r.length ≤ 1000) (hlen : ∀ t ∈ rs, t.length ≤ 1000) (hrs : ltT rs) (hr : ltE r) (W : World) (hT : TRow W a rs) (hE : ERow W ra r) :
    Calls Try.prog 37 #[.int .i64 lv, .int .i64 d, .agg #[.int .u64 (c.1 : Int), .int .u64 (c.2 : Int)], .slice a rs.length cap, .slice ra r.length rcap] W fun e w' => e = .returned (.int .i64 (vhn lv d c rs r)) ∧ Below W.heap.size W w' := by
  have HF := Hid.mkS (lfits lv d)
  have HO := Hid.mkS (of_ret lv c.1 c.2 hc.2)
  have HA : Hid (∀ w, Below W.heap.size W w → Calls Try.prog 45 #[.int .i64 lv, .slice ra r.length rcap] w fun e w' => e = .returned (.bool (r.all fun e => ofB lv (e.1 : Int) (e.2 : Int))) ∧ Below w.heap.size w w') := fun w hb => sall lv ra rcap r hr w (hE.below hb) (by omega)
  obtain ⟨y, hy⟩ : ∃ y, y = vhn lv d c rs r := ⟨_, rfl⟩
  rw [← hy]
  unfold vhn at hy
  by_cases hd1 : d < 1
  · rw [if_pos (Or.inl hd1)] at hy
    subst hy
    clear HF HO HA
    go_enter Try.func37, Try.ntmps37
    go_wp2
    go_ret
    exact ⟨rfl, by go_grown⟩
  have K0 := Hid.mkS (Bo.start W c 24)
  rcases hf : fitB lv d with _ | _
  · rw [if_pos (Or.inr hf)] at hy
    rw [hf] at HF
    subst hy
    clear HO HA hf
    go_enter Try.func37, Try.ntmps37
    go_wp2_with (go_at_call 57; refine (HF.out.go _).mono ?_; rintro e w1 ⟨rfl, hb1⟩; have K1 := Hid.mkS (K0.out.below hb1); clear hb1)
    go_ret
    exact ⟨rfl, K1.out.d⟩
  have hd8 : d ≤ 8 := by
    unfold fitB at hf
    rw [Bool.and_eq_true] at hf
    exact (of_decide_eq_true hf.1).2
  obtain ⟨n, hn⟩ : ∃ n : Nat, n = (d + 1).toNat := ⟨_, rfl⟩
  have hdn : IntKind.i64.wrap (d + 1) = (n : Int) := by rw [IntKind.wrap_i64]; omega
  have hdn2 : d + 1 = (n : Int) := by omega
  rw [← hn, if_neg (by rintro (h | h); exact hd1 h; rw [hf] at h; cases h)] at hy
  rw [hf] at HF
  clear hf hn
  by_cases hl : rs.length = r.length
  case neg =>
    rw [if_pos (Or.inl hl)] at hy
    subst hy
    have hl' : ¬ (rs.length : Int) = (r.length : Int) := by omega
    clear HO HA hdn2
    go_enter Try.func37, Try.ntmps37
    go_wp2_with (go_at_call 57; refine (HF.out.go _).mono ?_; rintro e w1 ⟨rfl, hb1⟩; have K1 := Hid.mkS (K0.out.below hb1); clear hb1)
    go_ret
    exact ⟨rfl, K1.out.d⟩
  have hl' : (rs.length : Int) = (r.length : Int) := by omega
  have HL : Hid (∀ w, Below W.heap.size W w → Calls Try.prog 71 #[.slice a rs.length cap, .int .i64 (n : Int)] w fun e w' => e = .returned (.bool (rs.all fun t => decide (t.length = n))) ∧ Below w.heap.size w w') := fun w hb => slong a cap n rs (by omega) w (hT.below hb)
  have HTT := Hid.mkS hT
  have HB : Hid (ltT rs ∧ (∀ t ∈ rs, t.length ≤ 1000) ∧ rs.length = r.length) := ⟨hrs, hlen, hl⟩
  have hl2 : ((rs.length : Int) != (r.length : Int)) = false := by simp [hl]
  clear hl hl' hT hE hr hrs hlen hc
  rcases hB : (rs.all fun t => decide (t.length = n)) with _ | _
  · rw [hB] at HL
    rw [if_pos (Or.inr hB)] at hy
    subst hy
    clear HO HA hB hdn2
    go_enter Try.func37, Try.ntmps37
    go_wp2_with (first | (go_at_call 57; refine (HF.out.go _).mono ?_; rintro e w1 ⟨rfl, hb1⟩; have K1 := Hid.mkS (K0.out.below hb1); clear hb1) | (go_at_call 71; refine (HL.out _ K1.out.d).mono ?_; rintro e w2 ⟨rfl, hb2⟩; have K2 := Hid.mkS (K1.out.below hb2); clear hb2))
    go_ret
    exact ⟨rfl, K2.out.d⟩
  rw [if_neg (by rintro (h | h); exact h HB.out.2.2; rw [hB] at h; cases h)] at hy
  rw [hB] at HL
  clear hB
  rcases hC : ofB lv (c.1 : Int) (c.2 : Int) with _ | _
  · rw [if_pos (Or.inl hC)] at hy
    rw [hC] at HO
    subst hy
    clear HA hC hdn2
    go_enter Try.func37, Try.ntmps37
    go_wp2_with (first | (go_at_call 57; refine (HF.out.go _).mono ?_; rintro e w1 ⟨rfl, hb1⟩; have K1 := Hid.mkS (K0.out.below hb1); clear hb1) | (go_at_call 71; refine (HL.out _ K1.out.d).mono ?_; rintro e w2 ⟨rfl, hb2⟩; have K2 := Hid.mkS (K1.out.below hb2); clear hb2; obtain ⟨⟨x1, x0⟩, _, _⟩ := K2.out.x) | (go_at_call 64; refine (HO.out.go _).mono ?_; rintro e w3 ⟨rfl, hb3⟩; have K3 := Hid.mkS (K2.out.below hb3); clear hb3))
    go_ret
    exact ⟨rfl, K3.out.d⟩
  rw [hC] at HO
  rcases hR : (r.all fun e => ofB lv (e.1 : Int) (e.2 : Int)) with _ | _
  · rw [if_pos (Or.inr hR)] at hy
    rw [hR] at HA
    subst hy
    clear hR hC hdn2
    go_enter Try.func37, Try.ntmps37
    go_wp2_with (first | (go_at_call 57; refine (HF.out.go _).mono ?_; rintro e w1 ⟨rfl, hb1⟩; have K1 := Hid.mkS (K0.out.below hb1); clear hb1) | (go_at_call 71; refine (HL.out _ K1.out.d).mono ?_; rintro e w2 ⟨rfl, hb2⟩; have K2 := Hid.mkS (K1.out.below hb2); clear hb2; obtain ⟨⟨x1, x0⟩, _, _⟩ := K2.out.x) | (go_at_call 64; refine (HO.out.go _).mono ?_; rintro e w3 ⟨rfl, hb3⟩; have K3 := Hid.mkS (K2.out.below hb3); clear hb3) | (go_at_call 45; refine (HA.out _ K3.out.d).mono ?_; rintro e w4 ⟨rfl, hb4⟩; have K4 := Hid.mkS (K3.out.below hb4); clear hb4))
    go_ret
    exact ⟨rfl, K4.out.d⟩
  rw [if_neg (by rintro (h | h); rw [hC] at h; cases h; rw [hR] at h; cases h)] at hy
  rw [hR] at HA
  have HY := Hid.mkS hy
  clear hy hR hC hdn2
  go_enter Try.func37, Try.ntmps37
  go_wp2_with (first | (go_at_call 57; refine (HF.out.go _).mono ?_; rintro e w1 ⟨rfl, hb1⟩; have K1 := Hid.mkS (K0.out.below hb1); clear hb1) | (go_at_call 71; refine (HL.out _ K1.out.d).mono ?_; rintro e w2 ⟨rfl, hb2⟩; have K2 := Hid.mkS (K1.out.below hb2); clear hb2; obtain ⟨⟨x1, x0⟩, _, _⟩ := K2.out.x) | (go_at_call 64; refine (HO.out.go _).mono ?_; rintro e w3 ⟨rfl, hb3⟩; have K3 := Hid.mkS (K2.out.below hb3); clear hb3) | (go_at_call 45; refine (HA.out _ K3.out.d).mono ?_; rintro e w4 ⟨rfl, hb4⟩; have K4 := Hid.mkS (K3.out.below hb4); clear hb4))
  go_loopw [48] (fun u wr => ∃ j : Nat, j ≤ rs.length ∧ u = .int .i64 j ∧ Hid (allG lv (rs.take j) = true) ∧ Hid (Below W.heap.size W wr)) (fun u _ => rs.length - (intOf u).toNat)
  case atStart => exact ⟨0, Nat.zero_le _, rfl, (by rfl), K4.out.d⟩
  case round =>
    obtain ⟨j, hj, rfl, HT, HD⟩ := hrel
    clear K4 K3 K2 K1
    by_cases hlt : j < rs.length
    · obtain ⟨b, off, ta, tc, rfl, hb, cb, hEr⟩ := HTT.out.cells j hlt
      have db := keepc HD.out cb
      have HS : Hid (rs.take (j + 1) = rs.take j ++ [tb rs j]) := take_ts rs j hlt
      have HM : Hid (tb rs j ∈ rs) := tb_mem hlt
      have HQ : Hid (∀ w, Below W.heap.size W w → Calls Try.prog 45 #[.int .i64 lv, .slice ta (tb rs j).length tc] w fun e w' => e = .returned (.bool ((tb rs j).all fun e => ofB lv (e.1 : Int) (e.2 : Int))) ∧ Below w.heap.size w w') := fun w hb' => sall lv ta tc (tb rs j) (HB.out.1 _ HM.out) w (hEr.below hb') (by have := HB.out.2.1 _ HM.out; omega)
      clear cb hEr HA
      rcases hB : ((tb rs j).all fun e => ofB lv (e.1 : Int) (e.2 : Int)) with _ | _
      · rw [hB] at HQ
        have HBf := Hid.mkS hB
        clear hB
        generalize (tb rs j).length = len at *
        go_wp2_with (go_at_call 45; refine (HQ.out _ HD.out).mono ?_; rintro e w5 ⟨rfl, hb5⟩)
        go_ret
        refine ⟨?_, HD.out.trans (hb5.mono HD.out.size)⟩
        rw [HY.out, if_neg (by
          intro h
          have := List.all_eq_true.1 h _ HM.out
          rw [HBf.out] at this; cases this)]
        rfl
      · rw [hB] at HQ
        have HBf := Hid.mkS hB
        clear hB
        generalize (tb rs j).length = len at *
        go_wp2_with (go_at_call 45; refine (HQ.out _ HD.out).mono ?_; rintro e w5 ⟨rfl, hb5⟩)
        exact ⟨⟨j + 1, hlt, by simp, (by show _ = _; rw [HS.out]; unfold allG at HT ⊢; rw [List.all_append, HT.out]; simp only [List.all_cons, List.all_nil, Bool.and_true, Bool.true_and]; exact HBf.out), HD.out.trans (hb5.mono HD.out.size)⟩, by simp [intOf]; omega⟩
    · obtain rfl : j = rs.length := by omega
      have hall := HT.out
      rw [List.take_of_length_le (Nat.le_refl _)] at hall
      have HYY : Hid (y = 0) := by show _ = _; rw [HY.out, if_pos hall]
      clear hall
      go_wp2
      go_ret
      exact ⟨by rw [HYY.out]; rfl, HD.out⟩
end Go.Proofs.Ytfhojakhoobnhaa
