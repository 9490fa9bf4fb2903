/- Contracts of frob.over, power, Power and Root over the seat's translation. -/
import Derived.Test.YtjdfbjdbfncofaaPFrL
namespace Go.Proofs.Ytjdfbjdbfncofaa
open Go.RowKit
open Cb
open Tw (pm sqp)

theorem hidF {a : Prop} (h : a) : Hid a := h
/-- Is it of the level, and the other one a level below? -/
def ovB (l t : Int) (a : Nat × Nat) : Bool := ofB l (a.1 : Int) (a.2 : Int) && (decide (0 ≤ t) && decide (t ≤ l))
set_option maxHeartbeats 2000000 in
theorem over_any (l t : Int) (a : Nat × Nat) (la : lt2 a) : Ret 37 #[.int .i64 l, .int .i64 t, .agg #[.int .u64 (a.1 : Int), .int .u64 (a.2 : Int)]] (.bool (ovB l t a)) := by
  have HO := hidF (of_ret l a.1 a.2 la.2)
  unfold ovB
  clear la
  generalize ofB l (a.1 : Int) (a.2 : Int) = o at *
  obtain ⟨r, hr⟩ : ∃ r, r = (o && (decide (0 ≤ t) && decide (t ≤ l))) := ⟨_, rfl⟩
  have HR := hidF hr
  rw [← hr]
  clear hr
  intro W
  have go : ∀ c1 c2 : Bool, (c1 = true ↔ 0 ≤ t) → (c2 = true ↔ t ≤ l) → Calls Try.prog 37 #[.int .i64 l, .int .i64 t, .agg #[.int .u64 (a.1 : Int), .int .u64 (a.2 : Int)]] W fun e w' => e = .returned (.bool (o && (c1 && c2))) ∧ Below W.heap.size W w' := by
    clear HR
    intro c1 c2 h1 h2
    cases o <;> cases c1 <;> cases c2
    all_goals (simp only [Bool.false_eq_true, false_iff, true_iff, Int.not_le] at h1 h2)
    all_goals (go_enter Try.func37, Try.ntmps37)
    all_goals (go_wp2_with (go_at_call 20; refine (HO.out.go _).mono ?_; rintro e w1 ⟨rfl, hb1⟩))
    all_goals (try omega)
    all_goals (go_ret; exact ⟨by first | rfl | (simp; omega), ((Below.refl _ _).alloc (Nat.le_refl _) _).trans (hb1.mono (by simp))⟩)
  rw [HR.out]
  exact go _ _ (by simp) (by simp)

/-- Squared n times. -/
def sqv (a : Nat × Nat) (n : Nat) : Nat × Nat := sqp a.1 a.2 n
theorem sqv_succ (a : Nat × Nat) (n : Nat) : sqv a (n + 1) = pm (sqv a n) (sqv a n) := rfl
theorem lt_sqv {a : Nat × Nat} (h : lt2 a) (n : Nat) : lt2 (sqv a n) := Tw.sqp_lt h.1 h.2 n
theorem of_sqv {k : Nat} (hk : k < 8) {a : Nat × Nat} (h : ofE k a) : ∀ n, ofE k (sqv a n)
  | 0 => h
  | n + 1 => of_pm hk (of_sqv hk h n) (of_sqv hk h n)
theorem d7_sqv (a : Nat × Nat) (n : Nat) : Tw.d7 (sqv a n).1 (sqv a n).2 = Tw.sqn 7 n (Tw.d7 a.1 a.2) := Tw.d7_sqp _ _ _
theorem d7_ext {a b : Nat × Nat} (ha : lt2 a) (hb : lt2 b) (h : Tw.d7 a.1 a.2 = Tw.d7 b.1 b.2) : a = b := Prod.ext (Tw.d7_inj ha.1 ha.2 hb.1 hb.2 h).1 (Tw.d7_inj ha.1 ha.2 hb.1 hb.2 h).2
theorem sqv_sqv {a : Nat × Nat} (h : lt2 a) (m n : Nat) : sqv (sqv a m) n = sqv a (m + n) :=
  d7_ext (lt_sqv (lt_sqv h m) n) (lt_sqv h _) (by rw [d7_sqv, d7_sqv, d7_sqv, Tw.sqn_sqn])
theorem sqv_back {k : Nat} (hk : k < 8) {a : Nat × Nat} (h : lt2 a) (o : ofE k a) : sqv a (2 ^ k) = a := Tw.sqp_back hk h.1 h.2 ((ofB_iff k a.1 a.2 hk).1 o)

set_option maxHeartbeats 4000000 in
set_option maxRecDepth 100000 in
theorem power_ok (k n : Nat) (hk : k < 8) (hn : n ≤ 1000) (a : Nat × Nat) (la : lt2 a) (oa : ofE k a) :
    Ret 54 #[.int .i64 (k : Int), .agg #[.int .u64 (a.1 : Int), .int .u64 (a.2 : Int)], .int .i64 (n : Int)] (.agg #[.int .u64 ((sqv a n).1 : Int), .int .u64 ((sqv a n).2 : Int)]) := by
  intro W
  have SQ : Hid (∀ j, Ret 68 #[.int .i64 (k : Int), .agg #[.int .u64 ((sqv a j).1 : Int), .int .u64 ((sqv a j).2 : Int)]] (.agg #[.int .u64 ((sqv a (j + 1)).1 : Int), .int .u64 ((sqv a (j + 1)).2 : Int)])) := fun j => by
    have := square_ret (k : Int) (sqv a j) (lt_sqv la j).1 (lt_sqv la j).2
    rw [mulv_of (of_sqv hk oa j) (of_sqv hk oa j)] at this
    exact this
  have hq0 : sqv a 0 = a := rfl
  clear la oa hk
  generalize sqv a = q at *
  go_enter Try.func54, Try.ntmps54
  go_wp2_with fail
  have E0 : Ew ((W.alloc (Obj.cells #[.int .u64 (a.1 : Int), .int .u64 (a.2 : Int)] 24)).alloc (Obj.cells #[.int .u64 0, .int .u64 0] 24)) W.heap.size (q 0).1 (q 0).2 := by rw [hq0]; exact ⟨⟨by simp [go_sem], by simp [go_sem]⟩, by simp [go_sem], by simp [go_sem]⟩
  have E1 : Ew ((W.alloc (Obj.cells #[.int .u64 (a.1 : Int), .int .u64 (a.2 : Int)] 24)).alloc (Obj.cells #[.int .u64 0, .int .u64 0] 24)) (W.heap.size + 1) 0 0 := ⟨⟨by simp [go_sem], by simp [go_sem]⟩, by simp [go_sem], by simp [go_sem]⟩
  have E2 : Below W.heap.size W ((W.alloc (Obj.cells #[.int .u64 (a.1 : Int), .int .u64 (a.2 : Int)] 24)).alloc (Obj.cells #[.int .u64 0, .int .u64 0] 24)) := ((Below.refl _ _).alloc (Nat.le_refl _) _).alloc (by simp) _
  clear hq0
  generalize ((W.alloc (Obj.cells #[.int .u64 (a.1 : Int), .int .u64 (a.2 : Int)] 24)).alloc (Obj.cells #[.int .u64 0, .int .u64 0] 24)) = w0 at *
  go_loopw [8] (fun u wr => ∃ j : Nat, j ≤ n ∧ u = .int .i64 j ∧ Ew wr W.heap.size (q j).1 (q j).2 ∧ Ew wr (W.heap.size + 1) 0 0 ∧ Below W.heap.size W wr) (fun u _ => n - (intOf u).toNat)
  case atStart => exact ⟨0, Nat.zero_le _, rfl, E0, E1, E2⟩
  case round =>
    obtain ⟨j, hj, rfl, hs, hx, hbw⟩ := hrel
    have HS := hidF hs
    have HX := hidF hx
    have HB := hidF hbw
    have s1 := hs.hi
    have s0 := hs.lo
    clear hs hx hbw E0 E1 E2
    by_cases hjl : j < n
    · go_wp2_with (go_at_call 68; refine ((SQ.out j).go _).mono ?_; rintro e w2 ⟨rfl, hb2⟩; have HS2 := hidF (HS.out.below hb2); have HX2 := hidF (HX.out.below hb2); have HB2 := hidF (HB.out.trans (hb2.mono HB.out.size)); have g1 := HS2.out.hi; have g0 := HS2.out.lo; have t1 := HS2.out.fhi; have t0 := HS2.out.flo; clear hb2 HS HX HB s1 s0)
      go_roundw
      case rel => exact ⟨j + 1, hjl, by go_num, HS2.out.set _ _, ⟨⟨by have := HX2.out.hi; simp [go_sem, *], by have := HX2.out.lo; simp [go_sem, *]⟩, by have := HX2.out.fhi; simp [go_sem, *], by have := HX2.out.flo; simp [go_sem, *]⟩, (HB2.out.setCell (Nat.le_refl _) _).setCell (Nat.le_refl _) _⟩
      case measure => simp [intOf]; omega
    · obtain rfl : j = n := by omega
      obtain ⟨⟨x1, x0⟩, f1, f0⟩ := HX.out
      have HB' := hidF HB.out
      clear HS HX HB
      go_wp2
      refine bodyPost_ret (v := .agg #[.int .u64 ((q j).1 : Int), .int .u64 ((q j).2 : Int)]) (by simp [results, Try.results54, go_sem, *]) rfl ⟨rfl, ?_⟩
      exact (HB'.out.setCell (by simp) _).setCell (by simp) _

/-- a to the power 2^n, as Power tells it. -/
def pwv (l : Int) (a : Nat × Nat) (n : Int) : Nat × Nat := if ofB l (a.1 : Int) (a.2 : Int) = true ∧ 0 ≤ n ∧ n < ((2 ^ l.toNat : Nat) : Int) then sqv a n.toNat else (0, 0)
def rtv (l : Int) (a : Nat × Nat) : Nat × Nat := if ofB l (a.1 : Int) (a.2 : Int) = true then sqv a (2 ^ l.toNat - 1) else (0, 0)
end Go.Proofs.Ytjdfbjdbfncofaa

/- The contract of frob.conjugates and of the function that it gives, over the seat's translation. -/
namespace Go.Proofs.Ytjdfbjdbfncofaa
open Go.RowKit Go.Shelf
open Cb
open Tw (pm)

attribute [local go_sem] Oper.semAt_some

theorem wrap64F (x : Int) : wrap64 x = IntKind.i64.wrap x := by
  first | rfl | (simp [wrap64, IntKind.wrap_i64]; done) | (rw [IntKind.wrap_i64]; unfold wrap64; omega)
/-- An element of a level. -/
abbrev Ek (k : Nat) := { e : Nat × Nat // lt2 e ∧ ofE k e }
/-- The conjugate number i. -/
def cj (k m : Nat) (hk : k < 8) (a : Ek k) (i : Nat) : Ek k := ⟨sqv a.1 (m * i), lt_sqv a.2.1 _, of_sqv hk a.2.2 _⟩
/-- The first so many conjugates. -/
def cjs (k m : Nat) (hk : k < 8) (a : Ek k) (n : Nat) : List (Ek k) := (List.range n).map (cj k m hk a)
theorem cjs_succ (k m : Nat) (hk : k < 8) (a : Ek k) (n : Nat) : cjs k m hk a (n + 1) = cjs k m hk a n ++ [cj k m hk a n] := by simp [cjs, List.range_succ]
def enE (x : Nat × Nat) : Value := .agg #[.int .u64 (x.1 : Int), .int .u64 (x.2 : Int)]
theorem cellB {W W' : World} {a : Addr} {v : Value} (h : Below W.heap.size W W') (hc : W.cell? a = some v) : W'.cell? a = some v := by
  obtain ⟨o, ho, _⟩ := cells_of_cell hc
  exact (World.cell?_of_block (h.block a.block (Array.getElem?_eq_some_iff.1 ho).1)).trans hc
/-- The boxes that the function has caught. -/
structure Caught (W : World) (b1 b2 b3 : Nat) (l t : Int) (a : Nat × Nat) : Prop where
  l : W.cell? ⟨b1, 0, none⟩ = some (.int .i64 l)
  t : W.cell? ⟨b2, 0, none⟩ = some (.int .i64 t)
  h : W.cell? ⟨b3, 0, none⟩ = some (.int .u64 (a.1 : Int))
  o : W.cell? ⟨b3, 1, none⟩ = some (.int .u64 (a.2 : Int))
theorem Caught.below {W W' : World} {b1 b2 b3 : Nat} {l t : Int} {a : Nat × Nat} (c : Caught W b1 b2 b3 l t a) (h : Below W.heap.size W W') : Caught W' b1 b2 b3 l t a := ⟨cellB h c.l, cellB h c.t, cellB h c.h, cellB h c.o⟩
theorem cell_ltF {w : World} {a : Addr} {v : Value} (h : w.cell? a = some v) : a.block < w.heap.size := by
  obtain ⟨o, ho, _⟩ := cells_of_cell h
  exact (Array.getElem?_eq_some_iff.1 ho).1
theorem cellK {C : Nat → Prop} {W W' : World} {a : Addr} {v : Value} (h : Kept C W W') (hC : C a.block) (hc : W.cell? a = some v) : W'.cell? a = some v :=
  (World.cell?_of_block (h.same a.block hC (cell_ltF hc))).trans hc
theorem frozenK {C : Nat → Prop} {W W' : World} {a : Addr} {v : Value} (h : Kept C W W') (hC : C a.block) (hc : W.cell? a = some v) (hf : W.frozen? a = false) : W'.frozen? a = false :=
  (World.frozen?_of_block (h.same a.block hC (cell_ltF hc))).trans hf
theorem below_drewF {A B : World} (h : Below A.drew.heap.size A.drew B) : Below A.heap.size A B := (((Below.refl A.heap.size A).drew).trans h)
def capB (b1 b2 b3 k : Nat) : Prop := k = b1 ∨ k = b2 ∨ k = b3
theorem Caught.kept {q : Nat} {W W' : World} {b1 b2 b3 : Nat} {l t : Int} {a : Nat × Nat} (c : Caught W b1 b2 b3 l t a) (h : Kept (fun k => k = q ∨ capB b1 b2 b3 k) W W') : Caught W' b1 b2 b3 l t a :=
  ⟨cellK h (Or.inr (Or.inl rfl)) c.l, cellK h (Or.inr (Or.inr (Or.inl rfl))) c.t, cellK h (Or.inr (Or.inr (Or.inr rfl))) c.h, cellK h (Or.inr (Or.inr (Or.inr rfl))) c.o⟩
theorem Caught.priv {n q : Nat} {W W' : World} {b1 b2 b3 : Nat} {l t : Int} {a : Nat × Nat} (c : Caught W b1 b2 b3 l t a) (h : Priv n q W W') (h1 : b1 < n) (h2 : b2 < n) (h3 : b3 < n) : Caught W' b1 b2 b3 l t a := by
  have hb := h.b.block
  exact ⟨(World.cell?_of_block (hb b1 h1)).trans c.l, (World.cell?_of_block (hb b2 h2)).trans c.t, (World.cell?_of_block (hb b3 h3)).trans c.h, (World.cell?_of_block (hb b3 h3)).trans c.o⟩
theorem Ew.keptF {q : Nat} {C : Nat → Prop} {W W' : World} {x y : Nat} (e : Ew W q x y) (h : Kept (fun k => k = q ∨ C k) W W') : Ew W' q x y :=
  ⟨⟨cellK h (Or.inl rfl) e.hi, cellK h (Or.inl rfl) e.lo⟩, frozenK h (Or.inl rfl) e.hi e.fhi, frozenK h (Or.inl rfl) e.lo e.flo⟩

set_option maxRecDepth 100000 in
set_option maxHeartbeats 4000000 in
theorem conj1_none (n : Nat) (hn : 1 ≤ n) (b1 b2 b3 : Nat) (k : Nat) (l t : Int) (a : Nat × Nat) (la : lt2 a) (ho : ovB l t a = false) (w : World) (hc : Caught w b1 b2 b3 l t a) :
    SeqPriv Fence.wide n Try.prog 53 #[.pointer (some ⟨b1, 0, none⟩), .pointer (some ⟨b2, 0, none⟩), .pointer (some ⟨b3, 0, none⟩)] (fun x : Ek k => #[enE x.1]) (capB b1 b2 b3) [] w := by
  intro y J W hW hJ hY h0
  have HO := hidF (over_any l t a la)
  rw [ho] at HO
  have hc' : Caught W b1 b2 b3 l t a := hc.below hW
  obtain ⟨c1, c2, c3, c4⟩ := hc'
  refine callsIn_of_wp Try.func53 rfl trivial ?_ rfl
  simp only [Try.ntmps53, List.size_toArray, List.length_cons, List.length_nil, Nat.reduceAdd, Nat.reduceSub, Array.replicate_succ, Array.replicate_zero, List.push_toArray, List.append_toArray, List.nil_append, List.cons_append]
  gi_wp2_with (refine ⟨trivial, ?_⟩; gi_at_call 37; refine (callsIn_wide.2 (HO.out.go _)).mono ?_; rintro e w1 ⟨rfl, hb1⟩)
  refine bodyPost_ret (results_none rfl _ _ _) rfl ?_
  exact ⟨⟨_, rfl⟩, W.heap.size, Nat.le_refl _, h0 _ _ (Nat.le_refl _) hb1⟩
set_option maxRecDepth 100000 in
set_option maxHeartbeats 8000000 in
theorem conj1_ok (n : Nat) (hn : 1 ≤ n) (b1 b2 b3 : Nat) (k j d M N : Nat) (hk : k < 8) (hj : j ≤ k) (hd : d = k - j) (hM : M = 2 ^ j) (hN : N = 2 ^ d) (a : Ek k) (w : World) (hc : Caught w b1 b2 b3 (k : Int) (j : Int) a.1) :
    SeqPriv Fence.wide n Try.prog 53 #[.pointer (some ⟨b1, 0, none⟩), .pointer (some ⟨b2, 0, none⟩), .pointer (some ⟨b3, 0, none⟩)] (fun x : Ek k => #[enE x.1]) (capB b1 b2 b3) (cjs k M hk a N) w := by
  intro y J W hW hJ hY h0
  have ho : ovB (k : Int) (j : Int) a.1 = true := by
    unfold ovB
    rw [show ofB (k : Int) (a.1.1 : Int) (a.1.2 : Int) = true from a.2.2]
    simp; omega
  have HO := hidF (over_any (k : Int) (j : Int) a.1 a.2.1)
  rw [ho] at HO
  have hc' : Caught W b1 b2 b3 (k : Int) (j : Int) a.1 := hc.below hW
  have HC := hidF hc'
  have hM1 : M ≤ 128 := by rw [hM]; exact Nat.le_trans (Nat.pow_le_pow_right (by decide) (show j ≤ 7 by omega)) (by decide)
  have hN1 : N ≤ 128 := by rw [hN]; exact Nat.le_trans (Nat.pow_le_pow_right (by decide) (show d ≤ 7 by omega)) (by decide)
  have HPW : Hid (∀ i, Ret 54 #[.int .i64 (k : Int), .agg #[.int .u64 ((cj k M hk a i).1.1 : Int), .int .u64 ((cj k M hk a i).1.2 : Int)], .int .i64 (M : Int)] (.agg #[.int .u64 ((cj k M hk a (i + 1)).1.1 : Int), .int .u64 ((cj k M hk a (i + 1)).1.2 : Int)])) := fun i => by
    have := power_ok k M hk (by omega) (cj k M hk a i).1 (cj k M hk a i).2.1 (cj k M hk a i).2.2
    rw [show sqv (cj k M hk a i).1 M = (cj k M hk a (i + 1)).1 by unfold cj; dsimp only; rw [sqv_sqv a.2.1, Nat.mul_succ]] at this
    exact this
  have h1 : b1 < W.heap.size := cell_ltF hc'.l
  have h2 : b2 < W.heap.size := cell_ltF hc'.t
  have h3 : b3 < W.heap.size := cell_ltF hc'.h
  have HJ := hidF hJ
  have HY := hidF hY
  have H0 := hidF h0
  have e1 : IntKind.i64.wrap ((k : Int) - (j : Int)) = (d : Int) := by rw [IntKind.wrap_i64]; omega
  have e2 : IntKind.i64.wrap ((2 : Int) ^ d) = (N : Int) := by rw [show (2 : Int) ^ d = ((2 ^ d : Nat) : Int) by simp, ← hN, IntKind.wrap_i64]; omega
  have e3 : IntKind.i64.wrap ((2 : Int) ^ j) = (M : Int) := by rw [show (2 : Int) ^ j = ((2 ^ j : Nat) : Int) by simp, ← hM, IntKind.wrap_i64]; omega
  have E2 : Hid (wrap64 ((2 : Int) ^ min d 64) = (N : Int)) := by show _ = _; rw [show min d 64 = d by omega, ← e2]; exact wrap64F _
  have E3 : Hid (IntKind.i64.wrap ((2 : Int) ^ min j 64) = (M : Int)) := by show _ = _; rw [show min j 64 = j by omega]; exact e3
  clear e2 e3
  have hd0 : ¬ (d : Int) < 0 := by omega
  have hj0 : ¬ (j : Int) < 0 := by omega
  have hmix : Try.prog.follows .mixedOrders = true := by kernel_rfl
  have q0 : (cj k M hk a 0).1 = a.1 := rfl
  have hs : ∀ i, cjs k M hk a (i + 1) = cjs k M hk a i ++ [cj k M hk a i] := cjs_succ k M hk a
  have hz : cjs k M hk a 0 = [] := rfl
  have HZ := hidF (And.intro hs hz)
  have HLN : Hid (∀ i, (cjs k M hk a i).length = i) := fun i => by simp [cjs]
  obtain ⟨c1, c2, c3, c4⟩ := hc'
  clear hc hW hJ hY h0 ho hj hd hM hN hs hz
  generalize cj k M hk a = q at *
  generalize cjs k M hk a = ys at *
  refine callsIn_of_wp Try.func53 rfl trivial ?_ rfl
  simp only [Try.ntmps53, List.size_toArray, List.length_cons, List.length_nil, Nat.reduceAdd, Nat.reduceSub, Array.replicate_succ, Array.replicate_zero, List.push_toArray, List.append_toArray, List.nil_append, List.cons_append]
  gi_wp2_with (refine ⟨trivial, ?_⟩; gi_at_call 37; refine (callsIn_wide.2 (HO.out.go _)).mono ?_; rintro e w1 ⟨rfl, hb1⟩; have HC1 := hidF (HC.out.below hb1); obtain ⟨d1, d2, d3, d4⟩ := HC1.out; clear c1 c2 c3 c4; have n1 : (w1.alloc (Obj.cells #[.int .u64 (a.1.1 : Int), .int .u64 (a.1.2 : Int)] 24)).cell? ⟨b1, 0, none⟩ = some (.int .i64 (k : Int)) := cellB ((Below.refl _ _).alloc (Nat.le_refl _) _) d1; have n2 : (w1.alloc (Obj.cells #[.int .u64 (a.1.1 : Int), .int .u64 (a.1.2 : Int)] 24)).cell? ⟨b2, 0, none⟩ = some (.int .i64 (j : Int)) := cellB ((Below.refl _ _).alloc (Nat.le_refl _) _) d2; have HB1 := hidF hb1; clear hb1)
  have K0 : Hid (J w1.heap.size (ys 0) (w1.alloc (Obj.cells #[.int .u64 (a.1.1 : Int), .int .u64 (a.1.2 : Int)] 24)) ∧ Ew (w1.alloc (Obj.cells #[.int .u64 (a.1.1 : Int), .int .u64 (a.1.2 : Int)] 24)) w1.heap.size (q 0).1.1 (q 0).1.2 ∧ Caught (w1.alloc (Obj.cells #[.int .u64 (a.1.1 : Int), .int .u64 (a.1.2 : Int)] 24)) b1 b2 b3 (k : Int) (j : Int) a.1 ∧ w1.heap.size < (w1.alloc (Obj.cells #[.int .u64 (a.1.1 : Int), .int .u64 (a.1.2 : Int)] 24)).heap.size) :=
    ⟨by rw [HZ.out.2]; exact H0.out _ _ HB1.out.size (HB1.out.alloc HB1.out.size _), by rw [q0]; exact ⟨⟨by simp [go_sem], by simp [go_sem]⟩, by simp [go_sem], by simp [go_sem]⟩, HC1.out.below ((Below.refl _ _).alloc (Nat.le_refl _) _), by simp⟩
  have hp : W.heap.size ≤ w1.heap.size := HB1.out.size
  clear HC1 HB1 HC HO d1 d2 d3 d4 q0 n1 n2
  generalize (w1.alloc (Obj.cells #[.int .u64 (a.1.1 : Int), .int .u64 (a.1.2 : Int)] 24)) = w2 at *
  generalize w1.heap.size = p at *
  rw [E2.out]
  gi_loopw [16] (fun u wr => ∃ i : Nat, i ≤ N ∧ u = .int .i64 i ∧ Hid (J p (ys i) wr ∧ Ew wr p (q i).1.1 (q i).1.2 ∧ Caught wr b1 b2 b3 (k : Int) (j : Int) a.1 ∧ p < wr.heap.size)) (fun u _ => N - (intOf u).toNat)
  case atStart => exact ⟨0, Nat.zero_le _, rfl, K0⟩
  case round =>
    obtain ⟨i, hi, rfl, HK⟩ := hrel
    clear K0
    by_cases hlt : i < N
    · obtain ⟨fn, tmps, assign, body, hy, hR⟩ := HY.out p (ys i) (q i) wr hp HK.out.2.2.2 (by rw [HLN.out, HLN.out]; exact hlt) HK.out.1
      unfold enE at hy
      have s1 := HK.out.2.1.hi
      have s0 := HK.out.2.1.lo
      gi_wp2
      refine hR.mono ?_
      rintro e W3 ⟨rfl, hJ3, hk3⟩
      have K3 : Hid (J p (ys (i + 1)) W3 ∧ Ew W3 p (q i).1.1 (q i).1.2 ∧ Caught W3 b1 b2 b3 (k : Int) (j : Int) a.1 ∧ p < W3.heap.size) := ⟨by rw [HZ.out.1]; exact hJ3, HK.out.2.1.keptF hk3, HK.out.2.2.1.kept hk3, Nat.lt_of_lt_of_le HK.out.2.2.2 hk3.size⟩
      clear hJ3 hk3 hR hy HK s1 s0
      obtain ⟨d1, d2, d3, d4⟩ := K3.out.2.2.1
      obtain ⟨⟨s1, s0⟩, f1, f0⟩ := K3.out.2.1
      have PW := hidF (HPW.out i)
      rw [← E3.out] at PW
      gi_wp2
      gi_region_with_o (refine ⟨trivial, ?_⟩; gi_at_call 54; refine (callsIn_wide.2 (PW.out.go _)).mono ?_; rintro e w5 ⟨rfl, hb5⟩; have K5 : Hid (Priv W.heap.size p W3 w5 ∧ Ew w5 p (q i).1.1 (q i).1.2 ∧ Caught w5 b1 b2 b3 (k : Int) (j : Int) a.1 ∧ p < w5.heap.size) := ⟨Priv.below (below_drewF hb5) (by have := K3.out.2.2.2; omega), K3.out.2.1.below (below_drewF hb5), K3.out.2.2.1.below (below_drewF hb5), Nat.lt_of_lt_of_le K3.out.2.2.2 (below_drewF hb5).size⟩; clear hb5 d1 d2 d3 d4 s1 s0 f1 f0; obtain ⟨⟨s1, s0⟩, f1, f0⟩ := K5.out.2.1)
      all_goals gi_wp2
      all_goals (go_roundw)
      all_goals first
        | exact ⟨i + 1, hlt, by go_num, HJ.out p _ _ _ hp K3.out.1 ((K5.out.1.trans (Priv.set _ _ _ hp)).trans (Priv.set _ _ _ hp)), K5.out.2.1.set _ _, K5.out.2.2.1.priv ((Priv.set _ _ _ hp).trans (Priv.set _ _ _ hp)) h1 h2 h3, by simpa [World.setCell] using K5.out.2.2.2⟩
        | (simp [intOf]; omega)
    · obtain rfl : i = N := by omega
      gi_wp2
      refine bodyPost_end (results_none rfl _ _ _) rfl ?_
      exact ⟨⟨_, rfl⟩, p, hp, HK.out.1⟩

set_option maxRecDepth 100000 in
set_option maxHeartbeats 2000000 in
theorem conj_in (n : Nat) (l t : Int) (a : Nat × Nat) (w : World) :
    CallsIn Fence.wide n Try.prog 33 #[.int .i64 l, .int .i64 t, enE a] w fun e w' => e = .returned (.func (.func 53) #[] #[.pointer (some ⟨w.heap.size, 0, none⟩), .pointer (some ⟨w.heap.size + 1, 0, none⟩), .pointer (some ⟨w.heap.size + 1 + 1, 0, none⟩)]) ∧ Caught w' w.heap.size (w.heap.size + 1) (w.heap.size + 1 + 1) l t a ∧ Below w.heap.size w w' ∧ w'.heap.size = w.heap.size + 1 + 1 + 1 := by
  unfold enE
  refine callsIn_of_wp Try.func33 rfl trivial ?_ rfl
  simp only [Try.ntmps33, List.size_toArray, List.length_cons, List.length_nil, Nat.reduceAdd, Nat.reduceSub, Array.replicate_succ, Array.replicate_zero, List.push_toArray, List.append_toArray, List.nil_append, List.cons_append]
  gi_wp2
  go_ret
  refine ⟨rfl, ⟨by simp [go_sem], by simp [go_sem], by simp [go_sem], by simp [go_sem]⟩, by go_grown, by simp⟩
end Go.Proofs.Ytjdfbjdbfncofaa
