/- The contract of frob.conjugates and of the function that it gives, over the seat's translation. -/
import Derived.Test.YtakaconhoodigaaFrA
namespace Go.Proofs.Ytakaconhoodigaa
open Go.RowKit Go.Shelf
open Cb
open Tw (pm)

attribute [local go_sem] Oper.semAt_some

theorem wrap64F (x : Int) : wrap64 x = IntKind.i64.wrap x := by
  first | rfl | (simp [wrap64, IntKind.wrap_i64]; done) | (rw [IntKind.wrap_i64]; unfold wrap64; omega)
/-- An element of a level. -/
abbrev Ek (k : Nat) := { e : Nat × Nat // lt2 e ∧ ofE k e }
/-- The conjugate number i. -/
def cj (k m : Nat) (hk : k < 8) (a : Ek k) (i : Nat) : Ek k := ⟨sqv a.1 (m * i), lt_sqv a.2.1 _, of_sqv hk a.2.2 _⟩
/-- The first so many conjugates. -/
def cjs (k m : Nat) (hk : k < 8) (a : Ek k) (n : Nat) : List (Ek k) := (List.range n).map (cj k m hk a)
theorem cjs_succ (k m : Nat) (hk : k < 8) (a : Ek k) (n : Nat) : cjs k m hk a (n + 1) = cjs k m hk a n ++ [cj k m hk a n] := by simp [cjs, List.range_succ]
def enE (x : Nat × Nat) : Value := .agg #[.int .u64 (x.1 : Int), .int .u64 (x.2 : Int)]
theorem cellB {W W' : World} {a : Addr} {v : Value} (h : Below W.heap.size W W') (hc : W.cell? a = some v) : W'.cell? a = some v := by
  obtain ⟨o, ho, _⟩ := cells_of_cell hc
  exact (World.cell?_of_block (h.block a.block (Array.getElem?_eq_some_iff.1 ho).1)).trans hc
/-- The boxes that the function has caught. -/
structure Caught (W : World) (b1 b2 b3 : Nat) (l t : Int) (a : Nat × Nat) : Prop where
  l : W.cell? ⟨b1, 0, none⟩ = some (.int .i64 l)
  t : W.cell? ⟨b2, 0, none⟩ = some (.int .i64 t)
  h : W.cell? ⟨b3, 0, none⟩ = some (.int .u64 (a.1 : Int))
  o : W.cell? ⟨b3, 1, none⟩ = some (.int .u64 (a.2 : Int))
theorem Caught.below {W W' : World} {b1 b2 b3 : Nat} {l t : Int} {a : Nat × Nat} (c : Caught W b1 b2 b3 l t a) (h : Below W.heap.size W W') : Caught W' b1 b2 b3 l t a := ⟨cellB h c.l, cellB h c.t, cellB h c.h, cellB h c.o⟩
theorem cell_ltF {w : World} {a : Addr} {v : Value} (h : w.cell? a = some v) : a.block < w.heap.size := by
  obtain ⟨o, ho, _⟩ := cells_of_cell h
  exact (Array.getElem?_eq_some_iff.1 ho).1
theorem cellK {C : Nat → Prop} {W W' : World} {a : Addr} {v : Value} (h : Kept C W W') (hC : C a.block) (hc : W.cell? a = some v) : W'.cell? a = some v :=
  (World.cell?_of_block (h.same a.block hC (cell_ltF hc))).trans hc
theorem frozenK {C : Nat → Prop} {W W' : World} {a : Addr} {v : Value} (h : Kept C W W') (hC : C a.block) (hc : W.cell? a = some v) (hf : W.frozen? a = false) : W'.frozen? a = false :=
  (World.frozen?_of_block (h.same a.block hC (cell_ltF hc))).trans hf
theorem below_drewF {A B : World} (h : Below A.drew.heap.size A.drew B) : Below A.heap.size A B := (((Below.refl A.heap.size A).drew).trans h)
def capB (b1 b2 b3 k : Nat) : Prop := k = b1 ∨ k = b2 ∨ k = b3
theorem Caught.kept {q : Nat} {W W' : World} {b1 b2 b3 : Nat} {l t : Int} {a : Nat × Nat} (c : Caught W b1 b2 b3 l t a) (h : Kept (fun k => k = q ∨ capB b1 b2 b3 k) W W') : Caught W' b1 b2 b3 l t a :=
  ⟨cellK h (Or.inr (Or.inl rfl)) c.l, cellK h (Or.inr (Or.inr (Or.inl rfl))) c.t, cellK h (Or.inr (Or.inr (Or.inr rfl))) c.h, cellK h (Or.inr (Or.inr (Or.inr rfl))) c.o⟩
theorem Caught.priv {n q : Nat} {W W' : World} {b1 b2 b3 : Nat} {l t : Int} {a : Nat × Nat} (c : Caught W b1 b2 b3 l t a) (h : Priv n q W W') (h1 : b1 < n) (h2 : b2 < n) (h3 : b3 < n) : Caught W' b1 b2 b3 l t a := by
  have hb := h.b.block
  exact ⟨(World.cell?_of_block (hb b1 h1)).trans c.l, (World.cell?_of_block (hb b2 h2)).trans c.t, (World.cell?_of_block (hb b3 h3)).trans c.h, (World.cell?_of_block (hb b3 h3)).trans c.o⟩
theorem Ew.keptF {q : Nat} {C : Nat → Prop} {W W' : World} {x y : Nat} (e : Ew W q x y) (h : Kept (fun k => k = q ∨ C k) W W') : Ew W' q x y :=
  ⟨⟨cellK h (Or.inl rfl) e.hi, cellK h (Or.inl rfl) e.lo⟩, frozenK h (Or.inl rfl) e.hi e.fhi, frozenK h (Or.inl rfl) e.lo e.flo⟩

set_option maxRecDepth 100000 in
set_option maxHeartbeats 4000000 in
theorem conj1_none (n : Nat) (hn : 1 ≤ n) (b1 b2 b3 : Nat) (k : Nat) (l t : Int) (a : Nat × Nat) (la : lt2 a) (ho : ovB l t a = false) (w : World) (hc : Caught w b1 b2 b3 l t a) :
    SeqPriv Fence.wide n Try.prog 50 #[.pointer (some ⟨b1, 0, none⟩), .pointer (some ⟨b2, 0, none⟩), .pointer (some ⟨b3, 0, none⟩)] (fun x : Ek k => #[enE x.1]) (capB b1 b2 b3) [] w := by
  intro y J W hW hJ hY h0
  have HO := hidF (over_any l t a la)
  rw [ho] at HO
  have hc' : Caught W b1 b2 b3 l t a := hc.below hW
  obtain ⟨c1, c2, c3, c4⟩ := hc'
  refine callsIn_of_wp Try.func50 rfl trivial ?_ rfl
  simp only [Try.ntmps50, List.size_toArray, List.length_cons, List.length_nil, Nat.reduceAdd, Nat.reduceSub, Array.replicate_succ, Array.replicate_zero, List.push_toArray, List.append_toArray, List.nil_append, List.cons_append]
  gi_wp2_with (refine ⟨trivial, ?_⟩; gi_at_call 40; refine (callsIn_wide.2 (HO.out.go _)).mono ?_; rintro e w1 ⟨rfl, hb1⟩)
  refine bodyPost_ret (results_none rfl _ _ _) rfl ?_
  exact ⟨⟨_, rfl⟩, W.heap.size, Nat.le_refl _, h0 _ _ (Nat.le_refl _) hb1⟩
set_option maxRecDepth 100000 in
set_option maxHeartbeats 8000000 in
theorem conj1_ok (n : Nat) (hn : 1 ≤ n) (b1 b2 b3 : Nat) (k j d M N : Nat) (hk : k < 8) (hj : j ≤ k) (hd : d = k - j) (hM : M = 2 ^ j) (hN : N = 2 ^ d) (a : Ek k) (w : World) (hc : Caught w b1 b2 b3 (k : Int) (j : Int) a.1) :
    SeqPriv Fence.wide n Try.prog 50 #[.pointer (some ⟨b1, 0, none⟩), .pointer (some ⟨b2, 0, none⟩), .pointer (some ⟨b3, 0, none⟩)] (fun x : Ek k => #[enE x.1]) (capB b1 b2 b3) (cjs k M hk a N) w := by
  intro y J W hW hJ hY h0
  have ho : ovB (k : Int) (j : Int) a.1 = true := by
    unfold ovB
    rw [show ofB (k : Int) (a.1.1 : Int) (a.1.2 : Int) = true from a.2.2]
    simp; omega
  have HO := hidF (over_any (k : Int) (j : Int) a.1 a.2.1)
  rw [ho] at HO
  have hc' : Caught W b1 b2 b3 (k : Int) (j : Int) a.1 := hc.below hW
  have HC := hidF hc'
  have hM1 : M ≤ 128 := by rw [hM]; exact Nat.le_trans (Nat.pow_le_pow_right (by decide) (show j ≤ 7 by omega)) (by decide)
  have hN1 : N ≤ 128 := by rw [hN]; exact Nat.le_trans (Nat.pow_le_pow_right (by decide) (show d ≤ 7 by omega)) (by decide)
  have HPW : Hid (∀ i, Ret 33 #[.int .i64 (k : Int), .agg #[.int .u64 ((cj k M hk a i).1.1 : Int), .int .u64 ((cj k M hk a i).1.2 : Int)], .int .i64 (M : Int)] (.agg #[.int .u64 ((cj k M hk a (i + 1)).1.1 : Int), .int .u64 ((cj k M hk a (i + 1)).1.2 : Int)])) := fun i => by
    have := power_ok k M hk (by omega) (cj k M hk a i).1 (cj k M hk a i).2.1 (cj k M hk a i).2.2
    rw [show sqv (cj k M hk a i).1 M = (cj k M hk a (i + 1)).1 by unfold cj; dsimp only; rw [sqv_sqv a.2.1, Nat.mul_succ]] at this
    exact this
  have h1 : b1 < W.heap.size := cell_ltF hc'.l
  have h2 : b2 < W.heap.size := cell_ltF hc'.t
  have h3 : b3 < W.heap.size := cell_ltF hc'.h
  have HJ := hidF hJ
  have HY := hidF hY
  have H0 := hidF h0
  have e1 : IntKind.i64.wrap ((k : Int) - (j : Int)) = (d : Int) := by rw [IntKind.wrap_i64]; omega
  have e2 : IntKind.i64.wrap ((2 : Int) ^ d) = (N : Int) := by rw [show (2 : Int) ^ d = ((2 ^ d : Nat) : Int) by simp, ← hN, IntKind.wrap_i64]; omega
  have e3 : IntKind.i64.wrap ((2 : Int) ^ j) = (M : Int) := by rw [show (2 : Int) ^ j = ((2 ^ j : Nat) : Int) by simp, ← hM, IntKind.wrap_i64]; omega
  have E2 : Hid (wrap64 ((2 : Int) ^ min d 64) = (N : Int)) := by show _ = _; rw [show min d 64 = d by omega, ← e2]; exact wrap64F _
  have E3 : Hid (IntKind.i64.wrap ((2 : Int) ^ min j 64) = (M : Int)) := by show _ = _; rw [show min j 64 = j by omega]; exact e3
  clear e2 e3
  have hd0 : ¬ (d : Int) < 0 := by omega
  have hj0 : ¬ (j : Int) < 0 := by omega
  have hmix : Try.prog.follows .mixedOrders = true := by kernel_rfl
  have q0 : (cj k M hk a 0).1 = a.1 := rfl
  have hs : ∀ i, cjs k M hk a (i + 1) = cjs k M hk a i ++ [cj k M hk a i] := cjs_succ k M hk a
  have hz : cjs k M hk a 0 = [] := rfl
  have HZ := hidF (And.intro hs hz)
  have HLN : Hid (∀ i, (cjs k M hk a i).length = i) := fun i => by simp [cjs]
  obtain ⟨c1, c2, c3, c4⟩ := hc'
  clear hc hW hJ hY h0 ho hj hd hM hN hs hz
  generalize cj k M hk a = q at *
  generalize cjs k M hk a = ys at *
  refine callsIn_of_wp Try.func50 rfl trivial ?_ rfl
  simp only [Try.ntmps50, List.size_toArray, List.length_cons, List.length_nil, Nat.reduceAdd, Nat.reduceSub, Array.replicate_succ, Array.replicate_zero, List.push_toArray, List.append_toArray, List.nil_append, List.cons_append]
  gi_wp2_with (refine ⟨trivial, ?_⟩; gi_at_call 40; refine (callsIn_wide.2 (HO.out.go _)).mono ?_; rintro e w1 ⟨rfl, hb1⟩; have HC1 := hidF (HC.out.below hb1); obtain ⟨d1, d2, d3, d4⟩ := HC1.out; clear c1 c2 c3 c4; have n1 : (w1.alloc (Obj.cells #[.int .u64 (a.1.1 : Int), .int .u64 (a.1.2 : Int)] 24)).cell? ⟨b1, 0, none⟩ = some (.int .i64 (k : Int)) := cellB ((Below.refl _ _).alloc (Nat.le_refl _) _) d1; have n2 : (w1.alloc (Obj.cells #[.int .u64 (a.1.1 : Int), .int .u64 (a.1.2 : Int)] 24)).cell? ⟨b2, 0, none⟩ = some (.int .i64 (j : Int)) := cellB ((Below.refl _ _).alloc (Nat.le_refl _) _) d2; have HB1 := hidF hb1; clear hb1)
  have K0 : Hid (J w1.heap.size (ys 0) (w1.alloc (Obj.cells #[.int .u64 (a.1.1 : Int), .int .u64 (a.1.2 : Int)] 24)) ∧ Ew (w1.alloc (Obj.cells #[.int .u64 (a.1.1 : Int), .int .u64 (a.1.2 : Int)] 24)) w1.heap.size (q 0).1.1 (q 0).1.2 ∧ Caught (w1.alloc (Obj.cells #[.int .u64 (a.1.1 : Int), .int .u64 (a.1.2 : Int)] 24)) b1 b2 b3 (k : Int) (j : Int) a.1 ∧ w1.heap.size < (w1.alloc (Obj.cells #[.int .u64 (a.1.1 : Int), .int .u64 (a.1.2 : Int)] 24)).heap.size) :=
    ⟨by rw [HZ.out.2]; exact H0.out _ _ HB1.out.size (HB1.out.alloc HB1.out.size _), by rw [q0]; exact ⟨⟨by simp [go_sem], by simp [go_sem]⟩, by simp [go_sem], by simp [go_sem]⟩, HC1.out.below ((Below.refl _ _).alloc (Nat.le_refl _) _), by simp⟩
  have hp : W.heap.size ≤ w1.heap.size := HB1.out.size
  clear HC1 HB1 HC HO d1 d2 d3 d4 q0 n1 n2
  generalize (w1.alloc (Obj.cells #[.int .u64 (a.1.1 : Int), .int .u64 (a.1.2 : Int)] 24)) = w2 at *
  generalize w1.heap.size = p at *
  rw [E2.out]
  gi_loopw [16] (fun u wr => ∃ i : Nat, i ≤ N ∧ u = .int .i64 i ∧ Hid (J p (ys i) wr ∧ Ew wr p (q i).1.1 (q i).1.2 ∧ Caught wr b1 b2 b3 (k : Int) (j : Int) a.1 ∧ p < wr.heap.size)) (fun u _ => N - (intOf u).toNat)
  case atStart => exact ⟨0, Nat.zero_le _, rfl, K0⟩
  case round =>
    obtain ⟨i, hi, rfl, HK⟩ := hrel
    clear K0
    by_cases hlt : i < N
    · obtain ⟨fn, tmps, assign, body, hy, hR⟩ := HY.out p (ys i) (q i) wr hp HK.out.2.2.2 (by rw [HLN.out, HLN.out]; exact hlt) HK.out.1
      unfold enE at hy
      have s1 := HK.out.2.1.hi
      have s0 := HK.out.2.1.lo
      gi_wp2
      refine hR.mono ?_
      rintro e W3 ⟨rfl, hJ3, hk3⟩
      have K3 : Hid (J p (ys (i + 1)) W3 ∧ Ew W3 p (q i).1.1 (q i).1.2 ∧ Caught W3 b1 b2 b3 (k : Int) (j : Int) a.1 ∧ p < W3.heap.size) := ⟨by rw [HZ.out.1]; exact hJ3, HK.out.2.1.keptF hk3, HK.out.2.2.1.kept hk3, Nat.lt_of_lt_of_le HK.out.2.2.2 hk3.size⟩
      clear hJ3 hk3 hR hy HK s1 s0
      obtain ⟨d1, d2, d3, d4⟩ := K3.out.2.2.1
      obtain ⟨⟨s1, s0⟩, f1, f0⟩ := K3.out.2.1
      have PW := hidF (HPW.out i)
      rw [← E3.out] at PW
      gi_wp2
      gi_region_with_o (refine ⟨trivial, ?_⟩; gi_at_call 33; refine (callsIn_wide.2 (PW.out.go _)).mono ?_; rintro e w5 ⟨rfl, hb5⟩; have K5 : Hid (Priv W.heap.size p W3 w5 ∧ Ew w5 p (q i).1.1 (q i).1.2 ∧ Caught w5 b1 b2 b3 (k : Int) (j : Int) a.1 ∧ p < w5.heap.size) := ⟨Priv.below (below_drewF hb5) (by have := K3.out.2.2.2; omega), K3.out.2.1.below (below_drewF hb5), K3.out.2.2.1.below (below_drewF hb5), Nat.lt_of_lt_of_le K3.out.2.2.2 (below_drewF hb5).size⟩; clear hb5 d1 d2 d3 d4 s1 s0 f1 f0; obtain ⟨⟨s1, s0⟩, f1, f0⟩ := K5.out.2.1)
      all_goals gi_wp2
      all_goals (go_roundw)
      all_goals first
        | exact ⟨i + 1, hlt, by go_num, HJ.out p _ _ _ hp K3.out.1 ((K5.out.1.trans (Priv.set _ _ _ hp)).trans (Priv.set _ _ _ hp)), K5.out.2.1.set _ _, K5.out.2.2.1.priv ((Priv.set _ _ _ hp).trans (Priv.set _ _ _ hp)) h1 h2 h3, by simpa [World.setCell] using K5.out.2.2.2⟩
        | (simp [intOf]; omega)
    · obtain rfl : i = N := by omega
      gi_wp2
      refine bodyPost_end (results_none rfl _ _ _) rfl ?_
      exact ⟨⟨_, rfl⟩, p, hp, HK.out.1⟩

set_option maxRecDepth 100000 in
set_option maxHeartbeats 2000000 in
theorem conj_in (n : Nat) (l t : Int) (a : Nat × Nat) (w : World) :
    CallsIn Fence.wide n Try.prog 39 #[.int .i64 l, .int .i64 t, enE a] w fun e w' => e = .returned (.func (.func 50) #[] #[.pointer (some ⟨w.heap.size, 0, none⟩), .pointer (some ⟨w.heap.size + 1, 0, none⟩), .pointer (some ⟨w.heap.size + 1 + 1, 0, none⟩)]) ∧ Caught w' w.heap.size (w.heap.size + 1) (w.heap.size + 1 + 1) l t a ∧ Below w.heap.size w w' ∧ w'.heap.size = w.heap.size + 1 + 1 + 1 := by
  unfold enE
  refine callsIn_of_wp Try.func39 rfl trivial ?_ rfl
  simp only [Try.ntmps39, List.size_toArray, List.length_cons, List.length_nil, Nat.reduceAdd, Nat.reduceSub, Array.replicate_succ, Array.replicate_zero, List.push_toArray, List.append_toArray, List.nil_append, List.cons_append]
  gi_wp2
  go_ret
  refine ⟨rfl, ⟨by simp [go_sem], by simp [go_sem], by simp [go_sem], by simp [go_sem]⟩, by go_grown, by simp⟩
end Go.Proofs.Ytakaconhoodigaa
