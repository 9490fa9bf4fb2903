/- The document's side of layer 15 over the seat's translation: Log, one, Weight, Value. -/
import Derived.Test.YtbomgcmmfeahiaaPCbF
import Derived.Test.YtbomgcmmfeahiaaRfE
import Derived.Test.YtbomgcmmfeahiaaPSlA
import Derived.Test.YtbomgcmmfeahiaaTwBl
import Derived.Deep.OwnRows
import Derived.BigQuiet
namespace Go.Proofs.Ytbomgcmmfeahiaa
open Go.RowKit
open Cb
open Tw (pm)

set_option maxHeartbeats 1000000 in
theorem rlog_int (n r : Int) (h1 : ∀ k : Nat, k ≤ 16 → n = ((2 ^ k : Nat) : Int) → r = (k : Int)) (h2 : (∀ k : Nat, k ≤ 16 → n ≠ ((2 ^ k : Nat) : Int)) → r = -1) : Ret 16 #[.int .i64 n] (.int .i64 r) := by
  intro W
  have H1 : Hid (∀ k : Nat, k ≤ 16 → n = ((2 ^ k : Nat) : Int) → r = (k : Int)) := h1
  have H2 : Hid ((∀ k : Nat, k ≤ 16 → n ≠ ((2 ^ k : Nat) : Int)) → r = -1) := h2
  clear h1 h2
  go_enter Try.func16, Try.ntmps16
  go_wp2_with fail
  go_loopw [3, 4] (fun v u wr => ∃ j q : Nat, j ≤ 17 ∧ Hid (q = 2 ^ j) ∧ Hid (∀ k : Nat, k < j → n ≠ ((2 ^ k : Nat) : Int)) ∧ v = .int .i64 (q : Int) ∧ u = .int .i64 j ∧ W = wr) (fun _ u _ => 17 - (intOf u).toNat)
  case atStart => exact ⟨0, 1, Nat.zero_le _, (by rfl), (fun k hk => by omega), rfl, rfl, rfl⟩
  case round =>
    obtain ⟨j, q, hj, HQ, HN, rfl, rfl, rfl⟩ := hrel
    by_cases hlt : j ≤ 16
    · have hq : q ≤ 65536 := by rw [HQ.out]; exact Nat.pow_le_pow_right (by decide) hlt
      have hw : IntKind.i64.wrap (2 * (q : Int)) = ((2 * q : Nat) : Int) := by rw [IntKind.wrap_i64]; omega
      by_cases he : n = (q : Int)
      · have hr : r = (j : Int) := H1.out j hlt (by rw [he, HQ.out])
        subst he
        go_wp2
        go_ret
        exact ⟨by first | rfl | (rw [hr]; rfl), Below.refl _ _⟩
      · have he' : ¬ (q : Int) = n := fun h => he h.symm
        go_wp2
        exact ⟨⟨j + 1, 2 * q, by omega, (by show _ = _; rw [HQ.out, Nat.pow_succ]; omega), (fun k hk => by
          rcases Nat.lt_or_ge k j with h | h
          · exact HN.out k h
          · rw [show k = j by omega, ← HQ.out]; exact he), by simp, by simp, by first | rfl | trivial⟩, by simp [intOf]; omega⟩
    · have hr : r = -1 := H2.out fun k hk => HN.out k (by omega)
      have hlt' : ¬ (j : Int) ≤ 16 := by omega
      go_wp2
      go_ret
      exact ⟨by first | rfl | (rw [hr]; rfl), Below.refl _ _⟩
theorem rlog_any (n : Nat) : Ret 16 #[.int .i64 (n : Int)] (.int .i64 (lgz n)) := by
  refine rlog_int _ _ (fun k hk h => ?_) fun h => ?_
  · obtain rfl : n = 2 ^ k := by omega
    exact lgz_two k hk
  · rcases lgz_or n with e | ⟨k, hk, e, _⟩
    · exact e
    · exact absurd (congrArg Int.ofNat e) (h k hk)
theorem rone : Ret 57 #[] (.agg #[.int .u64 0, .int .u64 1]) := by
  intro W
  go_enter Try.func57, Try.ntmps57
  go_wp2
  refine bodyPost_ret (v := .agg #[.int .u64 0, .int .u64 1]) (by simp [results, Try.results57, go_sem]) rfl ⟨rfl, ?_⟩
  go_grown
theorem wtf_snoc : ∀ (p : List (Nat × Nat)) (o x : Nat × Nat) (n : Nat), wtf o (p ++ [x]) n = pm (wtf o p n) (fac x (n / 2 ^ p.length))
  | [], o, x, n => by simp [wtf]
  | y :: p, o, x, n => by
    show wtf (pm o (fac y n)) (p ++ [x]) (n / 2) = pm (wtf (pm o (fac y n)) p (n / 2)) (fac x (n / 2 ^ (p.length + 1)))
    rw [wtf_snoc p, Nat.div_div_eq_div_mul, Nat.pow_succ, Nat.mul_comm 2]
/-- A room, and an element that is worked on. -/
structure Wst (W w : World) (q : Nat) (o : Nat × Nat) : Prop where
  r : Ew w W.heap.size 0 0
  o : Ew w q o.1 o.2
  d : Below W.heap.size W w
theorem Wst.below {W w w' : World} {q : Nat} {o : Nat × Nat} (h : Wst W w q o) (hb : Below w.heap.size w w') : Wst W w' q o := ⟨h.r.below hb, h.o.below hb, h.d.trans (hb.mono h.d.size)⟩
theorem Wst.drew {W w : World} {q : Nat} {o : Nat × Nat} (h : Wst W w q o) : Wst W w.drew q o := ⟨h.r.drew, h.o.drew, h.d.drew⟩
theorem Wst.put {W w : World} {q : Nat} {o : Nat × Nat} (h : Wst W w q o) (hq : W.heap.size < q) (v : Nat × Nat) : Wst W ((w.setCell ⟨q, 0, none⟩ (.int .u64 (v.1 : Int))).setCell ⟨q, 1, none⟩ (.int .u64 (v.2 : Int))) q v :=
  ⟨h.r.other (by omega) _ _, h.o.set _ _, below2 (p := q) h.d (by omega) _ _⟩
theorem Wst.facts {W w : World} {q b i : Nat} {o x : Nat × Nat} (h : Wst W w q o) (A : b < W.heap.size ∧ W.cell? ⟨b, i, none⟩ = some (.int .u64 (x.1 : Int)) ∧ W.cell? ⟨b, i + 1, none⟩ = some (.int .u64 (x.2 : Int))) :
    w.cell? ⟨b, i, none⟩ = some (.int .u64 (x.1 : Int)) ∧ w.cell? ⟨b, i + 1, none⟩ = some (.int .u64 (x.2 : Int)) ∧ w.cell? ⟨q, 0, none⟩ = some (.int .u64 (o.1 : Int)) ∧ w.cell? ⟨q, 1, none⟩ = some (.int .u64 (o.2 : Int)) ∧ w.frozen? ⟨q, 0, none⟩ = false ∧ w.frozen? ⟨q, 1, none⟩ = false :=
  ⟨by rw [h.d.cell (p := ⟨b, i, none⟩) A.1]; exact A.2.1, by rw [h.d.cell (p := ⟨b, i + 1, none⟩) A.1]; exact A.2.2, h.o.hi, h.o.lo, h.o.fhi, h.o.flo⟩
theorem rprod (a b : Nat × Nat) (ha : lt2 a) (hb : lt2 b) : Ret 41 #[.agg #[.int .u64 (a.1 : Int), .int .u64 (a.2 : Int)], .agg #[.int .u64 (b.1 : Int), .int .u64 (b.2 : Int)]] (.agg #[.int .u64 ((pm a b).1 : Int), .int .u64 ((pm a b).2 : Int)]) := rproduct_any _ _ _ _ ha.1 ha.2 hb.1 hb.2
theorem rsum (a b : Nat × Nat) (ha : lt2 a) (hb : lt2 b) : Ret 35 #[.agg #[.int .u64 (a.1 : Int), .int .u64 (a.2 : Int)], .agg #[.int .u64 (b.1 : Int), .int .u64 (b.2 : Int)]] (.agg #[.int .u64 ((xa a b).1 : Int), .int .u64 ((xa a b).2 : Int)]) := radd _ _ _ _ ha.1 ha.2 hb.1 hb.2
set_option maxHeartbeats 4000000 in
set_option maxRecDepth 100000 in
theorem rweight_any (a : Option Addr) (cap c : Nat) (p : List (Nat × Nat)) (hp : ltE p) (h1 : p.length ≤ 1000) (hc : c ≤ 1000) (W : World) (ha : ERow W a p) :
    Calls Try.prog 38 #[.slice a p.length cap, .int .i64 (c : Int)] W fun e w' => e = .returned (.agg #[.int .u64 ((wt p c).1 : Int), .int .u64 ((wt p c).2 : Int)]) ∧ Below W.heap.size W w' := by
  have HA : Hid (ERow W a p) := ha
  have HP : Hid (ltE p) := hp
  have HO : Hid (Ret 57 #[] (.agg #[.int .u64 0, .int .u64 1])) := rone
  clear ha hp
  go_enter Try.func38, Try.ntmps38
  go_wp2_with (go_at_call 57; refine (HO.out.go _).mono ?_; rintro e w1 ⟨rfl, hb1⟩)
  have K0 : Wst W (w1.alloc (Obj.cells #[.int .u64 0, .int .u64 1] 46)) w1.heap.size (0, 1) := by
    have hr : Ew (W.alloc (Obj.cells #[.int .u64 0, .int .u64 0] 46)) W.heap.size 0 0 := ⟨⟨by simp [go_sem], by simp [go_sem]⟩, by simp [go_sem], by simp [go_sem]⟩
    have hd : Below W.heap.size W w1 := ((Below.refl _ _).alloc (Nat.le_refl _) _).trans (hb1.mono (by simp))
    exact ⟨(hr.below hb1).alloc _, ⟨⟨by simp [go_sem], by simp [go_sem]⟩, by simp [go_sem], by simp [go_sem]⟩, hd.alloc hd.size _⟩
  have hq : W.heap.size < w1.heap.size := by have := hb1.size; simp at this; omega
  clear hb1
  generalize (w1.alloc (Obj.cells #[.int .u64 0, .int .u64 1] 46)) = w2 at *
  generalize w1.heap.size = q at *
  go_loopw [6, 7] (fun v u wr => ∃ (j n : Nat) (o : Nat × Nat), j ≤ p.length ∧ u = .int .i64 j ∧ v = .int .i64 (n : Int) ∧ Hid (n = c / 2 ^ j ∧ o = wtf (0, 1) (p.take j) c ∧ lt2 o) ∧ n ≤ 1000 ∧ Wst W wr q o) (fun _ u _ => p.length - (intOf u).toNat)
  case atStart => exact ⟨0, c, (0, 1), Nat.zero_le _, rfl, rfl, ⟨by simp, by simp [wtf], lt_one⟩, hc, K0⟩
  case round =>
    obtain ⟨j, n, o, hj, rfl, rfl, HS, hn, K⟩ := hrel
    clear K0
    by_cases hlt : j < p.length
    · obtain ⟨b, off, rfl, hb, c1, c0⟩ := HA.out.cells j hlt
      have HC : Hid (b < W.heap.size ∧ W.cell? ⟨b, off + j * 2, none⟩ = some (.int .u64 ((p.getD j (0, 0)).1 : Int)) ∧ W.cell? ⟨b, off + j * 2 + 1, none⟩ = some (.int .u64 ((p.getD j (0, 0)).2 : Int))) := ⟨hb, c1, c0⟩
      have hx : lt2 (p.getD j (0, 0)) := HP.out.at j
      have HK : Hid (p.take (j + 1) = p.take j ++ [p.getD j (0, 0)] ∧ (p.take j).length = j) := ⟨take_sn p j hlt, by rw [List.length_take]; omega⟩
      clear c1 c0 hb HA HP
      generalize p.getD j (0, 0) = x at *
      have HN : Hid (n / 2 = c / 2 ^ (j + 1) ∧ pm o (fac x n) = wtf (0, 1) (p.take (j + 1)) c ∧ lt2 (pm o (fac x n))) := ⟨by rw [HS.out.1, Nat.div_div_eq_div_mul, Nat.pow_succ], by rw [HK.out.1, wtf_snoc, HK.out.2, ← HS.out.2.1, ← HS.out.1], lt_pm _ _⟩
      have ho : lt2 o := HS.out.2.2
      have hd2 : (n : Int).tdiv 2 = ((n / 2 : Nat) : Int) := by rw [Int.tdiv_eq_ediv_of_nonneg (by omega)]; omega
      have hm : n / 2 ≤ 1000 := by omega
      have hrm : (n : Int).tmod 2 = ((n % 2 : Nat) : Int) := by rw [Int.tmod_eq_emod_of_nonneg (by omega)]; omega
      clear HS HK
      obtain ⟨n2, hn2⟩ : ∃ n2, n / 2 = n2 := ⟨_, rfl⟩
      rw [hn2] at HN hd2 hm
      rcases Nat.mod_two_eq_zero_or_one n with h | h
      · rw [h] at hrm
        have hf : fac x n = xa (0, 1) x := by unfold fac; rw [if_neg (by omega)]
        rw [hf] at HN
        have H1 := rsum (0, 1) x lt_one hx
        have H2 := rprod o (xa (0, 1) x) ho (lt_xa lt_one hx)
        clear hf h hn2
        generalize pm o (xa (0, 1) x) = z at *
        generalize xa (0, 1) x = y at *
        clear ho hx hn
        go_upto_region 8 with fail
        obtain ⟨x1, x0, s1, s0, t1, t0⟩ := K.facts HC.out
        go_region_with (first | (go_at_call 57; refine (HO.out.go _).mono ?_; rintro e w' ⟨rfl, hb'⟩; have K'' := Wst.below (w' := w') (by first | exact K | exact K.drew) hb'; clear x1 x0 s1 s0 t1 t0 K hb'; have K := K''; clear K''; (try simp only [World.size_drew] at K); obtain ⟨x1, x0, s1, s0, t1, t0⟩ := K.facts HC.out) | (go_at_call 35; refine (H1.go _).mono ?_; rintro e w' ⟨rfl, hb'⟩; have K'' := Wst.below (w' := w') (by first | exact K | exact K.drew) hb'; clear x1 x0 s1 s0 t1 t0 K hb'; have K := K''; clear K''; (try simp only [World.size_drew] at K); obtain ⟨x1, x0, s1, s0, t1, t0⟩ := K.facts HC.out) | (go_at_call 41; refine (H2.go _).mono ?_; rintro e w' ⟨rfl, hb'⟩; have K'' := Wst.below (w' := w') (by first | exact K | exact K.drew) hb'; clear x1 x0 s1 s0 t1 t0 K hb'; have K := K''; clear K''; (try simp only [World.size_drew] at K); obtain ⟨x1, x0, s1, s0, t1, t0⟩ := K.facts HC.out))
        all_goals
          go_wp2
          exact ⟨⟨j + 1, n2, z, hlt, by simp, by simp, HN.out, hm, K.put hq z⟩, by simp [intOf]; omega⟩
      · rw [h] at hrm
        have hf : fac x n = x := by unfold fac; rw [if_pos h]
        rw [hf] at HN
        have H2 := rprod o x ho hx
        clear hf h hn2
        generalize pm o x = z at *
        clear ho hx hn
        go_upto_region 7 with fail
        obtain ⟨x1, x0, s1, s0, t1, t0⟩ := K.facts HC.out
        go_region_with (go_at_call 41; refine (H2.go _).mono ?_; rintro e w' ⟨rfl, hb'⟩; have K'' := Wst.below (w' := w') (by first | exact K | exact K.drew) hb'; clear x1 x0 s1 s0 t1 t0 K hb'; have K := K''; clear K''; (try simp only [World.size_drew] at K); obtain ⟨x1, x0, s1, s0, t1, t0⟩ := K.facts HC.out)
        all_goals
          go_wp2
          exact ⟨⟨j + 1, n2, z, hlt, by simp, by simp, HN.out, hm, K.put hq z⟩, by simp [intOf]; omega⟩
    · obtain rfl : j = p.length := by omega
      have e0 : o = wt p c := by have := HS.out.2.1; rw [List.take_of_length_le (Nat.le_refl _)] at this; exact this
      subst e0
      have HD : Hid (Below W.heap.size W wr) := K.d
      obtain ⟨⟨o1, o0⟩, _, _⟩ := K.o
      obtain ⟨⟨r1, r0⟩, t1, t0⟩ := K.r
      clear K HS HA HP
      go_wp2
      refine bodyPost_ret (v := .agg #[.int .u64 ((wt p c).1 : Int), .int .u64 ((wt p c).2 : Int)]) (by simp [results, Try.results38, go_sem, *]) rfl ⟨rfl, ?_⟩
      exact below2 (p := W.heap.size) HD.out (Nat.le_refl _) _ _
end Go.Proofs.Ytbomgcmmfeahiaa

/- Contracts of weave.joined over the seat's translation: halves joined to one element. -/
namespace Go.Proofs.Ytbomgcmmfeahiaa
open Go.RowKit

/-- Two halves as one element of the level k. -/
def jn (k : Nat) (x y : Nat × Nat) : Nat × Nat := if k = 7 then (x.2, y.2) else (0, 2 ^ 2 ^ (k - 1) * x.2 + y.2)
def jnd : Nat → Nat → List (Nat × Nat) → Nat × Nat
  | 0, _, es => es.getD 0 (0, 0)
  | d + 1, k, es => jn k (jnd d (k - 1) (es.drop (2 ^ d))) (jnd d (k - 1) (es.take (2 ^ d)))
theorem ERow.drop {w : World} {b off n : Nat} {es : List (Nat × Nat)} (h : ERow w (some ⟨b, off, none⟩) es) : ERow w (some ⟨b, off + n * 2, none⟩) (es.drop n) := ⟨fun i hi => by
  have hi' : n + i < es.length := by simp at hi; omega
  obtain ⟨b', o', e, h1, h2, h3⟩ := h.cells (n + i) hi'
  simp only [Option.some.injEq, Addr.mk.injEq] at e
  obtain ⟨rfl, rfl, _⟩ := e
  have eg : (es.drop n).getD i (0, 0) = es.getD (n + i) (0, 0) := by simp [List.getD]
  refine ⟨_, _, rfl, h1, ?_, ?_⟩
  · rw [eg, ← h2]; congr 2; omega
  · rw [eg, ← h3]; congr 2; omega⟩
theorem ERow.take {w : World} {a : Option Addr} {n : Nat} {es : List (Nat × Nat)} (h : ERow w a es) : ERow w a (es.take n) := ⟨fun i hi => by
  have hi' : i < es.length ∧ i < n := by simp at hi; omega
  obtain ⟨b', o', e, h1, h2, h3⟩ := h.cells i hi'.1
  have eg : (es.take n).getD i (0, 0) = es.getD i (0, 0) := by simp [List.getD, hi'.2]
  exact ⟨_, _, e, h1, by rw [eg]; exact h2, by rw [eg]; exact h3⟩⟩
set_option maxHeartbeats 1000000 in
theorem joined_one (l : Int) (b off cap : Nat) (es : List (Nat × Nat)) (h1 : es.length = 1) (W : World) (hr : ERow W (some ⟨b, off, none⟩) es) :
    Calls Try.prog 77 #[.int .i64 l, .slice (some ⟨b, off, none⟩) 1 cap] W fun e w' => e = .returned (.agg #[.int .u64 ((es.getD 0 (0, 0)).1 : Nat), .int .u64 ((es.getD 0 (0, 0)).2 : Nat)]) ∧ Below W.heap.size W w' := by
  obtain ⟨b', o', e, hb, c1, c0⟩ := hr.cells 0 (by omega)
  simp only [Option.some.injEq, Addr.mk.injEq] at e
  obtain ⟨rfl, rfl, _⟩ := e
  rw [Nat.zero_mul, Nat.add_zero] at c1 c0
  clear hr
  generalize es.getD 0 (0, 0) = x at *
  go_enter Try.func77, Try.ntmps77
  go_wp2
  refine bodyPost_ret (v := .agg #[.int .u64 (x.1 : Nat), .int .u64 (x.2 : Nat)]) (by simp [results, Try.results77, go_sem, *]) rfl ⟨rfl, ?_⟩
  go_grown
set_option maxHeartbeats 1000000 in
theorem joined_step (l l1 : Int) (b off cap n h : Nat) (x y z : Nat × Nat) (hn : n = h + h) (h2 : 0 < h) (hm : n ≤ 1000) (hc : n ≤ cap) (hw : IntKind.i64.wrap (l - 1) = l1) (W : World)
    (HH : Hid (∀ w, Below W.heap.size W w → Calls Try.prog 77 #[.int .i64 l1, .slice (some ⟨b, off + h * 2, none⟩) h (cap - h)] w fun e w' => e = .returned (.agg #[.int .u64 (x.1 : Nat), .int .u64 (x.2 : Nat)]) ∧ Below w.heap.size w w'))
    (HL : Hid (∀ w, Below W.heap.size W w → Calls Try.prog 77 #[.int .i64 l1, .slice (some ⟨b, off, none⟩) h cap] w fun e w' => e = .returned (.agg #[.int .u64 (y.1 : Nat), .int .u64 (y.2 : Nat)]) ∧ Below w.heap.size w w'))
    (HJ : Hid (Ret 87 #[.int .i64 l, .agg #[.int .u64 (x.1 : Nat), .int .u64 (x.2 : Nat)], .agg #[.int .u64 (y.1 : Nat), .int .u64 (y.2 : Nat)]] (.agg #[.int .u64 (z.1 : Nat), .int .u64 (z.2 : Nat)]))) :
    Calls Try.prog 77 #[.int .i64 l, .slice (some ⟨b, off, none⟩) n cap] W fun e w' => e = .returned (.agg #[.int .u64 (z.1 : Nat), .int .u64 (z.2 : Nat)]) ∧ Below W.heap.size W w' := by
  have hne : ¬ (n : Int) = 1 := by omega
  have hne' : ¬ n = 1 := by omega
  have hq : (n : Int).tdiv 2 = (h : Int) := by rw [hn, Int.tdiv_eq_ediv_of_nonneg (by omega)]; omega
  have i1 : (0 : Int) ≤ (h : Int) := by omega
  have i2 : (h : Int) ≤ (n : Int) := by omega
  have i3 : (n : Int) ≤ (cap : Int) := by omega
  have i4 : (h : Int) ≤ (cap : Int) := by omega
  have i5 : n - h = h := by omega
  have i6 : ¬ cap = h := by omega
  have i7 : ¬ cap = 0 := by omega
  have HN : Hid (n = h + h) := hn
  clear hn
  go_enter Try.func77, Try.ntmps77
  go_wp2_with fail
  have B : Bl W (W.alloc (Obj.cells #[.int .u64 0, .int .u64 0] 42)) [] [W.heap.size] := ⟨trivial, ⟨⟨by simp [go_sem], by simp [go_sem], by simp [go_sem], by simp [go_sem]⟩, trivial⟩, by go_grown⟩
  generalize W.alloc (Obj.cells #[.int .u64 0, .int .u64 0] 42) = w3 at *
  have F := B.facts
  simp only [Els, Wrs, and_true] at F
  go_region_held3 (fun _ => True) (trivial) (first | (go_at_call_of 77 (#[.int .i64 l1, .slice (some ⟨b, off + h * 2, none⟩) h (cap - h)] : Array Value); refine (HH.out _ (by first | exact B.b | exact B.drew.b)).mono ?_; rintro e w' ⟨rfl, hb'⟩; have B'' := Bl.below (w' := w') (by first | exact B | exact B.drew) hb'; clear F B hb'; have B := B''; clear B''; (try simp only [World.size_drew] at B); have F := B.facts; simp only [Els, Wrs, and_true] at F) | (go_at_call_of 77 (#[.int .i64 l1, .slice (some ⟨b, off, none⟩) h cap] : Array Value); refine (HL.out _ (by first | exact B.b | exact B.drew.b)).mono ?_; rintro e w' ⟨rfl, hb'⟩; have B'' := Bl.below (w' := w') (by first | exact B | exact B.drew) hb'; clear F B hb'; have B := B''; clear B''; (try simp only [World.size_drew] at B); have F := B.facts; simp only [Els, Wrs, and_true] at F) | (go_at_call 87; refine (HJ.out.go _).mono ?_; rintro e w' ⟨rfl, hb'⟩; have B'' := Bl.below (w' := w') (by first | exact B | exact B.drew) hb'; clear F B hb'; have B := B''; clear B''; (try simp only [World.size_drew] at B); have F := B.facts; simp only [Els, Wrs, and_true] at F))
  all_goals
    go_wp2
    refine bodyPost_ret (v := .agg #[.int .u64 (z.1 : Nat), .int .u64 (z.2 : Nat)]) (by simp [results, Try.results77, go_sem, *]) rfl ⟨rfl, ?_⟩
    exact (B.b.setCell (Nat.le_refl _) _).setCell (Nat.le_refl _) _
end Go.Proofs.Ytbomgcmmfeahiaa
