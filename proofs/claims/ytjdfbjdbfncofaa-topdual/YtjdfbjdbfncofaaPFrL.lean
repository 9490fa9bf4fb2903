/- The way back of a map, no Go in sight, where neither sorting nor Basis is in the seat: cut out of SqT, SqO and SrB. -/
import Derived.Test.YtjdfbjdbfncofaaPHfS
import Derived.Test.YtjdfbjdbfncofaaPCbF
import Derived.RangeFuncNested
import Derived.RangeFuncBound
import Derived.RangeFuncCalls
import Derived.RangeFuncLeaves
import Derived.Shelf.Abstract
import Derived.Shelf.RegionOpen
import Derived.WalkKit
import Derived.OwnWalkIn
import Derived.TacticsInMore
import Derived.LoopNIn
import Derived.LoopIn
namespace Go.Proofs.Ytjdfbjdbfncofaa
open Go.RowKit
open Cb Rg Sq
theorem mdv_xa (m : List (Nat × Nat)) (x y : Nat × Nat) : ∀ n, mdv n m (xa x y) = xa (mdv n m x) (mdv n m y) := fun n => by
  unfold mdv
  rw [← xs_two]
  refine xs_congr n fun i _ => ?_
  rw [hs_xa, sl_xor]
theorem mdv_zero (m : List (Nat × Nat)) (n : Nat) : mdv n m (0, 0) = (0, 0) := by
  unfold mdv
  exact xs_none n fun i _ => by rw [hs_zero]; rfl
theorem mdv_sl (m : List (Nat × Nat)) (n : Nat) (b : Bool) (e : Nat × Nat) : mdv n m (sl b e) = sl b (mdv n m e) := by
  cases b
  · exact mdv_zero m n
  · rfl
theorem mdv_xs (m : List (Nat × Nat)) (n : Nat) (f : Nat → Nat × Nat) : ∀ k, mdv n m (xs k f) = xs k fun i => mdv n m (f i)
  | 0 => mdv_zero m n
  | k + 1 => by
    simp only [xs]
    rw [mdv_xa, mdv_xs m n f k]
def fitL (l : List (Nat × Nat)) (n : Nat) : Bool := l.all fun e => decide (lngE e ≤ n)
theorem fitL_iff (l : List (Nat × Nat)) (n : Nat) : fitL l n = true ↔ ∀ e ∈ l, lngE e ≤ n := by simp [fitL]
namespace Sq
/-- Numbers that fall and are as many as can be are all. -/
theorem fall_all : ∀ (n : Nat) (L : List Nat), L.Pairwise (fun a b => b < a) → (∀ a ∈ L, a < n) → L.length = n → ∀ b, b < n → b ∈ L
  | 0, _, _, _, _, b, hb => absurd hb (Nat.not_lt_zero b)
  | n + 1, [], _, _, hl, _, _ => by simp at hl
  | n + 1, a :: L, hp, ha, hl, b, hb => by
    obtain ⟨h1, h2⟩ := List.pairwise_cons.1 hp
    have han := ha a (by simp)
    have ih := fall_all n L h2 (fun c hc => by have := h1 c hc; omega) (by simpa using hl)
    by_cases e : b < n
    · exact List.mem_cons_of_mem _ (ih b e)
    · obtain rfl : b = n := by omega
      have : a = b := by
        rcases b with _ | k
        · omega
        · have := h1 k (ih k (by omega)); omega
      rw [this]; simp
theorem lng_le {x : Nat × Nat} (hx : lt2 x) {n : Nat} (h : ∀ b, n ≤ b → hs x b = false) : lngE x ≤ n := by
  by_cases h0 : x = (0, 0)
  · subst h0; exact Nat.zero_le _
  · rw [lng_ld hx h0]
    rcases Nat.lt_or_ge (ld x) n with k | k
    · exact k
    · have := hs_ld hx h0
      rw [h _ k] at this; cases this
/-- A map that has a way back: it fits, and its rank is whole. -/
structure Wh (m : List (Nat × Nat)) : Prop where
  lt : ltE m
  le : m.length ≤ 128
  fit : ∀ i, lngE (el m i) ≤ m.length
  rank : (rb m).length = m.length
theorem Wh.fresh {m : List (Nat × Nat)} (w : Wh m) : ∀ i, i < m.length → old? m i = false := by
  have h := elm_ei w.lt m.length (Nat.le_refl _)
  have hlen : (elm m m.length).2.length = m.length := by rw [← h.len, elm_len w.lt, w.rank]
  have hd : ∀ d i, i + d = m.length → i ≤ (elm m i).2.length := fun d => by
    induction d with
    | zero => intro i hi; obtain rfl : i = m.length := by omega
              omega
    | succ d ih =>
      intro i hi
      have h1 := ih (i + 1) (by omega)
      rw [elm_succ] at h1
      cases e : old? m i
      · rw [e, if_neg (by decide), List.length_append, List.length_singleton] at h1; omega
      · rw [e, if_pos rfl] at h1; omega
  intro i hi
  cases e : old? m i
  · rfl
  · have h1 := hd (m.length - (i + 1)) (i + 1) (by omega)
    rw [elm_succ, e, if_pos rfl] at h1
    have := (elm_ei w.lt i (by omega)).le
    omega
theorem Wh.frs {m : List (Nat × Nat)} (w : Wh m) : ∀ i, i ≤ m.length → (elm m i).2 = List.range i
  | 0, _ => rfl
  | i + 1, h => by
    rw [elm_succ, w.fresh i (by omega), if_neg (by decide), w.frs i (by omega), List.range_succ]
theorem Wh.wch {m : List (Nat × Nat)} (w : Wh m) (o : Nat × Nat) {i : Nat} (h : i < m.length) : wch m o i = hs o i := by
  unfold Sq.wch
  rw [w.fresh i h, w.frs i (by omega), List.length_range]; rfl
theorem Wh.ups {m : List (Nat × Nat)} (w : Wh m) (o : Nat × Nat) : ∀ i, i ≤ m.length → ups m o i = mdv i m o
  | 0, _ => rfl
  | i + 1, h => by
    rw [ups_succ, w.ups o i (by omega), w.wch o (by omega)]; rfl
theorem Wh.bits {m : List (Nat × Nat)} (w : Wh m) {i b : Nat} (h : m.length ≤ b) : hs (el m i) b = false := hs_long _ (ltE_el w.lt i) b (Nat.le_trans (w.fit i) h)
theorem Wh.all {m : List (Nat × Nat)} (w : Wh m) {x : Nat × Nat} (hx : lt2 x) (hl : lngE x ≤ m.length) : Sp m x := by
  obtain ⟨hR, hF, hQ⟩ := rb_rr w.lt
  have hb : ∀ r ∈ rb m, ∀ b, m.length ≤ b → hs r b = false := fun r hr b hb => sp_bit (fun a ha => by
    obtain ⟨i, _, rfl⟩ := mem_el ha
    exact w.bits hb) ((hQ r).1 (sp_mem hr))
  have hld : ∀ a ∈ (rb m).map ld, a < m.length := fun a ha => by
    obtain ⟨r, hr, rfl⟩ := List.mem_map.1 ha
    rcases Nat.lt_or_ge (ld r) m.length with k | k
    · exact k
    · have := hs_ld (hR.lt r hr) (hR.ne r hr)
      rw [hb r hr _ k] at this; cases this
  have hall := fall_all m.length ((rb m).map ld) (List.pairwise_map.2 hF) hld (by rw [List.length_map, w.rank])
  refine (hQ x).1 ((red_iff hR x).2 (hs_none (lt_red hR.lt hx) fun b _ => ?_))
  rcases Nat.lt_or_ge b m.length with k | k
  · obtain ⟨r, hr, rfl⟩ := List.mem_map.1 (hall b k)
    exact red_bit hR x r hr
  · rw [red_keep (fun r hr => hb r hr b k)]
    exact hs_long x hx b (Nat.le_trans hl k)
theorem bv_lng {i n : Nat} (h : i < n) (hn : n ≤ 128) : lngE (bv (i : Int)) ≤ n := lng_le (bv_lt2 _) fun b hb => bv_high i b (by omega) (by omega)
/-- What each bit is of. -/
def bk (m : List (Nat × Nat)) (i : Nat) : Nat × Nat := ofv m (bv (i : Int))
def bkL (m : List (Nat × Nat)) : List (Nat × Nat) := (List.range m.length).map (bk m)
theorem bkL_len (m : List (Nat × Nat)) : (bkL m).length = m.length := by simp [bkL]
theorem bkL_at (m : List (Nat × Nat)) {i : Nat} (h : i < m.length) : el (bkL m) i = bk m i := by simp [el, bkL, List.getD, h]
theorem lt_ofv' {l : List (Nat × Nat)} (hl : ltE l) {x : Nat × Nat} (hx : lt2 x) : lt2 (ofv l x) := by
  have h := elm_ei hl l.length (Nat.le_refl _)
  exact (redv_lt (ltR_of h.rr h.of) x hx.1 hx.2 _ (Nat.le_refl _)).2
theorem lt_bk {m : List (Nat × Nat)} (hm : ltE m) (i : Nat) : lt2 (bk m i) := lt_ofv' hm (bv_lt2 _)
theorem lt_bkL {m : List (Nat × Nat)} (hm : ltE m) : ltE (bkL m) := fun e he => by
  obtain ⟨i, _, rfl⟩ := List.mem_map.1 he
  exact lt_bk hm i
theorem Wh.inn {m : List (Nat × Nat)} (w : Wh m) {i : Nat} (h : i < m.length) : in? m (bv (i : Int)) = true := (in?_iff w.lt (bv_lt2 _)).2 (w.all (bv_lt2 _) (bv_lng h w.le))
theorem Wh.to {m : List (Nat × Nat)} (w : Wh m) {i : Nat} (h : i < m.length) : mdv m.length m (bk m i) = bv (i : Int) := by
  rw [← w.ups _ _ (Nat.le_refl _)]
  exact ups_all w.lt w.le (bv_lt2 _) (w.inn h)
theorem Wh.long {m : List (Nat × Nat)} (w : Wh m) (i : Nat) : lngE (bk m i) ≤ m.length := lng_le (lt_bk w.lt i) fun b hb => by
  have h := (redv_of (elm_eo w.lt w.le m.length (Nat.le_refl _)) (bv (i : Int)) _ (Nat.le_refl _)).2 b
  rw [w.frs _ (Nat.le_refl _), List.length_range] at h
  exact h hb
theorem Wh.inj {m : List (Nat × Nat)} (w : Wh m) {z : Nat × Nat} (hz : lt2 z) (hl : lngE z ≤ m.length) (h : mdv m.length m z = (0, 0)) : z = (0, 0) := by
  by_cases h0 : z = (0, 0)
  · exact h0
  · exfalso
    have hk : ld z < m.length := by have := lng_ld hz h0; omega
    have up : ∀ d, ld z + 1 + d ≤ m.length → mdv (ld z + 1 + d) m z = mdv (ld z + 1) m z := fun d => by
      induction d with
      | zero => intro _; rfl
      | succ d ih =>
        intro hd
        have e : mdv (ld z + 1 + (d + 1)) m z = xa (mdv (ld z + 1 + d) m z) (sl (hs z (ld z + 1 + d)) (el m (ld z + 1 + d))) := rfl
        rw [e, hs_above hz (show ld z < ld z + 1 + d by omega), ih (by omega)]
        exact xa_zero _
    have e1 := up (m.length - (ld z + 1)) (by omega)
    rw [show ld z + 1 + (m.length - (ld z + 1)) = m.length by omega, h] at e1
    have e2 : mdv (ld z + 1) m z = xa (mdv (ld z) m z) (sl (hs z (ld z)) (el m (ld z))) := rfl
    rw [← e1, hs_ld hz h0] at e2
    have e3 := xa_eq_zero e2.symm
    have s := ups_sp (l := m) z (ld z) (by omega)
    rw [w.ups z _ (by omega), e3] at s
    have := (old_iff w.lt (by omega)).2 s
    rw [w.fresh _ hk] at this; cases this
theorem xs_bit {f : Nat → Nat × Nat} {b : Nat} (h : ∀ i, hs (f i) b = false) : ∀ n, hs (xs n f) b = false
  | 0 => hs_zero b
  | n + 1 => by simp only [xs]; rw [hs_xa, xs_bit h n, h n]; rfl
theorem xs_pick (f : Nat → Nat × Nat) (i : Nat) : ∀ n, (xs n fun k => sl (decide (k = i)) (f k)) = if i < n then f i else (0, 0)
  | 0 => rfl
  | n + 1 => by
    simp only [xs]
    rw [xs_pick f i n]
    by_cases e : n = i
    · subst e
      rw [if_neg (by omega), if_pos (by omega), decide_eq_true rfl, xa_comm]
      exact xa_zero _
    · rw [decide_eq_false e]
      show xa _ (0, 0) = _
      rw [xa_zero]
      by_cases h : i < n
      · rw [if_pos h, if_pos (by omega)]
      · rw [if_neg h, if_neg (by omega)]
theorem mdv_bv (m : List (Nat × Nat)) {i n : Nat} (h : i < n) (hn : n ≤ 128) : mdv n m (bv (i : Int)) = el m i := by
  have := xs_pick (el m) i n
  rw [if_pos h] at this
  rw [← this]
  exact xs_congr _ fun k hk => by rw [bv_at i k (by omega) (by omega)]
/-- Back and forth. -/
theorem Wh.forth {m : List (Nat × Nat)} (w : Wh m) {y : Nat × Nat} (hy : lt2 y) (hl : lngE y ≤ m.length) : mdv m.length m (mdv m.length (bkL m) y) = y := by
  have e : mdv m.length m (mdv m.length (bkL m) y) = xs m.length fun i => sl (hs y i) (bv (i : Int)) := by
    show mdv m.length m (xs m.length fun i => sl (hs y i) (el (bkL m) i)) = _
    rw [mdv_xs]
    refine xs_congr _ fun i hi => ?_
    rw [mdv_sl, bkL_at m hi, w.to hi]
  rw [e]
  refine hs_ext (lt_xs (fun i => lt_sl (bv_lt2 _)) _) hy fun b hb => ?_
  rw [hs_bits (hs y) m.length b w.le hb]
  rcases Nat.lt_or_ge b m.length with k | k
  · rw [decide_eq_true k]; rfl
  · rw [hs_long y hy b (Nat.le_trans hl k)]; simp
theorem Wh.back {m : List (Nat × Nat)} (w : Wh m) {i : Nat} (h : i < m.length) : mdv m.length (bkL m) (el m i) = bv (i : Int) := by
  have h1 := w.forth (ltE_el w.lt i) (w.fit i)
  have l1 : lt2 (mdv m.length (bkL m) (el m i)) := lt_mdv _ (lt_bkL w.lt) _
  have h2 : mdv m.length m (xa (mdv m.length (bkL m) (el m i)) (bv (i : Int))) = (0, 0) := by
    rw [mdv_xa, h1, mdv_bv m h w.le, xa_self]
  refine xa_eq_zero (w.inj (lt_xa l1 (bv_lt2 _)) (lng_le (lt_xa l1 (bv_lt2 _)) fun b hb => ?_) h2)
  rw [hs_xa, bv_high i b (by have := w.le; omega) (by omega)]
  have : hs (mdv m.length (bkL m) (el m i)) b = false := xs_bit (fun j => by
    rw [hs_sl]
    by_cases hj : j < m.length
    · rw [bkL_at m hj, hs_long _ (lt_bk w.lt j) b (Nat.le_trans (w.long j) hb)]; simp
    · rw [el_ge (l := bkL m) (i := j) (by rw [bkL_len]; omega), hs_zero]; simp) _
  rw [this]; rfl
/-- What hinders the way back. -/
def bkE (m : List (Nat × Nat)) : Int := if 128 < m.length then 1 else if fitL m m.length = false then 6 else if (rb m).length = m.length then 0 else 7
theorem bkE_zero {m : List (Nat × Nat)} (hm : ltE m) (h : bkE m = 0) : Wh m := by
  unfold bkE at h
  by_cases h1 : 128 < m.length
  · rw [if_pos h1] at h; cases h
  · rw [if_neg h1] at h
    cases h2 : fitL m m.length
    · rw [h2, if_pos rfl] at h; cases h
    · rw [h2, if_neg (by decide)] at h
      by_cases h3 : (rb m).length = m.length
      · refine ⟨hm, by omega, fun i => ?_, h3⟩
        by_cases hi : i < m.length
        · exact (fitL_iff _ _).1 h2 _ (el_lt hi)
        · rw [el_ge (by omega)]; exact Nat.zero_le _
      · rw [if_neg h3] at h; cases h
end Sq
end Go.Proofs.Ytjdfbjdbfncofaa

/- Squares of squares, no Go in sight: what is fixed by them is of the level below; traces and norms. -/
namespace Go.Proofs.Ytjdfbjdbfncofaa
namespace Tw
/-- The sum of the first n squares of squares. -/
def trs (k : Nat) : Nat → T k → T k
  | 0, _ => zero k
  | n + 1, a => add k (trs k n a) (sqn k n a)
theorem sqn_zero' (k n : Nat) : sqn k n (zero k) = zero k := by
  have h := sqn_add k n (zero k) (zero k)
  rw [add_self, add_self] at h
  exact h
theorem trs_add (k n : Nat) (a b : T k) : trs k n (add k a b) = add k (trs k n a) (trs k n b) := by
  induction n with
  | zero => exact (add_zero k _).symm
  | succ n ih =>
    simp only [trs]
    rw [ih, sqn_add, add_assoc, add_assoc, add_left_comm k (trs k n b)]
theorem trs_split (k m n : Nat) (a : T k) : trs k (m + n) a = add k (trs k m a) (trs k n (sqn k m a)) := by
  induction n with
  | zero => exact (add_zero k _).symm
  | succ n ih =>
    rw [show m + (n + 1) = m + n + 1 by omega]
    simp only [trs]
    rw [ih, sqn_sqn, add_assoc]
theorem add_low2 (k : Nat) (x y : T k) : add (k + 1) (emb k x) (emb k y) = emb k (add k x y) := by
  show (add k (zero k) (zero k), add k x y) = (zero k, add k x y)
  rw [add_zero]
theorem trs_low (k n : Nat) (x : T k) : trs (k + 1) n (emb k x) = emb k (trs k n x) := by
  induction n with
  | zero => rfl
  | succ n ih => simp only [trs]; rw [ih, sqn_low, add_low2]
theorem one_ne (k : Nat) : one k ≠ zero k := by
  induction k with
  | zero => intro h; cases h
  | succ k ih => intro h; exact ih (Prod.mk.inj h).2
/-- The trace of a square is that of what is squared. -/
theorem trs_sq (k : Nat) (a : T k) : trs k (2 ^ k) (mul k a a) = trs k (2 ^ k) a := by
  have h1 := trs_split k 1 (2 ^ k) a
  have h2 := trs_split k (2 ^ k) 1 a
  rw [Nat.add_comm] at h2
  rw [h1] at h2
  rw [frob] at h2
  have e : ∀ b : T k, trs k 1 b = b := fun b => zero_add k b
  have e1 : sqn k 1 a = mul k a a := rfl
  rw [e, e1, add_comm k (trs k (2 ^ k) a)] at h2
  have h3 := congrArg (add k a) h2
  rwa [add_self_left, add_self_left] at h3
/-- Where an inverse of the generator has the trace 1, the generator of the level above is not fixed. -/
theorem gen_moves (k : Nat) (U : T k) (hU : mul k (gen k) U = one k) (ht : trs k (2 ^ k) U = one k) : sqn (k + 1) (2 ^ k) (gen (k + 1)) = add (k + 1) (gen (k + 1)) (emb k (gen k)) := by
  have fix : ∀ x : T k, sqn (k + 1) (2 ^ k) (emb k x) = emb k x := fun x => by rw [sqn_low, frob]
  have h1 := congrArg (sqn (k + 1) (2 ^ k)) (gen_sq k)
  rw [sqn_mul, sqn_add, sqn_mul, fix, sqn_one] at h1
  rcases two_roots (k + 1) (gen (k + 1)) (emb k (gen k)) _ (gen_sq k) h1 with h | h
  · exfalso
    obtain ⟨y, hy⟩ : ∃ y, y = mul (k + 1) (emb k U) (gen (k + 1)) := ⟨_, rfl⟩
    have e2 : mul (k + 1) y y = add (k + 1) y (emb k (mul k U U)) := by
      rw [hy, mul_assoc, mul_comm (k + 1) (gen (k + 1)) (mul (k + 1) (emb k U) (gen (k + 1))), mul_assoc, gen_sq, mul_add, mul_add, mul_one, ← mul_assoc (k + 1) (emb k U) (emb k (gen k)), mul_low2, mul_comm k U (gen k), hU]
      have e3 : emb k (one k) = one (k + 1) := rfl
      rw [e3, one_mul, mul_low2]
    have e4 : ∀ n, sqn (k + 1) n y = add (k + 1) y (emb k (trs k n (mul k U U))) := by
      intro n
      induction n with
      | zero => exact (add_zero (k + 1) y).symm
      | succ n ih =>
        show sqn (k + 1) n (mul (k + 1) y y) = _
        rw [e2, sqn_add, ih, sqn_low, add_assoc, add_low2]
        rfl
    have e5 := e4 (2 ^ k)
    rw [trs_sq, ht] at e5
    have e6 : sqn (k + 1) (2 ^ k) y = y := by rw [hy, sqn_mul, fix, h]
    rw [e6] at e5
    have e7 := congrArg (add (k + 1) y) e5
    rw [add_self, add_self_left] at e7
    exact one_ne (k + 1) e7.symm
  · exact h
/-- The generator and its inverse have the trace 1. -/
theorem gen_traces (k : Nat) : trs k (2 ^ k) (gen k) = one k ∧ ∃ U, mul k (gen k) U = one k ∧ trs k (2 ^ k) U = one k := by
  induction k with
  | zero => exact ⟨rfl, true, rfl, rfl⟩
  | succ k ih =>
    obtain ⟨h1, U, hU, ht⟩ := ih
    have hm := gen_moves k U hU ht
    have fix : ∀ x : T k, sqn (k + 1) (2 ^ k) (emb k x) = emb k x := fun x => by rw [sqn_low, frob]
    have hl : trs (k + 1) (2 ^ k) (emb k (gen k)) = one (k + 1) := by rw [trs_low, h1]; rfl
    have hp : 2 ^ (k + 1) = 2 ^ k + 2 ^ k := by rw [Nat.pow_succ]; omega
    refine ⟨?_, add (k + 1) (gen (k + 1)) (emb k (gen k)), ?_, ?_⟩
    · rw [hp, trs_split, hm, trs_add, add_self_left, hl]
    · rw [mul_add, gen_sq, mul_comm (k + 1) (gen (k + 1)), add_comm (k + 1) _ (one (k + 1)), add_assoc, add_self, add_zero]
    · rw [hp, trs_split, sqn_add, hm, fix, add_assoc, add_self, add_zero, trs_add, add_assoc, add_comm (k + 1) _ (trs (k + 1) (2 ^ k) (gen (k + 1))), add_self_left, hl]
/-- What is fixed is of the level below. -/
theorem fixed_low (k : Nat) (a : T (k + 1)) (h : sqn (k + 1) (2 ^ k) a = a) : a = emb k a.2 := by
  obtain ⟨_, U, hU, ht⟩ := gen_traces k
  have hm := gen_moves k U hU ht
  have fix : ∀ x : T k, sqn (k + 1) (2 ^ k) (emb k x) = emb k x := fun x => by rw [sqn_low, frob]
  have hp := pair_eq k a
  rw [← hp, sqn_add, sqn_mul, fix, fix, hm, mul_add, add_assoc] at h
  have h2 := congrArg (add (k + 1) (mul (k + 1) (emb k a.1) (gen (k + 1)))) h
  rw [add_self_left, add_self_left, mul_low2] at h2
  have h3 := congrArg (add (k + 1) (emb k a.2)) h2
  rw [add_comm (k + 1) (emb k (mul k a.1 (gen k))), add_self_left, add_self] at h3
  have h4 : mul k a.1 (gen k) = zero k := emb_inj (k := k) h3
  have h5 : mul k (mul k a.1 (gen k)) U = mul k (zero k) U := by rw [h4]
  rw [mul_assoc, hU, mul_one, mul_comm, mul_zero] at h5
  exact Prod.ext h5 rfl
theorem sqn_more (k m : Nat) (a : T k) (h : sqn k m a = a) (n : Nat) : sqn k (m * n) a = a := by
  induction n with
  | zero => rfl
  | succ n ih => rw [Nat.mul_succ, ← sqn_sqn, ih, h]
theorem fixed_levels (j i : Nat) : ∀ b : T (j + i), sqn (j + i) (2 ^ j) b = b → enc (j + i) b < 2 ^ 2 ^ j := by
  induction i with
  | zero => intro b _; exact enc_lt _ _
  | succ i ih =>
    intro b hb
    have h1 : sqn (j + i + 1) (2 ^ (j + i)) b = b := by
      rw [Nat.pow_add]
      exact sqn_more _ _ _ hb _
    have h2 := fixed_low (j + i) b h1
    have h3 : enc (j + i + 1) b = enc (j + i) b.2 := by
      rw [h2, enc_low]; rfl
    have h4 : sqn (j + i) (2 ^ j) b.2 = b.2 := by
      have h5 : sqn (j + i + 1) (2 ^ j) b = b := hb
      rw [h2, sqn_low] at h5
      exact emb_inj h5
    show enc (j + i + 1) b < _
    rw [h3]
    exact ih _ h4
end Tw
end Go.Proofs.Ytjdfbjdbfncofaa

/- A law for a range over a function whose iterator keeps one block of its own that it writes between two rounds (over any program). -/
namespace Go.Proofs.Ytjdfbjdbfncofaa
open Go.RowKit Go.Shelf

/-- The blocks of C lie as they lay. -/
structure Kept (C : Nat → Prop) (A B : World) : Prop where
  size : A.heap.size ≤ B.heap.size
  same : ∀ k, C k → k < A.heap.size → B.heap[k]? = A.heap[k]?
theorem Kept.refl (C : Nat → Prop) (A : World) : Kept C A A := ⟨Nat.le_refl _, fun _ _ _ => rfl⟩
theorem Kept.trans {C : Nat → Prop} {A B D : World} (h : Kept C A B) (k : Kept C B D) : Kept C A D := ⟨Nat.le_trans h.size k.size, fun i hc hi => (k.same i hc (Nat.lt_of_lt_of_le hi h.size)).trans (h.same i hc hi)⟩
theorem Kept.below {C : Nat → Prop} {A B : World} (h : Below A.heap.size A B) : Kept C A B := ⟨h.size, fun k _ hk => h.block k hk⟩
theorem Kept.less {C D : Nat → Prop} {A B : World} (h : Kept C A B) (e : ∀ k, D k → C k) : Kept D A B := ⟨h.size, fun k hk => h.same k (e k hk)⟩
theorem Kept.set {C : Nat → Prop} (A : World) (b o : Nat) (v : Value) (hn : ¬ C b) : Kept C A (A.setCell ⟨b, o, none⟩ v) := ⟨by simp [World.setCell], fun k hc _ => Below.heap_setCell _ _ _ k (fun e => hn (by rw [← show k = b from e]; exact hc))⟩
theorem Kept.put {C : Nat → Prop} (A : World) (l : Nat) (o : Obj) (hn : ¬ C l) : Kept C A (A.putObj l o) := ⟨by simp [World.putObj], fun k hc _ => World.putObj_heap_other (fun e => hn (by rw [← e]; exact hc))⟩

/-- What an iterator does between two rounds: what lies below n lies as it lay, and of the rest only block q may have turned. -/
structure Priv (n q : Nat) (A B : World) : Prop where
  b : Below n A B
  o : ∀ k, k < A.heap.size → k ≠ q → B.heap[k]? = A.heap[k]?
theorem Priv.refl (n q : Nat) (A : World) : Priv n q A A := ⟨Below.refl _ _, fun _ _ _ => rfl⟩
theorem Priv.trans {n q : Nat} {A B D : World} (h : Priv n q A B) (k : Priv n q B D) : Priv n q A D := ⟨h.b.trans k.b, fun i hi hq => (k.o i (Nat.lt_of_lt_of_le hi h.b.size) hq).trans (h.o i hi hq)⟩
theorem Priv.below {n q : Nat} {A B : World} (h : Below A.heap.size A B) (hn : n ≤ A.heap.size) : Priv n q A B := ⟨h.mono hn, fun k hk _ => h.block k hk⟩
theorem Priv.set {n q : Nat} (A : World) (o : Nat) (v : Value) (hn : n ≤ q) : Priv n q A (A.setCell ⟨q, o, none⟩ v) := ⟨(Below.refl _ _).setCell (p := ⟨q, o, none⟩) hn _, fun k _ hk => Below.heap_setCell _ _ _ k (fun e => hk e)⟩

/-- An iterator that yields the list xs, and keeps one block of its own, which it may write: for every J that abides its steps. Cap: the blocks that it reads. -/
def SeqPriv {α : Type} (F : Fence) (n : Nat) (P : Program) (g : Nat) (lb : Array Value) (encs : α → Array Value) (Cap : Nat → Prop) (xs : List α) (w : World) : Prop :=
  ∀ (l : Nat) (J : Nat → List α → World → Prop) (W : World), Below w.heap.size w W →
    (∀ q pre A B, W.heap.size ≤ q → J q pre A → Priv W.heap.size q A B → J q pre B) →
    (∀ q pre x A, W.heap.size ≤ q → q < A.heap.size → pre.length < xs.length → J q pre A → YieldAt F (n - 1) P l (encs x) A fun e B => e = .returned (.bool true) ∧ J q (pre ++ [x]) B ∧ Kept (fun k => k = q ∨ Cap k) A B) →
    (∀ q A, W.heap.size ≤ q → Below W.heap.size W A → J q [] A) →
    CallsIn F n P g (#[.func (.yield l) #[] #[]] ++ lb) W fun e B => (∃ v, e = .returned v) ∧ ∃ q, W.heap.size ≤ q ∧ J q xs B

variable {F : Fence} {n : Nat} {P : Program}

/-- The blocks that a round may not turn: the iterator's own, those that it reads, the loop's record and that of its deferred calls. -/
def Held (q d : Nat) (Cap : Nat → Prop) (k : Nat) : Prop := (k = q ∨ Cap k) ∨ k = d ∨ k = d + 1

theorem rangePriv {α : Type} {g : Operand} {ps : Array Tmp} {assign body : Code} {Q : Exit → Act → World → Prop} {a : Act} {w : World}
    (hro : F.round = none) (h1 : 1 ≤ n) {gf : Nat} {lb : Array Value} (hg : a.eval g = .func (.func gf) #[] lb) (hFg : F.fn gf) (eg : Enters P gf)
    {encs : α → Array Value} (hps : ∀ x, (encs x).size = ps.size) {Cap : Nat → Prop} (hC : ∀ k, Cap k → k < w.heap.size) {xs : List α} (hseq : SeqPriv F (n - 1) P gf lb encs Cap xs w)
    (I : Nat → List α → World → Prop)
    (hI : ∀ q pre A B, w.heap.size + 2 ≤ q → I q pre A → Below w.heap.size A B → (∀ k, k < A.heap.size → k ≠ q → k ≠ w.heap.size → k ≠ w.heap.size + 1 → B.heap[k]? = A.heap[k]?) → I q pre B)
    (h0 : ∀ q A, w.heap.size + 2 ≤ q → Below w.heap.size w A → I q [] A)
    (hround : ∀ l q pre x W, w.heap.size + 2 ≤ q → q < W.heap.size → pre.length < xs.length → I q pre W → assign.wpIn (F.inRound l) (n - 1 - 1) P
      (Exit.then (fun a' W' => Kept (Held q w.heap.size Cap) W W' ∧ ∀ o, body.wpIn (F.inRound l) (n - 1 - 1) P (fun e _ W'' => e = .normal ∧ Kept (Held q w.heap.size Cap) (W'.putObj (w.heap.size + 1) o) W'' ∧ I q (pre ++ [x]) W'') a' (W'.putObj (w.heap.size + 1) o)) (fun _ _ _ => False))
      { tmps := (ps.zip (encs x)).foldl (fun t (p, v) => t.setIfInBounds p v) a.tmps, defers := [] } W)
    (hdone : ∀ q W, w.heap.size + 2 ≤ q → I q xs W → W.heap[w.heap.size]? = some (.deferred (some [])) → Q .normal { a with defers := { target := .collected w.heap.size, args := #[] } :: a.defers } W) :
    (Code.rangeFunc g ps assign body).wpIn F n P Q a w := by
  refine wpIn_rangeFunc ?_
  intro fn hfn
  rw [hro]
  obtain ⟨r0, hr0⟩ : ∃ r0 : Loop, r0 = { state := .ready, pending := none, fn, tmps := a.tmps, params := ps, assign, body, defers := w.heap.size } := ⟨_, rfl⟩
  obtain ⟨W1, hW1⟩ : ∃ W1, W1 = (w.alloc (.deferred (some []))).alloc (.loop r0) := ⟨_, rfl⟩
  have hb1 : Below w.heap.size w W1 := by rw [hW1]; exact ((Below.refl _ w).alloc (Nat.le_refl _) _).alloc (by simp) _
  have hs1 : W1.heap.size = w.heap.size + 2 := by rw [hW1]; simp
  have hL1 : W1.heap[w.heap.size + 1]? = some (.loop r0) := by
    rw [hW1]; have := World.alloc_heap_new (w.alloc (.deferred (some []))) (.loop r0); rwa [World.size_alloc] at this
  have hD1 : W1.heap[w.heap.size]? = some (.deferred (some [])) := by
    rw [hW1]; exact (Below.heap_alloc _ _ _ (by simp)).trans (World.alloc_heap_new w _)
  refine ⟨w.heap.size + 1, [{ target := .collected w.heap.size, args := #[] }], W1, { target := .fn (.func gf) lb, args := #[.func (.yield (w.heap.size + 1)) #[] #[]] }, W1, gf, #[.func (.yield (w.heap.size + 1)) #[] #[]] ++ lb, W1, ?_, ?_, ?_, ?_, fun _ => h1, ?_⟩
  · rw [hW1, hr0]; exact run_enterLoop_outer _ _ _ _ _
  · simp only [resolve, hg]
    simp [go_sem]
  · intro f' hf'; simp [Target.leads] at hf'; subst hf'; exact hFg
  · simp only [invoke, go_sem]
    exact eg _ _
  · refine (hseq (w.heap.size + 1) (fun q pre W => I q pre W ∧ W.heap[w.heap.size + 1]? = some (.loop r0) ∧ W.heap[w.heap.size]? = some (.deferred (some []))) W1 hb1 ?_ ?_ ?_).mono ?_
    · rintro q pre A B hq ⟨i, hl, hd⟩ hp
      exact ⟨hI q pre A B (by omega) i (hp.b.mono (by omega)) (fun k hk hkq _ _ => hp.o k hk hkq), (hp.b.block _ (by omega)).trans hl, (hp.b.block _ (by omega)).trans hd⟩
    · rintro q pre x A hq hqA hln ⟨i, hl, hd⟩
      have hlA : w.heap.size + 1 < A.heap.size := (Array.getElem?_eq_some_iff.1 hl).1
      have hy := run_yield (P := P) (args := encs x) hl (by rw [hr0]; exact hps x)
      rw [hr0] at hy
      refine ⟨fn, _, assign, body, hy, roundIn_of_wpIn hfn (wpIn_mono (hround (w.heap.size + 1) q pre x A (by omega) hqA hln i) ?_)⟩
      rintro e a' W' hp
      cases e with
      | normal =>
        obtain ⟨kp, hbd⟩ := hp
        have hl' := (kp.same (w.heap.size + 1) (Or.inr (Or.inr rfl)) hlA).trans hl
        have hd' := (kp.same w.heap.size (Or.inr (Or.inl rfl)) (by omega)).trans hd
        refine ⟨_, run_beginRound hl' (by rw [hr0]), wpIn_mono (hbd _) ?_⟩
        rintro e2 a2 W2 ⟨rfl, kp2, i2⟩
        have hsz' : (W'.putObj (w.heap.size + 1) (.loop { r0 with state := .busy })).heap.size = W'.heap.size := by simp [World.putObj]
        have hl2 : W2.heap[w.heap.size + 1]? = some (.loop { r0 with state := .busy }) := (kp2.same _ (Or.inr (Or.inr rfl)) (by rw [hsz']; exact Nat.lt_of_lt_of_le hlA kp.size)).trans (World.putObj_heap_same (Nat.lt_of_lt_of_le hlA kp.size))
        have hd2 : W2.heap[w.heap.size]? = some (.deferred (some [])) := ((kp2.same _ (Or.inr (Or.inl rfl)) (by rw [hsz']; have := kp.size; omega)).trans (World.putObj_heap_other (by omega))).trans hd'
        have hr := run_endRound (P := P) none hl2
        refine ⟨_, _, hr, rfl, ⟨hI q _ _ _ (by omega) i2 ?_ ?_, ?_, ?_⟩, ?_⟩
        · exact (Below.refl _ _).grown (grownBy_putObj' _ _ _) (by have := (Array.getElem?_eq_some_iff.1 hl2).1; omega) (fun k e => by cases e; omega)
        · intro k hk _ _ hk1
          exact World.putObj_heap_other hk1
        · rw [World.putObj_heap_same (Array.getElem?_eq_some_iff.1 hl2).1, hr0]; rfl
        · exact (World.putObj_heap_other (by omega)).trans hd2
        · have nC : ∀ k, (k = q ∨ Cap k) → k ≠ w.heap.size + 1 := fun k hk => by
            rcases hk with rfl | hk
            · omega
            · have := hC k hk; omega
          exact ((kp.less fun k hk => Or.inl hk).trans (Kept.put _ _ _ fun h => nC _ h rfl)).trans ((kp2.less fun k hk => Or.inl hk).trans (Kept.put _ _ _ fun h => nC _ h rfl))
      | ret => exact hp.elim
      | exit id => exact hp.elim
      | goto t => exact hp.elim
      | panic ch => exact hp.elim
      | outgrown => exact hp.elim
    · intro q A hq hA
      exact ⟨h0 q A (by omega) (hb1.trans (hA.mono (by omega))), (hA.block _ (by omega)).trans hL1, (hA.block _ (by omega)).trans hD1⟩
    · rintro e W2 ⟨⟨v, rfl⟩, q, hq, i, hl, hd⟩
      have hr := run_endLoop (P := P) hl (by rw [hr0]; simp)
      rw [hr0] at hr
      refine ⟨none, _, hr, hdone q _ (by omega) (hI q _ _ _ (by omega) i ?_ ?_) ?_⟩
      · exact (Below.refl _ _).grown (grownBy_putObj' _ _ _) (by have := (Array.getElem?_eq_some_iff.1 hl).1; omega) (fun k e => by cases e; omega)
      · intro k hk _ _ hk1
        exact World.putObj_heap_other hk1
      · exact (World.putObj_heap_other (by omega)).trans hd
end Go.Proofs.Ytjdfbjdbfncofaa
