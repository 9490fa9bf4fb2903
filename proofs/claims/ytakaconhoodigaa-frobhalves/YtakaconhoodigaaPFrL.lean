/- Squares of squares, no Go in sight: what is fixed by them is of the level below; traces and norms. -/
import Derived.Test.YtakaconhoodigaaCbA
import Derived.RangeFuncNested
import Derived.RangeFuncBound
import Derived.RangeFuncCalls
import Derived.RangeFuncLeaves
import Derived.Shelf.Abstract
import Derived.Shelf.RegionOpen
import Derived.WalkKit
import Derived.OwnWalkIn
import Derived.TacticsInMore
import Derived.LoopNIn
import Derived.LoopIn
namespace Go.Proofs.Ytakaconhoodigaa
namespace Tw
/-- The sum of the first n squares of squares. -/
def trs (k : Nat) : Nat → T k → T k
  | 0, _ => zero k
  | n + 1, a => add k (trs k n a) (sqn k n a)
theorem sqn_zero' (k n : Nat) : sqn k n (zero k) = zero k := by
  have h := sqn_add k n (zero k) (zero k)
  rw [add_self, add_self] at h
  exact h
theorem trs_add (k n : Nat) (a b : T k) : trs k n (add k a b) = add k (trs k n a) (trs k n b) := by
  induction n with
  | zero => exact (add_zero k _).symm
  | succ n ih =>
    simp only [trs]
    rw [ih, sqn_add, add_assoc, add_assoc, add_left_comm k (trs k n b)]
theorem trs_split (k m n : Nat) (a : T k) : trs k (m + n) a = add k (trs k m a) (trs k n (sqn k m a)) := by
  induction n with
  | zero => exact (add_zero k _).symm
  | succ n ih =>
    rw [show m + (n + 1) = m + n + 1 by omega]
    simp only [trs]
    rw [ih, sqn_sqn, add_assoc]
theorem add_low2 (k : Nat) (x y : T k) : add (k + 1) (emb k x) (emb k y) = emb k (add k x y) := by
  show (add k (zero k) (zero k), add k x y) = (zero k, add k x y)
  rw [add_zero]
theorem trs_low (k n : Nat) (x : T k) : trs (k + 1) n (emb k x) = emb k (trs k n x) := by
  induction n with
  | zero => rfl
  | succ n ih => simp only [trs]; rw [ih, sqn_low, add_low2]
theorem one_ne (k : Nat) : one k ≠ zero k := by
  induction k with
  | zero => intro h; cases h
  | succ k ih => intro h; exact ih (Prod.mk.inj h).2
/-- The trace of a square is that of what is squared. -/
theorem trs_sq (k : Nat) (a : T k) : trs k (2 ^ k) (mul k a a) = trs k (2 ^ k) a := by
  have h1 := trs_split k 1 (2 ^ k) a
  have h2 := trs_split k (2 ^ k) 1 a
  rw [Nat.add_comm] at h2
  rw [h1] at h2
  rw [frob] at h2
  have e : ∀ b : T k, trs k 1 b = b := fun b => zero_add k b
  have e1 : sqn k 1 a = mul k a a := rfl
  rw [e, e1, add_comm k (trs k (2 ^ k) a)] at h2
  have h3 := congrArg (add k a) h2
  rwa [add_self_left, add_self_left] at h3
/-- Where an inverse of the generator has the trace 1, the generator of the level above is not fixed. -/
theorem gen_moves (k : Nat) (U : T k) (hU : mul k (gen k) U = one k) (ht : trs k (2 ^ k) U = one k) : sqn (k + 1) (2 ^ k) (gen (k + 1)) = add (k + 1) (gen (k + 1)) (emb k (gen k)) := by
  have fix : ∀ x : T k, sqn (k + 1) (2 ^ k) (emb k x) = emb k x := fun x => by rw [sqn_low, frob]
  have h1 := congrArg (sqn (k + 1) (2 ^ k)) (gen_sq k)
  rw [sqn_mul, sqn_add, sqn_mul, fix, sqn_one] at h1
  rcases two_roots (k + 1) (gen (k + 1)) (emb k (gen k)) _ (gen_sq k) h1 with h | h
  · exfalso
    obtain ⟨y, hy⟩ : ∃ y, y = mul (k + 1) (emb k U) (gen (k + 1)) := ⟨_, rfl⟩
    have e2 : mul (k + 1) y y = add (k + 1) y (emb k (mul k U U)) := by
      rw [hy, mul_assoc, mul_comm (k + 1) (gen (k + 1)) (mul (k + 1) (emb k U) (gen (k + 1))), mul_assoc, gen_sq, mul_add, mul_add, mul_one, ← mul_assoc (k + 1) (emb k U) (emb k (gen k)), mul_low2, mul_comm k U (gen k), hU]
      have e3 : emb k (one k) = one (k + 1) := rfl
      rw [e3, one_mul, mul_low2]
    have e4 : ∀ n, sqn (k + 1) n y = add (k + 1) y (emb k (trs k n (mul k U U))) := by
      intro n
      induction n with
      | zero => exact (add_zero (k + 1) y).symm
      | succ n ih =>
        show sqn (k + 1) n (mul (k + 1) y y) = _
        rw [e2, sqn_add, ih, sqn_low, add_assoc, add_low2]
        rfl
    have e5 := e4 (2 ^ k)
    rw [trs_sq, ht] at e5
    have e6 : sqn (k + 1) (2 ^ k) y = y := by rw [hy, sqn_mul, fix, h]
    rw [e6] at e5
    have e7 := congrArg (add (k + 1) y) e5
    rw [add_self, add_self_left] at e7
    exact one_ne (k + 1) e7.symm
  · exact h
/-- The generator and its inverse have the trace 1. -/
theorem gen_traces (k : Nat) : trs k (2 ^ k) (gen k) = one k ∧ ∃ U, mul k (gen k) U = one k ∧ trs k (2 ^ k) U = one k := by
  induction k with
  | zero => exact ⟨rfl, true, rfl, rfl⟩
  | succ k ih =>
    obtain ⟨h1, U, hU, ht⟩ := ih
    have hm := gen_moves k U hU ht
    have fix : ∀ x : T k, sqn (k + 1) (2 ^ k) (emb k x) = emb k x := fun x => by rw [sqn_low, frob]
    have hl : trs (k + 1) (2 ^ k) (emb k (gen k)) = one (k + 1) := by rw [trs_low, h1]; rfl
    have hp : 2 ^ (k + 1) = 2 ^ k + 2 ^ k := by rw [Nat.pow_succ]; omega
    refine ⟨?_, add (k + 1) (gen (k + 1)) (emb k (gen k)), ?_, ?_⟩
    · rw [hp, trs_split, hm, trs_add, add_self_left, hl]
    · rw [mul_add, gen_sq, mul_comm (k + 1) (gen (k + 1)), add_comm (k + 1) _ (one (k + 1)), add_assoc, add_self, add_zero]
    · rw [hp, trs_split, sqn_add, hm, fix, add_assoc, add_self, add_zero, trs_add, add_assoc, add_comm (k + 1) _ (trs (k + 1) (2 ^ k) (gen (k + 1))), add_self_left, hl]
/-- What is fixed is of the level below. -/
theorem fixed_low (k : Nat) (a : T (k + 1)) (h : sqn (k + 1) (2 ^ k) a = a) : a = emb k a.2 := by
  obtain ⟨_, U, hU, ht⟩ := gen_traces k
  have hm := gen_moves k U hU ht
  have fix : ∀ x : T k, sqn (k + 1) (2 ^ k) (emb k x) = emb k x := fun x => by rw [sqn_low, frob]
  have hp := pair_eq k a
  rw [← hp, sqn_add, sqn_mul, fix, fix, hm, mul_add, add_assoc] at h
  have h2 := congrArg (add (k + 1) (mul (k + 1) (emb k a.1) (gen (k + 1)))) h
  rw [add_self_left, add_self_left, mul_low2] at h2
  have h3 := congrArg (add (k + 1) (emb k a.2)) h2
  rw [add_comm (k + 1) (emb k (mul k a.1 (gen k))), add_self_left, add_self] at h3
  have h4 : mul k a.1 (gen k) = zero k := emb_inj (k := k) h3
  have h5 : mul k (mul k a.1 (gen k)) U = mul k (zero k) U := by rw [h4]
  rw [mul_assoc, hU, mul_one, mul_comm, mul_zero] at h5
  exact Prod.ext h5 rfl
theorem sqn_more (k m : Nat) (a : T k) (h : sqn k m a = a) (n : Nat) : sqn k (m * n) a = a := by
  induction n with
  | zero => rfl
  | succ n ih => rw [Nat.mul_succ, ← sqn_sqn, ih, h]
theorem fixed_levels (j i : Nat) : ∀ b : T (j + i), sqn (j + i) (2 ^ j) b = b → enc (j + i) b < 2 ^ 2 ^ j := by
  induction i with
  | zero => intro b _; exact enc_lt _ _
  | succ i ih =>
    intro b hb
    have h1 : sqn (j + i + 1) (2 ^ (j + i)) b = b := by
      rw [Nat.pow_add]
      exact sqn_more _ _ _ hb _
    have h2 := fixed_low (j + i) b h1
    have h3 : enc (j + i + 1) b = enc (j + i) b.2 := by
      rw [h2, enc_low]; rfl
    have h4 : sqn (j + i) (2 ^ j) b.2 = b.2 := by
      have h5 : sqn (j + i + 1) (2 ^ j) b = b := hb
      rw [h2, sqn_low] at h5
      exact emb_inj h5
    show enc (j + i + 1) b < _
    rw [h3]
    exact ih _ h4
end Tw
end Go.Proofs.Ytakaconhoodigaa

/- A law for a range over a function whose iterator keeps one block of its own that it writes between two rounds (over any program). -/
namespace Go.Proofs.Ytakaconhoodigaa
open Go.RowKit Go.Shelf

/-- The blocks of C lie as they lay. -/
structure Kept (C : Nat → Prop) (A B : World) : Prop where
  size : A.heap.size ≤ B.heap.size
  same : ∀ k, C k → k < A.heap.size → B.heap[k]? = A.heap[k]?
theorem Kept.refl (C : Nat → Prop) (A : World) : Kept C A A := ⟨Nat.le_refl _, fun _ _ _ => rfl⟩
theorem Kept.trans {C : Nat → Prop} {A B D : World} (h : Kept C A B) (k : Kept C B D) : Kept C A D := ⟨Nat.le_trans h.size k.size, fun i hc hi => (k.same i hc (Nat.lt_of_lt_of_le hi h.size)).trans (h.same i hc hi)⟩
theorem Kept.below {C : Nat → Prop} {A B : World} (h : Below A.heap.size A B) : Kept C A B := ⟨h.size, fun k _ hk => h.block k hk⟩
theorem Kept.less {C D : Nat → Prop} {A B : World} (h : Kept C A B) (e : ∀ k, D k → C k) : Kept D A B := ⟨h.size, fun k hk => h.same k (e k hk)⟩
theorem Kept.set {C : Nat → Prop} (A : World) (b o : Nat) (v : Value) (hn : ¬ C b) : Kept C A (A.setCell ⟨b, o, none⟩ v) := ⟨by simp [World.setCell], fun k hc _ => Below.heap_setCell _ _ _ k (fun e => hn (by rw [← show k = b from e]; exact hc))⟩
theorem Kept.put {C : Nat → Prop} (A : World) (l : Nat) (o : Obj) (hn : ¬ C l) : Kept C A (A.putObj l o) := ⟨by simp [World.putObj], fun k hc _ => World.putObj_heap_other (fun e => hn (by rw [← e]; exact hc))⟩

/-- What an iterator does between two rounds: what lies below n lies as it lay, and of the rest only block q may have turned. -/
structure Priv (n q : Nat) (A B : World) : Prop where
  b : Below n A B
  o : ∀ k, k < A.heap.size → k ≠ q → B.heap[k]? = A.heap[k]?
theorem Priv.refl (n q : Nat) (A : World) : Priv n q A A := ⟨Below.refl _ _, fun _ _ _ => rfl⟩
theorem Priv.trans {n q : Nat} {A B D : World} (h : Priv n q A B) (k : Priv n q B D) : Priv n q A D := ⟨h.b.trans k.b, fun i hi hq => (k.o i (Nat.lt_of_lt_of_le hi h.b.size) hq).trans (h.o i hi hq)⟩
theorem Priv.below {n q : Nat} {A B : World} (h : Below A.heap.size A B) (hn : n ≤ A.heap.size) : Priv n q A B := ⟨h.mono hn, fun k hk _ => h.block k hk⟩
theorem Priv.set {n q : Nat} (A : World) (o : Nat) (v : Value) (hn : n ≤ q) : Priv n q A (A.setCell ⟨q, o, none⟩ v) := ⟨(Below.refl _ _).setCell (p := ⟨q, o, none⟩) hn _, fun k _ hk => Below.heap_setCell _ _ _ k (fun e => hk e)⟩

/-- An iterator that yields the list xs, and keeps one block of its own, which it may write: for every J that abides its steps. Cap: the blocks that it reads. -/
def SeqPriv {α : Type} (F : Fence) (n : Nat) (P : Program) (g : Nat) (lb : Array Value) (encs : α → Array Value) (Cap : Nat → Prop) (xs : List α) (w : World) : Prop :=
  ∀ (l : Nat) (J : Nat → List α → World → Prop) (W : World), Below w.heap.size w W →
    (∀ q pre A B, W.heap.size ≤ q → J q pre A → Priv W.heap.size q A B → J q pre B) →
    (∀ q pre x A, W.heap.size ≤ q → q < A.heap.size → pre.length < xs.length → J q pre A → YieldAt F (n - 1) P l (encs x) A fun e B => e = .returned (.bool true) ∧ J q (pre ++ [x]) B ∧ Kept (fun k => k = q ∨ Cap k) A B) →
    (∀ q A, W.heap.size ≤ q → Below W.heap.size W A → J q [] A) →
    CallsIn F n P g (#[.func (.yield l) #[] #[]] ++ lb) W fun e B => (∃ v, e = .returned v) ∧ ∃ q, W.heap.size ≤ q ∧ J q xs B

variable {F : Fence} {n : Nat} {P : Program}

/-- The blocks that a round may not turn: the iterator's own, those that it reads, the loop's record and that of its deferred calls. -/
def Held (q d : Nat) (Cap : Nat → Prop) (k : Nat) : Prop := (k = q ∨ Cap k) ∨ k = d ∨ k = d + 1

theorem rangePriv {α : Type} {g : Operand} {ps : Array Tmp} {assign body : Code} {Q : Exit → Act → World → Prop} {a : Act} {w : World}
    (hro : F.round = none) (h1 : 1 ≤ n) {gf : Nat} {lb : Array Value} (hg : a.eval g = .func (.func gf) #[] lb) (hFg : F.fn gf) (eg : Enters P gf)
    {encs : α → Array Value} (hps : ∀ x, (encs x).size = ps.size) {Cap : Nat → Prop} (hC : ∀ k, Cap k → k < w.heap.size) {xs : List α} (hseq : SeqPriv F (n - 1) P gf lb encs Cap xs w)
    (I : Nat → List α → World → Prop)
    (hI : ∀ q pre A B, w.heap.size + 2 ≤ q → I q pre A → Below w.heap.size A B → (∀ k, k < A.heap.size → k ≠ q → k ≠ w.heap.size → k ≠ w.heap.size + 1 → B.heap[k]? = A.heap[k]?) → I q pre B)
    (h0 : ∀ q A, w.heap.size + 2 ≤ q → Below w.heap.size w A → I q [] A)
    (hround : ∀ l q pre x W, w.heap.size + 2 ≤ q → q < W.heap.size → pre.length < xs.length → I q pre W → assign.wpIn (F.inRound l) (n - 1 - 1) P
      (Exit.then (fun a' W' => Kept (Held q w.heap.size Cap) W W' ∧ ∀ o, body.wpIn (F.inRound l) (n - 1 - 1) P (fun e _ W'' => e = .normal ∧ Kept (Held q w.heap.size Cap) (W'.putObj (w.heap.size + 1) o) W'' ∧ I q (pre ++ [x]) W'') a' (W'.putObj (w.heap.size + 1) o)) (fun _ _ _ => False))
      { tmps := (ps.zip (encs x)).foldl (fun t (p, v) => t.setIfInBounds p v) a.tmps, defers := [] } W)
    (hdone : ∀ q W, w.heap.size + 2 ≤ q → I q xs W → W.heap[w.heap.size]? = some (.deferred (some [])) → Q .normal { a with defers := { target := .collected w.heap.size, args := #[] } :: a.defers } W) :
    (Code.rangeFunc g ps assign body).wpIn F n P Q a w := by
  refine wpIn_rangeFunc ?_
  intro fn hfn
  rw [hro]
  obtain ⟨r0, hr0⟩ : ∃ r0 : Loop, r0 = { state := .ready, pending := none, fn, tmps := a.tmps, params := ps, assign, body, defers := w.heap.size } := ⟨_, rfl⟩
  obtain ⟨W1, hW1⟩ : ∃ W1, W1 = (w.alloc (.deferred (some []))).alloc (.loop r0) := ⟨_, rfl⟩
  have hb1 : Below w.heap.size w W1 := by rw [hW1]; exact ((Below.refl _ w).alloc (Nat.le_refl _) _).alloc (by simp) _
  have hs1 : W1.heap.size = w.heap.size + 2 := by rw [hW1]; simp
  have hL1 : W1.heap[w.heap.size + 1]? = some (.loop r0) := by
    rw [hW1]; have := World.alloc_heap_new (w.alloc (.deferred (some []))) (.loop r0); rwa [World.size_alloc] at this
  have hD1 : W1.heap[w.heap.size]? = some (.deferred (some [])) := by
    rw [hW1]; exact (Below.heap_alloc _ _ _ (by simp)).trans (World.alloc_heap_new w _)
  refine ⟨w.heap.size + 1, [{ target := .collected w.heap.size, args := #[] }], W1, { target := .fn (.func gf) lb, args := #[.func (.yield (w.heap.size + 1)) #[] #[]] }, W1, gf, #[.func (.yield (w.heap.size + 1)) #[] #[]] ++ lb, W1, ?_, ?_, ?_, ?_, fun _ => h1, ?_⟩
  · rw [hW1, hr0]; exact run_enterLoop_outer _ _ _ _ _
  · simp only [resolve, hg]
    simp [go_sem]
  · intro f' hf'; simp [Target.leads] at hf'; subst hf'; exact hFg
  · simp only [invoke, go_sem]
    exact eg _ _
  · refine (hseq (w.heap.size + 1) (fun q pre W => I q pre W ∧ W.heap[w.heap.size + 1]? = some (.loop r0) ∧ W.heap[w.heap.size]? = some (.deferred (some []))) W1 hb1 ?_ ?_ ?_).mono ?_
    · rintro q pre A B hq ⟨i, hl, hd⟩ hp
      exact ⟨hI q pre A B (by omega) i (hp.b.mono (by omega)) (fun k hk hkq _ _ => hp.o k hk hkq), (hp.b.block _ (by omega)).trans hl, (hp.b.block _ (by omega)).trans hd⟩
    · rintro q pre x A hq hqA hln ⟨i, hl, hd⟩
      have hlA : w.heap.size + 1 < A.heap.size := (Array.getElem?_eq_some_iff.1 hl).1
      have hy := run_yield (P := P) (args := encs x) hl (by rw [hr0]; exact hps x)
      rw [hr0] at hy
      refine ⟨fn, _, assign, body, hy, roundIn_of_wpIn hfn (wpIn_mono (hround (w.heap.size + 1) q pre x A (by omega) hqA hln i) ?_)⟩
      rintro e a' W' hp
      cases e with
      | normal =>
        obtain ⟨kp, hbd⟩ := hp
        have hl' := (kp.same (w.heap.size + 1) (Or.inr (Or.inr rfl)) hlA).trans hl
        have hd' := (kp.same w.heap.size (Or.inr (Or.inl rfl)) (by omega)).trans hd
        refine ⟨_, run_beginRound hl' (by rw [hr0]), wpIn_mono (hbd _) ?_⟩
        rintro e2 a2 W2 ⟨rfl, kp2, i2⟩
        have hsz' : (W'.putObj (w.heap.size + 1) (.loop { r0 with state := .busy })).heap.size = W'.heap.size := by simp [World.putObj]
        have hl2 : W2.heap[w.heap.size + 1]? = some (.loop { r0 with state := .busy }) := (kp2.same _ (Or.inr (Or.inr rfl)) (by rw [hsz']; exact Nat.lt_of_lt_of_le hlA kp.size)).trans (World.putObj_heap_same (Nat.lt_of_lt_of_le hlA kp.size))
        have hd2 : W2.heap[w.heap.size]? = some (.deferred (some [])) := ((kp2.same _ (Or.inr (Or.inl rfl)) (by rw [hsz']; have := kp.size; omega)).trans (World.putObj_heap_other (by omega))).trans hd'
        have hr := run_endRound (P := P) none hl2
        refine ⟨_, _, hr, rfl, ⟨hI q _ _ _ (by omega) i2 ?_ ?_, ?_, ?_⟩, ?_⟩
        · exact (Below.refl _ _).grown (grownBy_putObj' _ _ _) (by have := (Array.getElem?_eq_some_iff.1 hl2).1; omega) (fun k e => by cases e; omega)
        · intro k hk _ _ hk1
          exact World.putObj_heap_other hk1
        · rw [World.putObj_heap_same (Array.getElem?_eq_some_iff.1 hl2).1, hr0]; rfl
        · exact (World.putObj_heap_other (by omega)).trans hd2
        · have nC : ∀ k, (k = q ∨ Cap k) → k ≠ w.heap.size + 1 := fun k hk => by
            rcases hk with rfl | hk
            · omega
            · have := hC k hk; omega
          exact ((kp.less fun k hk => Or.inl hk).trans (Kept.put _ _ _ fun h => nC _ h rfl)).trans ((kp2.less fun k hk => Or.inl hk).trans (Kept.put _ _ _ fun h => nC _ h rfl))
      | ret => exact hp.elim
      | exit id => exact hp.elim
      | goto t => exact hp.elim
      | panic ch => exact hp.elim
      | outgrown => exact hp.elim
    · intro q A hq hA
      exact ⟨h0 q A (by omega) (hb1.trans (hA.mono (by omega))), (hA.block _ (by omega)).trans hL1, (hA.block _ (by omega)).trans hD1⟩
    · rintro e W2 ⟨⟨v, rfl⟩, q, hq, i, hl, hd⟩
      have hr := run_endLoop (P := P) hl (by rw [hr0]; simp)
      rw [hr0] at hr
      refine ⟨none, _, hr, hdone q _ (by omega) (hI q _ _ _ (by omega) i ?_ ?_) ?_⟩
      · exact (Below.refl _ _).grown (grownBy_putObj' _ _ _) (by have := (Array.getElem?_eq_some_iff.1 hl).1; omega) (fun k e => by cases e; omega)
      · intro k hk _ _ hk1
        exact World.putObj_heap_other hk1
      · exact (World.putObj_heap_other (by omega)).trans hd
end Go.Proofs.Ytakaconhoodigaa
