/- The contract of turn.Row over the seat's translation. -/
import Derived.Test.YtejoombhcnldmaaPTuH
import Derived.Deep.OwnRows
namespace Go.Proofs.Ytejoombhcnldmaa
open Go.RowKit
open Cb
open Tw (pm)

/-- A store into a row of one's own. -/
theorem own_setC {w : World} {base size g n cap : Nat} {T : TypeId} {xs : List Value} (h : w.ownsRow base T size (.slice (some ⟨g, 0, none⟩) n cap) n xs) (i : Nat) (u : Value) :
    (w.setCell ⟨g, i, none⟩ u).ownsRow base T size (.slice (some ⟨g, 0, none⟩) n cap) n (xs.set i u) := by
  obtain ⟨h1, h2⟩ := h
  refine ⟨by rw [List.length_set]; exact h1, ?_⟩
  rcases h2 with ⟨h3, _⟩ | ⟨g', cap', cur, e, hb, hg, hn, hm, hs, ht⟩
  · injection h3 with h4; cases h4
  · injection e with e1 e2 e3
    obtain rfl : g = g' := by injection e1 with e4; injection e4
    subst e3
    refine .inr ⟨g, cap, cur.setIfInBounds i u, rfl, hb, ?_, hn, hm, by simpa using hs, ?_⟩
    · simp [World.setCell, Array.getElem?_modify, hg]
    · rw [Array.toList_setIfInBounds, List.take_set, ht]
theorem own_cellC {w : World} {base size g n cap : Nat} {T : TypeId} {xs : List Value} (h : w.ownsRow base T size (.slice (some ⟨g, 0, none⟩) n cap) n xs) (i : Nat) (hi : i < n * size) :
    w.cell? ⟨g, i, none⟩ = xs[i]? ∧ w.frozen? ⟨g, i, none⟩ = false := by
  obtain ⟨h1, h2⟩ := h
  rcases h2 with ⟨h3, _⟩ | ⟨g', cap', cur, e, hb, hg, hn, hm, hs, ht⟩
  · injection h3 with h4; cases h4
  · injection e with e1 e2 e3
    obtain rfl : g = g' := by injection e1 with e4; injection e4
    subst ht
    have hlt : i < cur.size := by
      rw [hs]
      exact Nat.lt_of_lt_of_le hi (Nat.mul_le_mul_right _ hn)
    refine ⟨?_, by simp [World.frozen?, hg]⟩
    rw [List.getElem?_take_of_lt hi]
    simp [World.cell?, hg, hlt]
/-- The cells of rows. -/
def flatC (rs : List ((Nat × Nat) × (Nat × Nat))) : List Value := rs.flatMap fun r => [.int .u64 (r.1.1 : Nat), .int .u64 (r.1.2 : Nat), .int .u64 (r.2.1 : Nat), .int .u64 (r.2.2 : Nat)]
theorem flatC_len (rs : List ((Nat × Nat) × (Nat × Nat))) : (flatC rs).length = rs.length * 4 := by
  induction rs with
  | nil => rfl
  | cons r rs ih => simp only [flatC, List.flatMap_cons, List.length_append] at *; simp [ih]; omega
theorem flatC_at (rs : List ((Nat × Nat) × (Nat × Nat))) : ∀ m, m < rs.length → (flatC rs)[m * 4]? = some (.int .u64 ((rs.getD m ((0, 0), (0, 0))).1.1 : Nat)) ∧ (flatC rs)[m * 4 + 1]? = some (.int .u64 ((rs.getD m ((0, 0), (0, 0))).1.2 : Nat)) ∧ (flatC rs)[m * 4 + 2]? = some (.int .u64 ((rs.getD m ((0, 0), (0, 0))).2.1 : Nat)) ∧ (flatC rs)[m * 4 + 3]? = some (.int .u64 ((rs.getD m ((0, 0), (0, 0))).2.2 : Nat)) := by
  induction rs with
  | nil => intro m hm; simp at hm
  | cons r rs ih =>
    intro m hm
    cases m with
    | zero => simp [flatC]
    | succ m =>
      have := ih m (by simpa using hm)
      have e : ∀ k, (flatC (r :: rs))[(m + 1) * 4 + k]? = (flatC rs)[m * 4 + k]? := fun k => by
        simp only [flatC, List.flatMap_cons]
        rw [List.getElem?_append_right (by simp; omega)]
        congr 1
        simp; omega
      have e0 := e 0
      rw [Nat.add_zero, Nat.add_zero] at e0
      rw [e0, e, e, e]
      simpa using this
theorem flatC_set (rs : List ((Nat × Nat) × (Nat × Nat))) (r : (Nat × Nat) × (Nat × Nat)) : ∀ m, m < rs.length → ((((flatC rs).set (m * 4) (.int .u64 (r.1.1 : Nat))).set (m * 4 + 1) (.int .u64 (r.1.2 : Nat))).set (m * 4 + 2) (.int .u64 (r.2.1 : Nat))).set (m * 4 + 3) (.int .u64 (r.2.2 : Nat)) = flatC (rs.set m r) := by
  induction rs with
  | nil => intro m hm; simp at hm
  | cons x rs ih =>
    intro m hm
    cases m with
    | zero => simp [flatC]
    | succ m =>
      have := ih m (by simpa using hm)
      have e : ∀ (ys : List Value) k u, (([.int .u64 (x.1.1 : Nat), .int .u64 (x.1.2 : Nat), .int .u64 (x.2.1 : Nat), .int .u64 (x.2.2 : Nat)] : List Value) ++ ys).set ((m + 1) * 4 + k) u = [.int .u64 (x.1.1 : Nat), .int .u64 (x.1.2 : Nat), .int .u64 (x.2.1 : Nat), .int .u64 (x.2.2 : Nat)] ++ ys.set (m * 4 + k) u := fun ys k u => by
        rw [List.set_append_right _ _ (by simp; omega)]
        congr 2
        simp; omega
      have e0 := fun ys u => e ys 0 u
      simp only [Nat.add_zero] at e0
      simp only [flatC, List.flatMap_cons, List.set_cons_succ] at this ⊢
      rw [e0, e, e, e, this]
/-- Rows of one's own are rows in memory. -/
theorem flatC_snoc (rs : List ((Nat × Nat) × (Nat × Nat))) (r : (Nat × Nat) × (Nat × Nat)) : flatC (rs ++ [r]) = flatC rs ++ [.int .u64 (r.1.1 : Nat), .int .u64 (r.1.2 : Nat), .int .u64 (r.2.1 : Nat), .int .u64 (r.2.2 : Nat)] := by simp [flatC]
/-- make([]T, 1, n). -/
theorem wpList_make_one {P : Program} (w : World) {ops : Array Oper} {rest : List Oper} {o : Oper} {a : Act} {Q : Exit → Act → World → Prop}
    (hg : o.guard = none) (l c : Operand) (t : TypeId) (hop : o.op = Op.makeSlice t l c)
    (base : Nat) (e : TypeId) (i : TypeInfo) (z : Value) (size : Nat) (h1 : P.underlying t = some (.slice e)) (h2 : P.info? e = some i) (h3 : i.zero = some z) (h4 : i.size = size)
    (kl kc : IntKind) (C : Int) (n : Nat) (hl : a.eval l = .int kl 1) (hc : a.eval c = .int kc C) (hC : C = (n : Int)) (h0 : 1 ≤ n) (b2 : i.bytes * n ≤ 281474976710656) (b3 : n ≤ maxLen) (b4 : base ≤ w.heap.size)
    (hK : ∀ w' xs, w'.ownsRow base e size (.slice (some ⟨w.heap.size, 0, none⟩) 1 n) 1 xs → w.grownBy w' none → wpList P ops Q rest (a.put o.dst (.slice (some ⟨w.heap.size, 0, none⟩) 1 n)) w') :
    wpList P ops Q (o :: rest) a w := by
  refine wpList_plain hg fun K hK' => ?_
  subst hC h4
  have h63' : (n : Int) ≤ 9223372036854775807 := by
    have h := b3
    simp [maxLen] at h
    omega
  have hb' : (i.bytes : Int) * (n : Int) ≤ 281474976710656 := by
    have h : ((i.bytes * n : Nat) : Int) ≤ 281474976710656 := by omega
    rwa [Int.natCast_mul] at h
  have hr := run_make (P := P) w t e i z h1 h2 h3 kl kc 1 n (by decide) (by omega) hb' h63'
  simp only [Int.toNat_natCast] at hr
  have hr2 : (Instr.makeSlice t (.int kl 1) (.int kc (n : Int))).run P w = .ok (.slice (some ⟨w.heap.size, 0, none⟩) 1 n) (w.alloc (.cells (madeCells z.cells (n * i.size)) e)) := hr
  unfold Oper.wp
  simp [execOp, hop, hl, hc, hr2, Result.andThen]
  refine hK' _ _ (hK _ ((madeCells z.cells (n * i.size)).toList.take (1 * i.size)) ⟨?_, .inr ⟨w.heap.size, n, madeCells z.cells (n * i.size), rfl, b4, heap_alloc_new w _, h0, b3, size_madeCells _ _, rfl⟩⟩ (World.grownBy_alloc w _ none))
  rw [List.length_take, Array.length_toList, size_madeCells]
  have : i.size ≤ n * i.size := Nat.le_mul_of_pos_left _ h0
  omega
theorem info_car : ∃ i, Try.prog.info? 100 = some i ∧ i.zero = some (.agg #[.int .u64 0, .int .u64 0, .int .u64 0, .int .u64 0]) ∧ i.size = 4 ∧ i.bytes = 32 := by
  have h : (Try.prog.info? 100).map (fun i => (i.zero, i.size, i.bytes)) = some (some (.agg #[.int .u64 0, .int .u64 0, .int .u64 0, .int .u64 0]), 4, 32) := by kernel_rfl
  obtain ⟨i, hi, he⟩ := Option.map_eq_some_iff.1 h
  simp only [Prod.mk.injEq] at he
  exact ⟨i, hi, he.1, he.2.1, he.2.2⟩
/-- Two elements in a box of their own type. -/
def c4 (c : Nat → Nat × Nat) (i : Nat) : Value := if i = 0 then .int .u64 ((c 0).1 : Int) else if i = 1 then .int .u64 ((c 0).2 : Int) else if i = 2 then .int .u64 ((c 1).1 : Int) else .int .u64 ((c 1).2 : Int)
def Bx (w : World) (q : Nat) (c : Nat → Nat × Nat) : Prop := w.rowIs q 99 4 (c4 c)
theorem Bx.e2 {w : World} {q : Nat} {c : Nat → Nat × Nat} (h : Bx w q c) : E2 w q c := ⟨World.rowIs.cell h (i := 0) (by decide), World.rowIs.cell h (i := 1) (by decide), World.rowIs.cell h (i := 2) (by decide), World.rowIs.cell h (i := 3) (by decide)⟩
theorem Bx.below {w w' : World} {q : Nat} {c : Nat → Nat × Nat} (h : Bx w q c) (hb : Below w.heap.size w w') : Bx w' q c := World.rowIs.of_block h (hb.block _ (World.rowIs.lt h))
theorem Bx.new (w : World) (c : Nat → Nat × Nat) : Bx (w.alloc (Obj.cells #[.int .u64 ((c 0).1 : Int), .int .u64 ((c 0).2 : Int), .int .u64 ((c 1).1 : Int), .int .u64 ((c 1).2 : Int)] 99)) w.heap.size c :=
  ⟨#[.int .u64 ((c 0).1 : Int), .int .u64 ((c 0).2 : Int), .int .u64 ((c 1).1 : Int), .int .u64 ((c 1).2 : Int)], heap_alloc_new w _, rfl, fun i hi => by
    obtain rfl | rfl | rfl | rfl : i = 0 ∨ i = 1 ∨ i = 2 ∨ i = 3 := by omega
    all_goals rfl⟩
theorem own_apartC {w : World} {base : Nat} {v : Value} {n b : Nat} {xs : List Value} {c : Nat → Nat × Nat} (h : w.ownsRow base 100 4 v n xs) (hr : Bx w b c) : v.ownBlock ≠ some b := by
  rcases h.2 with ⟨rfl, _⟩ | ⟨g, cap, cur, rfl, _, hg, _⟩
  · simp [Value.ownBlock]
  · intro e
    obtain rfl : g = b := by simpa [Value.ownBlock] using e
    obtain ⟨c, hc, _⟩ := hr
    rw [hg] at hc
    injection hc with h1
    injection h1 with _ h2
    exact absurd h2 (by decide)
theorem ofe_one {m : Nat} (hm : m < 8) : ofE m (0, 1) := by
  obtain rfl | rfl | rfl | rfl | rfl | rfl | rfl | rfl : m = 0 ∨ m = 1 ∨ m = 2 ∨ m = 3 ∨ m = 4 ∨ m = 5 ∨ m = 6 ∨ m = 7 := by omega
  all_goals (show ofB _ _ _ = true; decide +kernel)
theorem of_zer {m : Nat} (hm : m < 8) : ofE m (0, 0) := ofT.el hm (t := []) (fun e he => by simp at he) 0
theorem of_fac {m : Nat} (hm : m < 8) {x : Nat × Nat} (h : ofE m x) (i : Nat) : ofE m (fac x i) := by
  unfold fac
  split
  · exact h
  · exact of_xor hm (ofe_one hm) h
theorem of_wtf {m : Nat} (hm : m < 8) : ∀ (p : List (Nat × Nat)) (o : Nat × Nat) (n : Nat), ofT m p → ofE m o → ofE m (wtf o p n)
  | [], _, _, _, ho => ho
  | e :: p, o, n, hp, ho => by
    simp only [wtf]
    exact of_wtf hm p _ _ (fun x hx => hp x (by simp [hx])) (of_pm hm ho (of_fac hm (hp e (by simp)) n))
theorem of_xs {m : Nat} (hm : m < 8) {f : Nat → Nat × Nat} (h : ∀ i, ofE m (f i)) : ∀ n, ofE m (xs n f)
  | 0 => of_zer hm
  | n + 1 => by simp only [xs]; exact of_xor hm (of_xs hm h n) (h n)
theorem of_cr {m : Nat} (hm : m < 8) (rt : Bool) {p : List (Nat × Nat)} (hp : ofT m p) (s c y : Nat) : ofE m (cr rt p s c y) := of_xs hm (fun i => by
  split
  · exact of_wtf hm p _ _ hp (ofe_one hm)
  · exact of_zer hm) _
theorem st2_congr (rt : Bool) (sg b d : Nat) {c c' : Nat → Nat × Nat} (t : Nat → Nat × Nat) (h0 : c 0 = c' 0) (h1 : c 1 = c' 1) : st2 rt sg b d c t = st2 rt sg b d c' t := by
  unfold st2
  rw [h0, h1]
/-- The carries of the first j bits. -/
def Cj (rt : Bool) (p : List (Nat × Nat)) (t j i : Nat) : (Nat × Nat) × (Nat × Nat) := (cr rt (p.take j) t 0 i, cr rt (p.take j) t 1 i)
def cf (C : (Nat × Nat) × (Nat × Nat)) : Nat → Nat × Nat := fun i => if i = 0 then C.1 else C.2
theorem Cj_step (rt : Bool) (p : List (Nat × Nat)) (t j i b : Nat) (hj : j < p.length) (hi : i < 2 ^ j) (hb : b < 2) : Cj rt p t (j + 1) (i + 2 ^ j * b) = (st2 rt (t / 2 ^ j % 2) b 0 (cf (Cj rt p t j i)) (fac (el p j)), st2 rt (t / 2 ^ j % 2) b 1 (cf (Cj rt p t j i)) (fac (el p j))) := by
  have hl : (p.take j).length = j := by rw [List.length_take]; omega
  have ht : p.take (j + 1) = p.take j ++ [el p j] := take_sn p j hj
  have e : ∀ c, c < 2 → cr rt (p.take j) t c i = cf (Cj rt p t j i) c := fun c hc => by
    obtain rfl | rfl : c = 0 ∨ c = 1 := by omega
    · rfl
    · rfl
  have st : ∀ d, d < 2 → cr rt (p.take j ++ [el p j]) t d (i + 2 ^ j * b) = st2 rt (t / 2 ^ j % 2) b d (cf (Cj rt p t j i)) (fac (el p j)) := fun d hd => by
    have := cr_step rt (p.take j) (el p j) t d b i (t / 2 ^ j % 2) hd hb (by rw [hl]) (by rw [hl]; exact hi)
    rw [hl] at this
    rw [this]
    exact st2_congr rt _ b d _ (e 0 (by decide)) (e 1 (by decide))
  unfold Cj
  rw [ht, st 0 (by decide), st 1 (by decide)]
  rfl
theorem nxt_ok {m : Nat} (hm : m < 8) (k : Int) (sg b : Nat) (hsg : sg < 2) (hb : b < 2) (C : (Nat × Nat) × (Nat × Nat)) (hC : (lt2 C.1 ∧ ofE m C.1) ∧ lt2 C.2 ∧ ofE m C.2) (x : Nat × Nat) (hx : lt2 x ∧ ofE m x) :
    Ret 66 #[ag2 (cf C), .int .i64 (m : Int), .int .i64 k, .int .i64 (sg : Int), ag2 (sd x), ag2 (sd (0, b))] (ag2 (cf (st2 (decide (k = 2)) sg b 0 (cf C) (fac x), st2 (decide (k = 2)) sg b 1 (cf C) (fac x)))) := by
  have h1 : ∀ i, lt2 (cf C i) ∧ ofE m (cf C i) := fun i => by unfold cf; split; exact hC.1; exact hC.2
  have h2 : ∀ i, lt2 (sd x i) ∧ ofE m (sd x i) := fun i => ⟨lt_fac hx.1 i, of_fac hm hx.2 i⟩
  have h3 : ∀ i, lt2 (sd (0, b) i) ∧ ofE m (sd (0, b) i) := fun i => by
    obtain rfl | rfl : b = 0 ∨ b = 1 := by omega
    · exact ⟨lt_fac lt_zero i, of_fac hm (of_zer hm) i⟩
    · exact ⟨lt_fac lt_one i, of_fac hm (ofe_one hm) i⟩
  have e : ∀ f g : Nat → Nat × Nat, f 0 = g 0 → f 1 = g 1 → ag2 f = ag2 g := fun f g a c => by unfold ag2; rw [a, c]
  by_cases hk : k = 2
  · subst hk
    have := tnext_r m sg hsg (cf C) (sd x) (sd (0, b)) h1 h2 h3 hm
    rw [e _ (cf (st2 (decide ((2 : Int) = 2)) sg b 0 (cf C) (fac x), st2 (decide ((2 : Int) = 2)) sg b 1 (cf C) (fac x))) (acm_r sg b 0 hsg hb (by decide) (cf C) (sd x) (fun i => (h2 i).1)) (acm_r sg b 1 hsg hb (by decide) (cf C) (sd x) (fun i => (h2 i).1))] at this
    exact this
  · rw [decide_eq_false hk]
    have := tnext_l m k sg hk hsg (cf C) (sd x) (sd (0, b)) h1 h2 h3 hm
    rw [e _ (cf (st2 false sg b 0 (cf C) (fac x), st2 false sg b 1 (cf C) (fac x))) (acm_l sg b 0 hsg hb (by decide) (cf C) (sd x) (fun i => (h2 i).1)) (acm_l sg b 1 hsg hb (by decide) (cf C) (sd x) (fun i => (h2 i).1))] at this
    exact this
end Go.Proofs.Ytejoombhcnldmaa
