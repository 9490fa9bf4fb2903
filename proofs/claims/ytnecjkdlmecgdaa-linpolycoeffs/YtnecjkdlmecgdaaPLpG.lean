/- As Peel, where some operations have come up ahead: those that only a later store waits for. -/
import Derived.Test.YtnecjkdlmecgdaaPLpE
import Derived.Test.YtnecjkdlmecgdaaPLpT
import Derived.Test.YtnecjkdlmecgdaaPLpK
namespace Go
section
variable {P : Program} {md : Region.Mode} {Q : Exit → Act → World → Prop}

/-- As Peels, but for those operations that have come up ahead (pre). -/
structure PeelsP (md : Region.Mode) (pre : Nat → Bool) (ops ops' : Array Oper) (st : Oper) (n : Nat) : Prop where
  size : ops.size = n
  push : ops' = ops.push st
  low : ∀ (i : Nat) (o : Oper), ops[i]? = some o → ∀ e ∈ o.after, Region.binds md e = true → e.on < i
  all : ∀ j, j < n → pre j = true ∨ ∃ k o, j < k ∧ k ≤ n ∧ ops'[k]? = some o ∧ ∃ e ∈ o.after, Region.binds md e = true ∧ e.on = j
  own : ∀ e ∈ st.after, Region.binds md e = true → e.on < n
  same : ∀ (i : Nat) (o : Oper) (t : Array Value), ops[i]? = some o → Region.wanted o (yielded ops' t) = Region.wanted o (yielded ops t)
theorem PeelsP.at {pre : Nat → Bool} {ops ops' : Array Oper} {st : Oper} {n : Nat} (p : PeelsP md pre ops ops' st n) {i : Nat} (h : i < n) : ops'[i]? = ops[i]? := by
  rw [p.push, Array.getElem?_push, if_neg (by rw [p.size]; omega)]
theorem PeelsP.last {pre : Nat → Bool} {ops ops' : Array Oper} {st : Oper} {n : Nat} (p : PeelsP md pre ops ops' st n) : ops'[n]? = some st := by
  rw [p.push, Array.getElem?_push, if_pos p.size.symm]
/-- Where nothing is ready all has come up. -/
theorem PeelsP.listed {pre : Nat → Bool} {ops ops' : Array Oper} {st : Oper} {n : Nat} (p : PeelsP md pre ops ops' st n) {l : Array Bool} (hl : l.size = n) (h : Region.ready md ops l = []) : ∀ i, i < n → l.getD i false = true := by
  intro i
  induction i using Nat.strongRecOn with
  | _ i ih =>
    intro hi
    cases hb : l.getD i false with
    | true => rfl
    | false =>
      exfalso
      have ho : ∃ o, ops[i]? = some o := ⟨ops[i]'(by rw [p.size]; exact hi), by simp [p.size, hi]⟩
      obtain ⟨o, ho⟩ := ho
      have hm : i ∈ Region.ready md ops l := ready_iff.2 ⟨by
        simp only [Array.getD_eq_getD_getElem?] at hb ⊢
        have : ∃ b, l[i]? = some b := ⟨l[i]'(by rw [hl]; exact hi), by simp [hl, hi]⟩
        obtain ⟨b, hb2⟩ := this
        rw [hb2] at hb ⊢
        exact hb, o, ho, fun e he hbe => ih e.on (p.low i o ho e he hbe) (by have := p.low i o ho e he hbe; omega)⟩
      rw [h] at hm
      cases hm
theorem PeelsP.ready_low {pre : Nat → Bool} {ops ops' : Array Oper} {st : Oper} {n : Nat} (p : PeelsP md pre ops ops' st n) {l : Array Bool} (hl : l.size = n) {i : Nat} (hi : i < n) : i ∈ Region.ready md ops' (l.push false) ↔ i ∈ Region.ready md ops l := by
  rw [ready_iff, ready_iff, p.at hi, getD_push_lt l i false true (by omega)]
  simp only [getD_push_false]
theorem PeelsP.ready_lt {pre : Nat → Bool} {ops ops' : Array Oper} {st : Oper} {n : Nat} (p : PeelsP md pre ops ops' st n) {l : Array Bool} {i : Nat} (h : i ∈ Region.ready md ops' l) : i < n ∨ i = n := by
  obtain ⟨_, o, ho, _⟩ := ready_iff.1 h
  obtain ⟨h1, _⟩ := Array.getElem?_eq_some_iff.1 ho
  rw [p.push, Array.size_push, p.size] at h1
  omega
theorem PeelsP.covered {pre : Nat → Bool} {ops ops' : Array Oper} {st : Oper} {n : Nat} (p : PeelsP md pre ops ops' st n) {l : Array Bool} (hc : Closed md ops l) (hp : ∀ j, pre j = true → l.getD j false = true) (h : ∀ e ∈ st.after, Region.binds md e = true → l.getD e.on false = true) : ∀ d j, n - j = d → j < n → l.getD j false = true := by
  intro d
  induction d using Nat.strongRecOn with
  | _ d ih =>
    intro j hd hj
    rcases p.all j hj with h3 | ⟨k, o, h1, h2, ho, e, he, hb, rfl⟩
    · exact hp j h3
    by_cases hk : k = n
    · subst hk
      rw [p.last] at ho
      obtain rfl := Option.some.inj ho
      exact h e he hb
    · have hk2 : k < n := by omega
      rw [p.at hk2] at ho
      exact hc k o ho (ih (n - k) (by omega) k rfl hk2) e he hb
theorem PeelsP.ready_last {pre : Nat → Bool} {ops ops' : Array Oper} {st : Oper} {n : Nat} (p : PeelsP md pre ops ops' st n) {l : Array Bool} (hl : l.size = n) (hc : Closed md ops l) (hp : ∀ j, pre j = true → l.getD j false = true) : n ∈ Region.ready md ops' (l.push false) ↔ ∀ i, i < n → l.getD i false = true := by
  rw [ready_iff]
  constructor
  · rintro ⟨_, o, ho, h⟩ i hi
    rw [p.last] at ho
    obtain rfl := Option.some.inj ho
    refine p.covered hc hp (fun e he hb => ?_) _ i rfl hi
    have := h e he hb
    rwa [getD_push_false] at this
  · intro h
    refine ⟨by simp [Array.getD_eq_getD_getElem?, ← hl], st, p.last, fun e he hb => ?_⟩
    rw [getD_push_false]
    exact h e.on (p.own e he hb)
theorem PeelsP.end_ {pre : Nat → Bool} {ops ops' : Array Oper} {st : Oper} {n : Nat} (p : PeelsP md pre ops ops' st n) {l : Array Bool} (hl : l.size = n) (h : ∀ i, i < n → l.getD i false = true) : Region.ready md ops' ((l.push false).setIfInBounds n true) = [] := by
  rw [List.eq_nil_iff_forall_not_mem]
  intro i hi
  have hlt := p.ready_lt hi
  obtain ⟨h1, _⟩ := ready_iff.1 hi
  rcases hlt with h2 | rfl
  · have := h i h2
    simp only [Array.getD_eq_getD_getElem?, Array.getElem?_setIfInBounds, Array.getElem?_push] at h1 this
    rw [if_neg (by omega), if_neg (by omega)] at h1
    have he : ∃ b, l[i]? = some b := ⟨l[i]'(by rw [hl]; exact h2), by simp [hl, h2]⟩
    obtain ⟨b, hb⟩ := he
    rw [hb] at h1 this
    simp at h1 this
    rw [h1] at this
    cases this
  · simp [Array.getD_eq_getD_getElem?, ← hl] at h1
theorem wpAny_peelP {pre : Nat → Bool} {ops ops' : Array Oper} {st : Oper} {n : Nat} (p : PeelsP md pre ops ops' st n) : ∀ (fuel : Nat) (l : Array Bool) (a : Act) (w : World), l.size = n → Closed md ops l → (∀ j, pre j = true → l.getD j false = true) → wpAny P md ops (peelQ P ops' n Q) fuel l a w → wpAny P md ops' Q (fuel + 1) (l.push false) a w
  | 0, l, a, w, hl, hc, hp, h => by
    have hall := p.listed hl h.1
    refine ⟨fun h0 => ?_, fun i hi => ?_⟩
    · have := (p.ready_last hl hc hp).2 hall
      rw [h0] at this
      cases this
    · rcases p.ready_lt hi with h2 | rfl
      · have := (p.ready_low hl h2).1 hi
        rw [h.1] at this
        cases this
      · exact wpOp_mono (fun a' w' hq => ⟨p.end_ hl hall, hq⟩) h.2
  | fuel + 1, l, a, w, hl, hc, hp, h => by
    refine ⟨fun h0 => ?_, fun i hi => ?_⟩
    · exfalso
      have hr : Region.ready md ops l = [] := by
        rw [List.eq_nil_iff_forall_not_mem]
        intro i hi
        obtain ⟨_, o, ho, _⟩ := ready_iff.1 hi
        obtain ⟨h1, _⟩ := Array.getElem?_eq_some_iff.1 ho
        have := (p.ready_low hl (i := i) (by rw [← p.size]; exact h1)).2 hi
        rw [h0] at this
        cases this
      have := (p.ready_last hl hc hp).2 (p.listed hl hr)
      rw [h0] at this
      cases this
    · rcases p.ready_lt hi with h2 | rfl
      · have hr := (p.ready_low hl h2).1 hi
        refine wpOp_peel (p.at h2) (fun o ho => p.same i o _ ho) (wpOp_mono (fun a' w' hq => ?_) (h.2 i hr))
        rw [push_set_lt l i (by omega)]
        exact wpAny_peelP p fuel _ a' w' (by simpa using hl) (hc.set hr) (fun j hj => set_getD _ _ _ (hp j hj)) hq
      · have hall := (p.ready_last hl hc hp).1 hi
        have hr : Region.ready md ops l = [] := by
          rw [List.eq_nil_iff_forall_not_mem]
          intro j hj
          obtain ⟨h1, o, ho, _⟩ := ready_iff.1 hj
          obtain ⟨h3, _⟩ := Array.getElem?_eq_some_iff.1 ho
          have h4 := hall j (by rw [← p.size]; exact h3)
          simp only [Array.getD_eq_getD_getElem?] at h1 h4
          have he : ∃ b, l[j]? = some b := ⟨l[j]'(by rw [hl, ← p.size]; exact h3), by simp [hl, ← p.size, h3]⟩
          obtain ⟨b, hb⟩ := he
          rw [hb] at h1 h4
          simp at h1 h4
          rw [h1] at h4
          cases h4
        refine wpOp_mono (fun a' w' hq => ?_) (h.1 hr)
        cases fuel with
        | zero => exact ⟨fun _ => hq, fun i hi => by rw [p.end_ hl hall] at hi; cases hi⟩
        | succ fuel => exact ⟨fun _ => hq, fun i hi => by rw [p.end_ hl hall] at hi; cases hi⟩
/-- Does the last operation wait for all others, and these for such as stand ahead of them alone? -/
def peelsPB (pre : Nat → Bool) (ops' : Array Oper) (n : Nat) : Bool :=
  match ops'[n]? with
  | none => false
  | some st =>
    ((List.range n).all fun i => match ops'[i]? with
      | none => false
      | some o => (o.after.all fun e => !Region.binds .any e || decide (e.on < i)) && (match o.guard with | none => true | some (j, _) => decide (j < n))) &&
    ((List.range n).all fun j => pre j || (List.range (n + 1)).any fun k => decide (j < k) && (match ops'[k]? with | none => false | some o => o.after.any fun e => Region.binds .any e && e.on == j)) &&
    (st.after.all fun e => !Region.binds .any e || decide (e.on < n))
theorem peelsP_of {pre : Nat → Bool} {ops' : Array Oper} {n : Nat} (hn : ops'.size = n + 1) (h : peelsPB pre ops' n = true) : ∃ st, PeelsP .any pre ops'.pop ops' st n := by
  unfold peelsPB at h
  cases hs : ops'[n]? with
  | none => rw [hs] at h; cases h
  | some st =>
    rw [hs] at h
    simp only [Bool.and_eq_true, List.all_eq_true, List.mem_range, Array.all_eq_true'] at h
    obtain ⟨⟨h1, h2⟩, h3⟩ := h
    have hp := pop_push hn hs
    have hat : ∀ (i : Nat) (o : Oper), ops'.pop[i]? = some o → i < n ∧ ops'[i]? = some o := fun i o ho => by
      rw [Array.getElem?_pop] at ho
      split at ho
      · exact ⟨by omega, ho⟩
      · cases ho
    refine ⟨st, by rw [Array.size_pop, hn]; omega, hp, fun i o ho e he hb => ?_, fun j hj => ?_, fun e he hb => ?_, fun i o t ho => ?_⟩
    · obtain ⟨hi, ho'⟩ := hat i o ho
      have := h1 i hi
      rw [ho'] at this
      simp only [Bool.and_eq_true, Array.all_eq_true'] at this
      have h4 := this.1 e he
      rw [hb] at h4
      simpa using h4
    · have h5 := h2 j hj
      rw [Bool.or_eq_true] at h5
      rcases h5 with h5 | h5
      · exact .inl h5
      refine .inr ?_
      rw [List.any_eq_true] at h5
      obtain ⟨k, hk, h6⟩ := h5
      rw [List.mem_range] at hk
      rw [Bool.and_eq_true] at h6
      cases ho : ops'[k]? with
      | none => rw [ho] at h6; cases h6.2
      | some o =>
        rw [ho] at h6
        have h7 := h6.2
        simp only [Array.any_eq_true', Bool.and_eq_true, beq_iff_eq] at h7
        obtain ⟨e, he, h8, h9⟩ := h7
        exact ⟨k, o, by simpa using h6.1, by omega, ho, e, he, h8, h9⟩
    · have h4 := h3 e he
      rw [hb] at h4
      simpa using h4
    · obtain ⟨hi, ho'⟩ := hat i o ho
      have := h1 i hi
      rw [ho'] at this
      simp only [Bool.and_eq_true] at this
      unfold Region.wanted
      cases hg : o.guard with
      | none => rfl
      | some q =>
        obtain ⟨j, want⟩ := q
        have h4 := this.2
        rw [hg] at h4
        have hj : j < n := by simpa using h4
        have : yielded ops' t j = yielded ops'.pop t j := by
          unfold yielded
          rw [Array.getElem?_pop, if_pos (by omega)]
        simp only [this]
/-- Has all that has come up come up behind what it waits for? -/
def closedB (ops : Array Oper) (l : Array Bool) : Bool := (List.range ops.size).all fun i => match ops[i]? with
  | none => true
  | some o => !l.getD i false || o.after.all fun e => !Region.binds .any e || l.getD e.on false
theorem closed_of {ops : Array Oper} {l : Array Bool} (h : closedB ops l = true) : Closed .any ops l := by
  intro i o ho hi e he hb
  unfold closedB at h
  rw [List.all_eq_true] at h
  have hlt : i < ops.size := (Array.getElem?_eq_some_iff.1 ho).1
  have h1 := h i (List.mem_range.2 hlt)
  rw [ho] at h1
  simp only [hi, Bool.not_true, Bool.false_or] at h1
  have h2 := (Array.all_eq_true'.1 h1) e he
  rw [hb] at h2
  simpa using h2
/-- The last operation apart, some others having come up ahead of all. -/
theorem wpAny_apart {ops' : Array Oper} {n fuel : Nat} {L l : Array Bool} {a : Act} {w : World} (pre : Nat → Bool) (hL : L = l.push false) (hl : l.size = n) (hn : ops'.size = n + 1) (hp : peelsPB pre ops' n = true) (hc : closedB ops'.pop l = true)
    (hpre : ((List.range n).all fun j => !pre j || l.getD j false) = true) (hout : ∀ j, pre j = true → j < n)
    (h : wpAny P .any ops'.pop (peelQ P ops' n Q) fuel l a w) : wpAny P .any ops' Q (fuel + 1) L a w := by
  obtain ⟨st, p⟩ := peelsP_of hn hp
  subst hL
  refine wpAny_peelP p fuel l a w hl (closed_of hc) (fun j hj => ?_) h
  have := List.all_eq_true.1 hpre j (List.mem_range.2 (hout j hj))
  rw [hj] at this
  simpa using this
end
end Go

/- Rows of any list that lie in a block of their own: read and written in place. -/
namespace Go.Proofs.Ytnecjkdlmecgdaa
open Go.RowKit

/-- A store into a row of one's own. -/
theorem own_set {w : World} {base size g n cap : Nat} {T : TypeId} {xs : List Value} (h : w.ownsRow base T size (.slice (some ⟨g, 0, none⟩) n cap) n xs) (i : Nat) (u : Value) :
    (w.setCell ⟨g, i, none⟩ u).ownsRow base T size (.slice (some ⟨g, 0, none⟩) n cap) n (xs.set i u) := by
  obtain ⟨h1, h2⟩ := h
  refine ⟨by rw [List.length_set]; exact h1, ?_⟩
  rcases h2 with ⟨h3, _⟩ | ⟨g', cap', cur, e, hb, hg, hn, hm, hs, ht⟩
  · injection h3 with h4; cases h4
  · injection e with e1 e2 e3
    obtain rfl : g = g' := by injection e1 with e4; injection e4
    subst e3
    refine .inr ⟨g, cap, cur.setIfInBounds i u, rfl, hb, ?_, hn, hm, by simpa using hs, ?_⟩
    · simp [World.setCell, Array.getElem?_modify, hg]
    · rw [Array.toList_setIfInBounds, List.take_set, ht]
theorem own_cell {w : World} {base size g n cap : Nat} {T : TypeId} {xs : List Value} (h : w.ownsRow base T size (.slice (some ⟨g, 0, none⟩) n cap) n xs) (i : Nat) (hi : i < n * size) :
    w.cell? ⟨g, i, none⟩ = xs[i]? ∧ w.frozen? ⟨g, i, none⟩ = false := by
  obtain ⟨h1, h2⟩ := h
  rcases h2 with ⟨h3, _⟩ | ⟨g', cap', cur, e, hb, hg, hn, hm, hs, ht⟩
  · injection h3 with h4; cases h4
  · injection e with e1 e2 e3
    obtain rfl : g = g' := by injection e1 with e4; injection e4
    subst ht
    have hlt : i < cur.size := by
      rw [hs]
      exact Nat.lt_of_lt_of_le hi (Nat.mul_le_mul_right _ hn)
    refine ⟨?_, by simp [World.frozen?, hg]⟩
    rw [List.getElem?_take_of_lt hi]
    simp [World.cell?, hg, hlt]
/-- The cells of rows. -/
def flatR (rs : List ((Nat × Nat) × (Nat × Nat))) : List Value := rs.flatMap fun r => [.int .u64 (r.1.1 : Nat), .int .u64 (r.1.2 : Nat), .int .u64 (r.2.1 : Nat), .int .u64 (r.2.2 : Nat)]
theorem flatR_len (rs : List ((Nat × Nat) × (Nat × Nat))) : (flatR rs).length = rs.length * 4 := by
  induction rs with
  | nil => rfl
  | cons r rs ih => simp only [flatR, List.flatMap_cons, List.length_append] at *; simp [ih]; omega
theorem flatR_at (rs : List ((Nat × Nat) × (Nat × Nat))) : ∀ m, m < rs.length → (flatR rs)[m * 4]? = some (.int .u64 ((rs.getD m ((0, 0), (0, 0))).1.1 : Nat)) ∧ (flatR rs)[m * 4 + 1]? = some (.int .u64 ((rs.getD m ((0, 0), (0, 0))).1.2 : Nat)) ∧ (flatR rs)[m * 4 + 2]? = some (.int .u64 ((rs.getD m ((0, 0), (0, 0))).2.1 : Nat)) ∧ (flatR rs)[m * 4 + 3]? = some (.int .u64 ((rs.getD m ((0, 0), (0, 0))).2.2 : Nat)) := by
  induction rs with
  | nil => intro m hm; simp at hm
  | cons r rs ih =>
    intro m hm
    cases m with
    | zero => simp [flatR]
    | succ m =>
      have := ih m (by simpa using hm)
      have e : ∀ k, (flatR (r :: rs))[(m + 1) * 4 + k]? = (flatR rs)[m * 4 + k]? := fun k => by
        simp only [flatR, List.flatMap_cons]
        rw [List.getElem?_append_right (by simp; omega)]
        congr 1
        simp; omega
      have e0 := e 0
      rw [Nat.add_zero, Nat.add_zero] at e0
      rw [e0, e, e, e]
      simpa using this
theorem flatR_set (rs : List ((Nat × Nat) × (Nat × Nat))) (r : (Nat × Nat) × (Nat × Nat)) : ∀ m, m < rs.length → ((((flatR rs).set (m * 4) (.int .u64 (r.1.1 : Nat))).set (m * 4 + 1) (.int .u64 (r.1.2 : Nat))).set (m * 4 + 2) (.int .u64 (r.2.1 : Nat))).set (m * 4 + 3) (.int .u64 (r.2.2 : Nat)) = flatR (rs.set m r) := by
  induction rs with
  | nil => intro m hm; simp at hm
  | cons x rs ih =>
    intro m hm
    cases m with
    | zero => simp [flatR]
    | succ m =>
      have := ih m (by simpa using hm)
      have e : ∀ (ys : List Value) k u, (([.int .u64 (x.1.1 : Nat), .int .u64 (x.1.2 : Nat), .int .u64 (x.2.1 : Nat), .int .u64 (x.2.2 : Nat)] : List Value) ++ ys).set ((m + 1) * 4 + k) u = [.int .u64 (x.1.1 : Nat), .int .u64 (x.1.2 : Nat), .int .u64 (x.2.1 : Nat), .int .u64 (x.2.2 : Nat)] ++ ys.set (m * 4 + k) u := fun ys k u => by
        rw [List.set_append_right _ _ (by simp; omega)]
        congr 2
        simp; omega
      have e0 := fun ys u => e ys 0 u
      simp only [Nat.add_zero] at e0
      simp only [flatR, List.flatMap_cons, List.set_cons_succ] at this ⊢
      rw [e0, e, e, e, this]
/-- Rows of one's own are rows in memory. -/
theorem own_rrow {w : World} {base g cap : Nat} {rs : List ((Nat × Nat) × (Nat × Nat))} (h : w.ownsRow base 103 4 (.slice (some ⟨g, 0, none⟩) rs.length cap) rs.length (flatR rs)) : RRow w (some ⟨g, 0, none⟩) rs := ⟨fun i hi => by
  have a := flatR_at rs i hi
  have c0 := (own_cell h (i * 4) (by omega)).1
  have c1 := (own_cell h (i * 4 + 1) (by omega)).1
  have c2 := (own_cell h (i * 4 + 2) (by omega)).1
  have c3 := (own_cell h (i * 4 + 3) (by omega)).1
  rw [a.1] at c0
  rw [a.2.1] at c1
  rw [a.2.2.1] at c2
  rw [a.2.2.2] at c3
  exact ⟨g, 0, rfl, cell_lt c0, by rw [Nat.zero_add]; exact c0, by rw [Nat.zero_add]; exact c1, by rw [Nat.zero_add]; exact c2, by rw [Nat.zero_add]; exact c3⟩⟩
end Go.Proofs.Ytnecjkdlmecgdaa

/- Contracts of span's add where there are no rows, over the seat's translation. -/
namespace Go.Proofs.Ytnecjkdlmecgdaa
open Go.RowKit

theorem info_srow : ∃ i, Try.prog.info? 103 = some i ∧ i.zero = some (.agg #[.int .u64 0, .int .u64 0, .int .u64 0, .int .u64 0]) ∧ i.size = 4 ∧ i.bytes = 32 := by
  have h : (Try.prog.info? 103).map (fun i => (i.zero, i.size, i.bytes)) = some (some (.agg #[.int .u64 0, .int .u64 0, .int .u64 0, .int .u64 0]), 4, 32) := by kernel_rfl
  obtain ⟨i, hi, he⟩ := Option.map_eq_some_iff.1 h
  simp only [Prod.mk.injEq] at he
  exact ⟨i, hi, he.1, he.2.1, he.2.2⟩
set_option maxHeartbeats 8000000 in
set_option maxRecDepth 100000 in
theorem add_none (B sh sl oh ol : Nat) (L : Int) (v : Value) (W : World) (hB : B < W.heap.size) (c0 : W.cell? ⟨B, 0, none⟩ = some (.slice none 0 0)) (f0 : W.frozen? ⟨B, 0, none⟩ = false) (c1 : W.cell? ⟨B, 1, none⟩ = some v) (f1 : W.frozen? ⟨B, 1, none⟩ = false)
    (HL : Ret 75 #[.agg #[.int .u64 (sh : Int), .int .u64 (sl : Int)]] (.int .i64 L)) :
    Calls Try.prog 72 #[.pointer (some ⟨B, 0, none⟩), .agg #[.int .u64 (sh : Int), .int .u64 (sl : Int), .int .u64 (oh : Int), .int .u64 (ol : Int)]] W fun e w' => ∃ a c, e = .returned (.tuple #[]) ∧ w'.cell? ⟨B, 0, none⟩ = some (.slice a 1 c) ∧ w'.cell? ⟨B, 1, none⟩ = some v ∧ w'.frozen? ⟨B, 1, none⟩ = false ∧ Below B W w' := by
  have hne : ¬ W.heap.size = B ∧ ¬ B = W.heap.size := by omega
  have HK : Hid (W.cell? ⟨B, 0, none⟩ = some (.slice none 0 0) ∧ W.frozen? ⟨B, 0, none⟩ = false ∧ W.cell? ⟨B, 1, none⟩ = some v ∧ W.frozen? ⟨B, 1, none⟩ = false) := ⟨c0, f0, c1, f1⟩
  obtain ⟨i0, hi, hz0, hz1, hz2⟩ := info_srow
  have HN : Hid (Try.prog.info? 103 = some i0 ∧ i0.zero = some (.agg #[.int .u64 0, .int .u64 0, .int .u64 0, .int .u64 0]) ∧ i0.size = 4 ∧ i0.bytes = 32) := ⟨hi, hz0, hz1, hz2⟩
  clear c0 f0 c1 f1 hi hz0 hz1 hz2
  go_enter Try.func72, Try.ntmps72
  go_wp2_with fail
  refine (HL.go _).mono ?_
  rintro e w1 ⟨rfl, hb1⟩
  have D1 : Below W.heap.size W w1 := ((Below.refl _ _).alloc (Nat.le_refl _) _).trans (hb1.mono (by simp <;> omega))
  have r0 : w1.cell? ⟨W.heap.size, 0, none⟩ = some (.int .u64 (sh : Int)) := keepc hb1 (by simp [go_sem])
  have r1 : w1.cell? ⟨W.heap.size, 1, none⟩ = some (.int .u64 (sl : Int)) := keepc hb1 (by simp [go_sem])
  have r2 : w1.cell? ⟨W.heap.size, 2, none⟩ = some (.int .u64 (oh : Int)) := keepc hb1 (by simp [go_sem])
  have r3 : w1.cell? ⟨W.heap.size, 3, none⟩ = some (.int .u64 (ol : Int)) := keepc hb1 (by simp [go_sem])
  have e0 : w1.cell? ⟨B, 0, none⟩ = some (.slice none 0 0) := keepc D1 HK.out.1
  have hw1 : W.heap.size < w1.heap.size := cell_lt r0
  clear hb1
  go_wp2_with fail
  go_rounds 1
  go_upto_region 9 with fail
  refine wp_region_noPanic ?_
  refine wp_region_peel (S := fun w => w.cell? ⟨B, 0, none⟩ = some (.slice none 0 0) ∧ w.cell? ⟨W.heap.size, 0, none⟩ = some (.int .u64 (sh : Int)) ∧ w.cell? ⟨W.heap.size, 1, none⟩ = some (.int .u64 (sl : Int)) ∧ w.cell? ⟨W.heap.size, 2, none⟩ = some (.int .u64 (oh : Int)) ∧ w.cell? ⟨W.heap.size, 3, none⟩ = some (.int .u64 (ol : Int))) 10 (by kernel_rfl) rfl (by kernel_rfl) ?_ (fun hHeld => ?_)
  · exact ⟨e0, r0, r1, r2, r3⟩
  refine wpAnyH_take (i := 0) (oi := _) (v := ?_) rfl (by kernel_rfl) (by kernel_rfl) (by kernel_rfl) (fun _ _ _ h => h) (Or.inl ⟨by rfl, ?_⟩) (by assumption) ?_
  rotate_left
  · ((intro w hSw; (try dsimp only at hSw); go_simp) <;> (try with_reducible rfl))
  try simp only [Act.put]
  refine wpAnyH_take (i := 1) (oi := _) (v := ?_) rfl (by kernel_rfl) (by kernel_rfl) (by kernel_rfl) (fun _ _ _ h => h) (Or.inl ⟨by rfl, ?_⟩) (by assumption) ?_
  rotate_left
  · ((intro w hSw; (try dsimp only at hSw); go_simp) <;> (try with_reducible rfl))
  try simp only [Act.put]
  refine wpAnyH_take (i := 2) (oi := _) (v := ?_) rfl (by kernel_rfl) (by kernel_rfl) (by kernel_rfl) (fun _ _ _ h => h) (Or.inl ⟨by rfl, ?_⟩) (by assumption) ?_
  rotate_left
  · ((intro w hSw; (try dsimp only at hSw); go_simp) <;> (try with_reducible rfl))
  try simp only [Act.put]
  refine wpAnyH_take (i := 3) (oi := _) (v := ?_) rfl (by kernel_rfl) (by kernel_rfl) (by kernel_rfl) (fun _ _ _ h => h) (Or.inl ⟨by rfl, ?_⟩) (by assumption) ?_
  rotate_left
  · ((intro w hSw; (try dsimp only at hSw); go_simp) <;> (try with_reducible rfl))
  try simp only [Act.put]
  refine wpAnyH_take (i := 4) (oi := _) (v := ?_) rfl (by kernel_rfl) (by kernel_rfl) (by kernel_rfl) (fun _ _ _ h => h) (Or.inl ⟨by rfl, ?_⟩) (by assumption) ?_
  rotate_left
  · ((intro w hSw; (try dsimp only at hSw); go_simp) <;> (try with_reducible rfl))
  try simp only [Act.put]
  refine wpAnyH_take (i := 5) (oi := _) (v := ?_) rfl (by kernel_rfl) (by kernel_rfl) (by kernel_rfl) (fun _ _ _ h => h) (Or.inl ⟨by rfl, ?_⟩) (by assumption) ?_
  rotate_left
  · ((intro w hSw; (try dsimp only at hSw); go_simp) <;> (try with_reducible rfl))
  try simp only [Act.put]
  refine wpAnyH_ready (rs := [6]) (by kernel_rfl) (by simp) ?_
  refine AllReadyH.cons (o := _) rfl (fun KK hKK => ?_) AllReadyH.nil
  go_simp
  refine hKK.out _ _ ?_ (fun hHeld => ?_)
  · go_keep
  clear hKK KK
  try simp only [Act.put]
  refine wpAnyH_ready (rs := [7]) (by kernel_rfl) (by simp) ?_
  refine AllReadyH.cons (o := _) rfl (fun KK hKK => ?_) AllReadyH.nil
  simp only [Array.getElem_pop, List.getElem_toArray, List.getElem_cons_succ, List.getElem_cons_zero]
  rw [if_pos (by rfl)]
  refine wp_append_own _ _ _ 86 rfl (W.heap.size + 1) 103 i0 (.agg #[.int .u64 0, .int .u64 0, .int .u64 0, .int .u64 0]) 4 32 Try.underlying86 HN.out.1 HN.out.2.1 HN.out.2.2.1 HN.out.2.2.2 rfl (by decide) (.slice none 0 0) 0 [] rfl (World.ownsRow_nil _ _ _ _) ⟨w1.heap.size, 0, none⟩ 1 1 [.int .u64 (sh : Int), .int .u64 (sl : Int), .int .u64 (oh : Int), .int .u64 (ol : Int)] rfl rfl ?_ ?_ (by decide) (by decide) ?_ ?_
  · exact fun p u hu => by rcases p with _ | _ | _ | _ | p <;> simp at hu <;> subst hu <;> simp [go_sem]
  · intro u hu; simp at hu; rcases hu with rfl | rfl | rfl | rfl <;> rfl
  · simp; omega
  intro v' w' hown hgr _
  have BB : Below w1.heap.size w1 w' := ((Below.refl _ _).drew.alloc (Nat.le_refl _) _).grown hgr (by simp) (fun k hk => by simp [Value.ownBlock] at hk)
  obtain ⟨a2, c2, rfl⟩ : ∃ a c, v' = .slice a 1 c := by
    rcases hown.2 with ⟨_, h0⟩ | ⟨g, cap, cur, rfl, _⟩
    · omega
    · exact ⟨_, _, rfl⟩
  refine hKK.out _ _ ?_ (fun hHeld => ?_)
  · exact ⟨keepc BB e0, keepc BB r0, keepc BB r1, keepc BB r2, keepc BB r3⟩
  clear hKK KK
  try simp only [Act.put]
  refine wpAnyH_take (i := 8) (oi := _) (v := ?_) rfl (by kernel_rfl) (by kernel_rfl) (by kernel_rfl) (fun _ _ _ h => h) (Or.inl ⟨by rfl, ?_⟩) (by assumption) ?_
  rotate_left
  · ((intro w hSw; (try dsimp only at hSw); go_simp) <;> (try with_reducible rfl))
  try simp only [Act.put]
  refine wpAnyH_take (i := 9) (oi := _) (v := ?_) rfl (by kernel_rfl) (by kernel_rfl) (by kernel_rfl) (fun _ _ _ h => h) (Or.inl ⟨by rfl, ?_⟩) (by assumption) ?_
  rotate_left
  · ((intro w hSw; (try dsimp only at hSw); go_simp) <;> (try with_reducible rfl))
  try simp only [Act.put]
  refine wpAnyH_done (by kernel_rfl) ?_ _
  refine peel_last rfl (fun KK hKK => ?_)
  have BW : Below W.heap.size W w' := D1.trans (BB.mono D1.size)
  have e0' := keepc BW HK.out.1
  have g0' := keepf BW HK.out.1 HK.out.2.1
  have e1' := keepc BW HK.out.2.2.1
  have g1' := keepf BW HK.out.2.2.1 HK.out.2.2.2
  have F : Hid ((w'.setCell ⟨B, 0, none⟩ (.slice a2 1 c2)).cell? ⟨B, 0, none⟩ = some (.slice a2 1 c2) ∧ (w'.setCell ⟨B, 0, none⟩ (.slice a2 1 c2)).cell? ⟨B, 1, none⟩ = some v ∧ (w'.setCell ⟨B, 0, none⟩ (.slice a2 1 c2)).frozen? ⟨B, 1, none⟩ = false ∧ Below B W (w'.setCell ⟨B, 0, none⟩ (.slice a2 1 c2))) := ⟨by simp [go_sem, e0'], by simp [go_sem, e1'], by simp [go_sem, g1'], (BW.mono (Nat.le_of_lt hB)).setCell (Nat.le_refl _) _⟩
  clear hHeld r0 r1 r2 r3 e0 hown hgr BB BW D1 e1' g1'
  go_simp
  refine hKK _ _ ?_
  refine NoPanic.normal ?_
  clear hKK KK e0' g0'
  generalize w'.setCell ⟨B, 0, none⟩ (.slice a2 1 c2) = w9 at *
  go_wp2
  go_end0
  exact ⟨rfl, ⟨_, _, F.out.1⟩, F.out.2⟩
end Go.Proofs.Ytnecjkdlmecgdaa
