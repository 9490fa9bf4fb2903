/- As Peel, where some operations have come up ahead: those that only a later store waits for. -/
import Derived.Test.YtakaconhoodigaaPeel
namespace Go
section
variable {P : Program} {md : Region.Mode} {Q : Exit → Act → World → Prop}

/-- As Peels, but for those operations that have come up ahead (pre). -/
structure PeelsP (md : Region.Mode) (pre : Nat → Bool) (ops ops' : Array Oper) (st : Oper) (n : Nat) : Prop where
  size : ops.size = n
  push : ops' = ops.push st
  low : ∀ (i : Nat) (o : Oper), ops[i]? = some o → ∀ e ∈ o.after, Region.binds md e = true → e.on < i
  all : ∀ j, j < n → pre j = true ∨ ∃ k o, j < k ∧ k ≤ n ∧ ops'[k]? = some o ∧ ∃ e ∈ o.after, Region.binds md e = true ∧ e.on = j
  own : ∀ e ∈ st.after, Region.binds md e = true → e.on < n
  same : ∀ (i : Nat) (o : Oper) (t : Array Value), ops[i]? = some o → Region.wanted o (yielded ops' t) = Region.wanted o (yielded ops t)
theorem PeelsP.at {pre : Nat → Bool} {ops ops' : Array Oper} {st : Oper} {n : Nat} (p : PeelsP md pre ops ops' st n) {i : Nat} (h : i < n) : ops'[i]? = ops[i]? := by
  rw [p.push, Array.getElem?_push, if_neg (by rw [p.size]; omega)]
theorem PeelsP.last {pre : Nat → Bool} {ops ops' : Array Oper} {st : Oper} {n : Nat} (p : PeelsP md pre ops ops' st n) : ops'[n]? = some st := by
  rw [p.push, Array.getElem?_push, if_pos p.size.symm]
/-- Where nothing is ready all has come up. -/
theorem PeelsP.listed {pre : Nat → Bool} {ops ops' : Array Oper} {st : Oper} {n : Nat} (p : PeelsP md pre ops ops' st n) {l : Array Bool} (hl : l.size = n) (h : Region.ready md ops l = []) : ∀ i, i < n → l.getD i false = true := by
  intro i
  induction i using Nat.strongRecOn with
  | _ i ih =>
    intro hi
    cases hb : l.getD i false with
    | true => rfl
    | false =>
      exfalso
      have ho : ∃ o, ops[i]? = some o := ⟨ops[i]'(by rw [p.size]; exact hi), by simp [p.size, hi]⟩
      obtain ⟨o, ho⟩ := ho
      have hm : i ∈ Region.ready md ops l := ready_iff.2 ⟨by
        simp only [Array.getD_eq_getD_getElem?] at hb ⊢
        have : ∃ b, l[i]? = some b := ⟨l[i]'(by rw [hl]; exact hi), by simp [hl, hi]⟩
        obtain ⟨b, hb2⟩ := this
        rw [hb2] at hb ⊢
        exact hb, o, ho, fun e he hbe => ih e.on (p.low i o ho e he hbe) (by have := p.low i o ho e he hbe; omega)⟩
      rw [h] at hm
      cases hm
theorem PeelsP.ready_low {pre : Nat → Bool} {ops ops' : Array Oper} {st : Oper} {n : Nat} (p : PeelsP md pre ops ops' st n) {l : Array Bool} (hl : l.size = n) {i : Nat} (hi : i < n) : i ∈ Region.ready md ops' (l.push false) ↔ i ∈ Region.ready md ops l := by
  rw [ready_iff, ready_iff, p.at hi, getD_push_lt l i false true (by omega)]
  simp only [getD_push_false]
theorem PeelsP.ready_lt {pre : Nat → Bool} {ops ops' : Array Oper} {st : Oper} {n : Nat} (p : PeelsP md pre ops ops' st n) {l : Array Bool} {i : Nat} (h : i ∈ Region.ready md ops' l) : i < n ∨ i = n := by
  obtain ⟨_, o, ho, _⟩ := ready_iff.1 h
  obtain ⟨h1, _⟩ := Array.getElem?_eq_some_iff.1 ho
  rw [p.push, Array.size_push, p.size] at h1
  omega
theorem PeelsP.covered {pre : Nat → Bool} {ops ops' : Array Oper} {st : Oper} {n : Nat} (p : PeelsP md pre ops ops' st n) {l : Array Bool} (hc : Closed md ops l) (hp : ∀ j, pre j = true → l.getD j false = true) (h : ∀ e ∈ st.after, Region.binds md e = true → l.getD e.on false = true) : ∀ d j, n - j = d → j < n → l.getD j false = true := by
  intro d
  induction d using Nat.strongRecOn with
  | _ d ih =>
    intro j hd hj
    rcases p.all j hj with h3 | ⟨k, o, h1, h2, ho, e, he, hb, rfl⟩
    · exact hp j h3
    by_cases hk : k = n
    · subst hk
      rw [p.last] at ho
      obtain rfl := Option.some.inj ho
      exact h e he hb
    · have hk2 : k < n := by omega
      rw [p.at hk2] at ho
      exact hc k o ho (ih (n - k) (by omega) k rfl hk2) e he hb
theorem PeelsP.ready_last {pre : Nat → Bool} {ops ops' : Array Oper} {st : Oper} {n : Nat} (p : PeelsP md pre ops ops' st n) {l : Array Bool} (hl : l.size = n) (hc : Closed md ops l) (hp : ∀ j, pre j = true → l.getD j false = true) : n ∈ Region.ready md ops' (l.push false) ↔ ∀ i, i < n → l.getD i false = true := by
  rw [ready_iff]
  constructor
  · rintro ⟨_, o, ho, h⟩ i hi
    rw [p.last] at ho
    obtain rfl := Option.some.inj ho
    refine p.covered hc hp (fun e he hb => ?_) _ i rfl hi
    have := h e he hb
    rwa [getD_push_false] at this
  · intro h
    refine ⟨by simp [Array.getD_eq_getD_getElem?, ← hl], st, p.last, fun e he hb => ?_⟩
    rw [getD_push_false]
    exact h e.on (p.own e he hb)
theorem PeelsP.end_ {pre : Nat → Bool} {ops ops' : Array Oper} {st : Oper} {n : Nat} (p : PeelsP md pre ops ops' st n) {l : Array Bool} (hl : l.size = n) (h : ∀ i, i < n → l.getD i false = true) : Region.ready md ops' ((l.push false).setIfInBounds n true) = [] := by
  rw [List.eq_nil_iff_forall_not_mem]
  intro i hi
  have hlt := p.ready_lt hi
  obtain ⟨h1, _⟩ := ready_iff.1 hi
  rcases hlt with h2 | rfl
  · have := h i h2
    simp only [Array.getD_eq_getD_getElem?, Array.getElem?_setIfInBounds, Array.getElem?_push] at h1 this
    rw [if_neg (by omega), if_neg (by omega)] at h1
    have he : ∃ b, l[i]? = some b := ⟨l[i]'(by rw [hl]; exact h2), by simp [hl, h2]⟩
    obtain ⟨b, hb⟩ := he
    rw [hb] at h1 this
    simp at h1 this
    rw [h1] at this
    cases this
  · simp [Array.getD_eq_getD_getElem?, ← hl] at h1
theorem wpAny_peelP {pre : Nat → Bool} {ops ops' : Array Oper} {st : Oper} {n : Nat} (p : PeelsP md pre ops ops' st n) : ∀ (fuel : Nat) (l : Array Bool) (a : Act) (w : World), l.size = n → Closed md ops l → (∀ j, pre j = true → l.getD j false = true) → wpAny P md ops (peelQ P ops' n Q) fuel l a w → wpAny P md ops' Q (fuel + 1) (l.push false) a w
  | 0, l, a, w, hl, hc, hp, h => by
    have hall := p.listed hl h.1
    refine ⟨fun h0 => ?_, fun i hi => ?_⟩
    · have := (p.ready_last hl hc hp).2 hall
      rw [h0] at this
      cases this
    · rcases p.ready_lt hi with h2 | rfl
      · have := (p.ready_low hl h2).1 hi
        rw [h.1] at this
        cases this
      · exact wpOp_mono (fun a' w' hq => ⟨p.end_ hl hall, hq⟩) h.2
  | fuel + 1, l, a, w, hl, hc, hp, h => by
    refine ⟨fun h0 => ?_, fun i hi => ?_⟩
    · exfalso
      have hr : Region.ready md ops l = [] := by
        rw [List.eq_nil_iff_forall_not_mem]
        intro i hi
        obtain ⟨_, o, ho, _⟩ := ready_iff.1 hi
        obtain ⟨h1, _⟩ := Array.getElem?_eq_some_iff.1 ho
        have := (p.ready_low hl (i := i) (by rw [← p.size]; exact h1)).2 hi
        rw [h0] at this
        cases this
      have := (p.ready_last hl hc hp).2 (p.listed hl hr)
      rw [h0] at this
      cases this
    · rcases p.ready_lt hi with h2 | rfl
      · have hr := (p.ready_low hl h2).1 hi
        refine wpOp_peel (p.at h2) (fun o ho => p.same i o _ ho) (wpOp_mono (fun a' w' hq => ?_) (h.2 i hr))
        rw [push_set_lt l i (by omega)]
        exact wpAny_peelP p fuel _ a' w' (by simpa using hl) (hc.set hr) (fun j hj => set_getD _ _ _ (hp j hj)) hq
      · have hall := (p.ready_last hl hc hp).1 hi
        have hr : Region.ready md ops l = [] := by
          rw [List.eq_nil_iff_forall_not_mem]
          intro j hj
          obtain ⟨h1, o, ho, _⟩ := ready_iff.1 hj
          obtain ⟨h3, _⟩ := Array.getElem?_eq_some_iff.1 ho
          have h4 := hall j (by rw [← p.size]; exact h3)
          simp only [Array.getD_eq_getD_getElem?] at h1 h4
          have he : ∃ b, l[j]? = some b := ⟨l[j]'(by rw [hl, ← p.size]; exact h3), by simp [hl, ← p.size, h3]⟩
          obtain ⟨b, hb⟩ := he
          rw [hb] at h1 h4
          simp at h1 h4
          rw [h1] at h4
          cases h4
        refine wpOp_mono (fun a' w' hq => ?_) (h.1 hr)
        cases fuel with
        | zero => exact ⟨fun _ => hq, fun i hi => by rw [p.end_ hl hall] at hi; cases hi⟩
        | succ fuel => exact ⟨fun _ => hq, fun i hi => by rw [p.end_ hl hall] at hi; cases hi⟩
/-- Does the last operation wait for all others, and these for such as stand ahead of them alone? -/
def peelsPB (pre : Nat → Bool) (ops' : Array Oper) (n : Nat) : Bool :=
  match ops'[n]? with
  | none => false
  | some st =>
    ((List.range n).all fun i => match ops'[i]? with
      | none => false
      | some o => (o.after.all fun e => !Region.binds .any e || decide (e.on < i)) && (match o.guard with | none => true | some (j, _) => decide (j < n))) &&
    ((List.range n).all fun j => pre j || (List.range (n + 1)).any fun k => decide (j < k) && (match ops'[k]? with | none => false | some o => o.after.any fun e => Region.binds .any e && e.on == j)) &&
    (st.after.all fun e => !Region.binds .any e || decide (e.on < n))
theorem peelsP_of {pre : Nat → Bool} {ops' : Array Oper} {n : Nat} (hn : ops'.size = n + 1) (h : peelsPB pre ops' n = true) : ∃ st, PeelsP .any pre ops'.pop ops' st n := by
  unfold peelsPB at h
  cases hs : ops'[n]? with
  | none => rw [hs] at h; cases h
  | some st =>
    rw [hs] at h
    simp only [Bool.and_eq_true, List.all_eq_true, List.mem_range, Array.all_eq_true'] at h
    obtain ⟨⟨h1, h2⟩, h3⟩ := h
    have hp := pop_push hn hs
    have hat : ∀ (i : Nat) (o : Oper), ops'.pop[i]? = some o → i < n ∧ ops'[i]? = some o := fun i o ho => by
      rw [Array.getElem?_pop] at ho
      split at ho
      · exact ⟨by omega, ho⟩
      · cases ho
    refine ⟨st, by rw [Array.size_pop, hn]; omega, hp, fun i o ho e he hb => ?_, fun j hj => ?_, fun e he hb => ?_, fun i o t ho => ?_⟩
    · obtain ⟨hi, ho'⟩ := hat i o ho
      have := h1 i hi
      rw [ho'] at this
      simp only [Bool.and_eq_true, Array.all_eq_true'] at this
      have h4 := this.1 e he
      rw [hb] at h4
      simpa using h4
    · have h5 := h2 j hj
      rw [Bool.or_eq_true] at h5
      rcases h5 with h5 | h5
      · exact .inl h5
      refine .inr ?_
      rw [List.any_eq_true] at h5
      obtain ⟨k, hk, h6⟩ := h5
      rw [List.mem_range] at hk
      rw [Bool.and_eq_true] at h6
      cases ho : ops'[k]? with
      | none => rw [ho] at h6; cases h6.2
      | some o =>
        rw [ho] at h6
        have h7 := h6.2
        simp only [Array.any_eq_true', Bool.and_eq_true, beq_iff_eq] at h7
        obtain ⟨e, he, h8, h9⟩ := h7
        exact ⟨k, o, by simpa using h6.1, by omega, ho, e, he, h8, h9⟩
    · have h4 := h3 e he
      rw [hb] at h4
      simpa using h4
    · obtain ⟨hi, ho'⟩ := hat i o ho
      have := h1 i hi
      rw [ho'] at this
      simp only [Bool.and_eq_true] at this
      unfold Region.wanted
      cases hg : o.guard with
      | none => rfl
      | some q =>
        obtain ⟨j, want⟩ := q
        have h4 := this.2
        rw [hg] at h4
        have hj : j < n := by simpa using h4
        have : yielded ops' t j = yielded ops'.pop t j := by
          unfold yielded
          rw [Array.getElem?_pop, if_pos (by omega)]
        simp only [this]
/-- Has all that has come up come up behind what it waits for? -/
def closedB (ops : Array Oper) (l : Array Bool) : Bool := (List.range ops.size).all fun i => match ops[i]? with
  | none => true
  | some o => !l.getD i false || o.after.all fun e => !Region.binds .any e || l.getD e.on false
theorem closed_of {ops : Array Oper} {l : Array Bool} (h : closedB ops l = true) : Closed .any ops l := by
  intro i o ho hi e he hb
  unfold closedB at h
  rw [List.all_eq_true] at h
  have hlt : i < ops.size := (Array.getElem?_eq_some_iff.1 ho).1
  have h1 := h i (List.mem_range.2 hlt)
  rw [ho] at h1
  simp only [hi, Bool.not_true, Bool.false_or] at h1
  have h2 := (Array.all_eq_true'.1 h1) e he
  rw [hb] at h2
  simpa using h2
/-- The last operation apart, some others having come up ahead of all. -/
theorem wpAny_apart {ops' : Array Oper} {n fuel : Nat} {L l : Array Bool} {a : Act} {w : World} (pre : Nat → Bool) (hL : L = l.push false) (hl : l.size = n) (hn : ops'.size = n + 1) (hp : peelsPB pre ops' n = true) (hc : closedB ops'.pop l = true)
    (hpre : ((List.range n).all fun j => !pre j || l.getD j false) = true) (hout : ∀ j, pre j = true → j < n)
    (h : wpAny P .any ops'.pop (peelQ P ops' n Q) fuel l a w) : wpAny P .any ops' Q (fuel + 1) L a w := by
  obtain ⟨st, p⟩ := peelsP_of hn hp
  subst hL
  refine wpAny_peelP p fuel l a w hl (closed_of hc) (fun j hj => ?_) h
  have := List.all_eq_true.1 hpre j (List.mem_range.2 (hout j hj))
  rw [hj] at this
  simpa using this
end
end Go
