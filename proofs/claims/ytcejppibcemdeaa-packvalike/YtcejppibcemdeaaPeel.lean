/- A region that draws its order and whose last operation waits for all others: the last one is taken apart, and what holds till then need not hold behind it. -/
import Derived.OrdersHeld
import Derived.Deep.RegionHeld3
namespace Go
section
variable {P : Program} {md : Region.Mode} {Q : Exit → Act → World → Prop}

/-- As Q; at the normal end the operation number n comes first. -/
def peelQ (P : Program) (ops : Array Oper) (n : Nat) (Q : Exit → Act → World → Prop) : Exit → Act → World → Prop
  | .normal, a, w => wpOp P ops Q n (fun a' w' => Q .normal a' w') a w
  | e, a, w => Q e a w
theorem Oper.wp_peel {o : Oper} {a : Act} {w : World} {K : Act → World → Prop} {ops : Array Oper} {n : Nat} (hh : o.wp P a w K (peelQ P ops n Q)) : o.wp P a w K Q := by
  unfold Oper.wp at *
  generalize (execOp a.eval o).run P w = r at *
  cases r with
  | ok x w' =>
    cases x <;> simp only [Oper.upon] at hh ⊢ <;> first | exact hh | exact Calls.mono hh (fun e w'' he => by cases e <;> exact he)
  | halt x w' => cases x <;> simp only [Oper.upon] at hh ⊢ <;> exact hh
theorem wpOp_peel {ops ops' : Array Oper} {i n : Nat} {K : Act → World → Prop} {a : Act} {w : World} (hi : ops'[i]? = ops[i]?) (hw : ∀ o, ops[i]? = some o → Region.wanted o (yielded ops' a.tmps) = Region.wanted o (yielded ops a.tmps))
    (hh : wpOp P ops (peelQ P ops' n Q) i K a w) : wpOp P ops' Q i K a w := by
  unfold wpOp at hh ⊢
  rw [hi]
  cases ho : ops[i]? with
  | none => rw [ho] at hh; exact hh
  | some o =>
    rw [ho] at hh
    simp only at hh ⊢
    rw [hw o ho]
    split
    · rename_i h1
      rw [if_pos h1] at hh
      exact hh.imp Oper.wp_peel (fun h => ⟨h.1, h.2⟩)
    · rename_i h1
      rw [if_neg h1] at hh
      exact hh
theorem getD_push_false (l : Array Bool) (k : Nat) : (l.push false).getD k false = l.getD k false := by
  simp only [Array.getD_eq_getD_getElem?, Array.getElem?_push]
  by_cases h : k = l.size
  · subst h; simp
  · rw [if_neg h]
theorem getD_push_lt (l : Array Bool) (k : Nat) (b d : Bool) (h : k < l.size) : (l.push b).getD k d = l.getD k d := by
  simp only [Array.getD_eq_getD_getElem?, Array.getElem?_push]
  rw [if_neg (by omega)]
theorem ready_iff {ops : Array Oper} {l : Array Bool} {i : Nat} : i ∈ Region.ready md ops l ↔ l.getD i true = false ∧ ∃ o, ops[i]? = some o ∧ ∀ e ∈ o.after, Region.binds md e = true → l.getD e.on false = true := by
  unfold Region.ready
  rw [List.mem_filter, List.mem_range]
  cases ho : ops[i]? with
  | none => simp
  | some o =>
    have hlt : i < ops.size := by
      obtain ⟨h, _⟩ := Array.getElem?_eq_some_iff.1 ho
      exact h
    simp only [hlt, true_and, Option.map_some, Option.getD_some, Bool.and_eq_true, Bool.not_eq_true', Option.some.injEq]
    rw [Array.all_eq_true']
    constructor
    · rintro ⟨h1, h2⟩
      refine ⟨h1, o, rfl, fun e he hb => ?_⟩
      have := h2 e he
      rw [hb] at this
      simpa using this
    · rintro ⟨h1, o', rfl, h2⟩
      refine ⟨h1, fun e he => ?_⟩
      cases hb : Region.binds md e
      · rfl
      · simpa using h2 e he hb
/-- The last operation waits for all others (some through others), and these for such as stand ahead of them. -/
structure Peels (md : Region.Mode) (ops ops' : Array Oper) (st : Oper) (n : Nat) : Prop where
  size : ops.size = n
  push : ops' = ops.push st
  low : ∀ (i : Nat) (o : Oper), ops[i]? = some o → ∀ e ∈ o.after, Region.binds md e = true → e.on < i
  all : ∀ j, j < n → ∃ k o, j < k ∧ k ≤ n ∧ ops'[k]? = some o ∧ ∃ e ∈ o.after, Region.binds md e = true ∧ e.on = j
  own : ∀ e ∈ st.after, Region.binds md e = true → e.on < n
  same : ∀ (i : Nat) (o : Oper) (t : Array Value), ops[i]? = some o → Region.wanted o (yielded ops' t) = Region.wanted o (yielded ops t)
theorem Peels.at {ops ops' : Array Oper} {st : Oper} {n : Nat} (p : Peels md ops ops' st n) {i : Nat} (h : i < n) : ops'[i]? = ops[i]? := by
  rw [p.push, Array.getElem?_push, if_neg (by rw [p.size]; omega)]
theorem Peels.last {ops ops' : Array Oper} {st : Oper} {n : Nat} (p : Peels md ops ops' st n) : ops'[n]? = some st := by
  rw [p.push, Array.getElem?_push, if_pos p.size.symm]
/-- Where nothing is ready all has come up. -/
theorem Peels.listed {ops ops' : Array Oper} {st : Oper} {n : Nat} (p : Peels md ops ops' st n) {l : Array Bool} (hl : l.size = n) (h : Region.ready md ops l = []) : ∀ i, i < n → l.getD i false = true := by
  intro i
  induction i using Nat.strongRecOn with
  | _ i ih =>
    intro hi
    cases hb : l.getD i false with
    | true => rfl
    | false =>
      exfalso
      have ho : ∃ o, ops[i]? = some o := ⟨ops[i]'(by rw [p.size]; exact hi), by simp [p.size, hi]⟩
      obtain ⟨o, ho⟩ := ho
      have hm : i ∈ Region.ready md ops l := ready_iff.2 ⟨by
        simp only [Array.getD_eq_getD_getElem?] at hb ⊢
        have : ∃ b, l[i]? = some b := ⟨l[i]'(by rw [hl]; exact hi), by simp [hl, hi]⟩
        obtain ⟨b, hb2⟩ := this
        rw [hb2] at hb ⊢
        exact hb, o, ho, fun e he hbe => ih e.on (p.low i o ho e he hbe) (by have := p.low i o ho e he hbe; omega)⟩
      rw [h] at hm
      cases hm
theorem Peels.ready_low {ops ops' : Array Oper} {st : Oper} {n : Nat} (p : Peels md ops ops' st n) {l : Array Bool} (hl : l.size = n) {i : Nat} (hi : i < n) : i ∈ Region.ready md ops' (l.push false) ↔ i ∈ Region.ready md ops l := by
  rw [ready_iff, ready_iff, p.at hi, getD_push_lt l i false true (by omega)]
  simp only [getD_push_false]
theorem Peels.ready_lt {ops ops' : Array Oper} {st : Oper} {n : Nat} (p : Peels md ops ops' st n) {l : Array Bool} {i : Nat} (h : i ∈ Region.ready md ops' l) : i < n ∨ i = n := by
  obtain ⟨_, o, ho, _⟩ := ready_iff.1 h
  obtain ⟨h1, _⟩ := Array.getElem?_eq_some_iff.1 ho
  rw [p.push, Array.size_push, p.size] at h1
  omega
/-- What has come up came up behind what it waits for. -/
def Closed (md : Region.Mode) (ops : Array Oper) (l : Array Bool) : Prop := ∀ (i : Nat) (o : Oper), ops[i]? = some o → l.getD i false = true → ∀ e ∈ o.after, Region.binds md e = true → l.getD e.on false = true
theorem set_getD (l : Array Bool) (i k : Nat) (h : l.getD k false = true) : (l.setIfInBounds i true).getD k false = true := by
  simp only [Array.getD_eq_getD_getElem?, Array.getElem?_setIfInBounds] at h ⊢
  by_cases hi : i = k
  · subst hi
    rw [if_pos rfl]
    by_cases h2 : i < l.size
    · rw [if_pos h2]; rfl
    · rw [Array.getElem?_eq_none (by omega)] at h; cases h
  · rw [if_neg hi]; exact h
theorem getD_set (l : Array Bool) (i k : Nat) (h : (l.setIfInBounds i true).getD k false = true) (hk : k ≠ i) : l.getD k false = true := by
  simp only [Array.getD_eq_getD_getElem?, Array.getElem?_setIfInBounds] at h ⊢
  rw [if_neg (fun e => hk e.symm)] at h
  exact h
theorem Closed.set {ops : Array Oper} {l : Array Bool} (h : Closed md ops l) {i : Nat} (hi : i ∈ Region.ready md ops l) : Closed md ops (l.setIfInBounds i true) := by
  intro k o ho hk e he hb
  by_cases h1 : k = i
  · subst h1
    obtain ⟨_, o', ho', h2⟩ := ready_iff.1 hi
    rw [ho] at ho'
    obtain rfl := Option.some.inj ho'
    exact set_getD _ _ _ (h2 e he hb)
  · exact set_getD _ _ _ (h k o ho (getD_set l i k hk h1) e he hb)
theorem Peels.covered {ops ops' : Array Oper} {st : Oper} {n : Nat} (p : Peels md ops ops' st n) {l : Array Bool} (hc : Closed md ops l) (h : ∀ e ∈ st.after, Region.binds md e = true → l.getD e.on false = true) : ∀ d j, n - j = d → j < n → l.getD j false = true := by
  intro d
  induction d using Nat.strongRecOn with
  | _ d ih =>
    intro j hd hj
    obtain ⟨k, o, h1, h2, ho, e, he, hb, rfl⟩ := p.all j hj
    by_cases hk : k = n
    · subst hk
      rw [p.last] at ho
      obtain rfl := Option.some.inj ho
      exact h e he hb
    · have hk2 : k < n := by omega
      rw [p.at hk2] at ho
      exact hc k o ho (ih (n - k) (by omega) k rfl hk2) e he hb
theorem Peels.ready_last {ops ops' : Array Oper} {st : Oper} {n : Nat} (p : Peels md ops ops' st n) {l : Array Bool} (hl : l.size = n) (hc : Closed md ops l) : n ∈ Region.ready md ops' (l.push false) ↔ ∀ i, i < n → l.getD i false = true := by
  rw [ready_iff]
  constructor
  · rintro ⟨_, o, ho, h⟩ i hi
    rw [p.last] at ho
    obtain rfl := Option.some.inj ho
    refine p.covered hc (fun e he hb => ?_) _ i rfl hi
    have := h e he hb
    rwa [getD_push_false] at this
  · intro h
    refine ⟨by simp [Array.getD_eq_getD_getElem?, ← hl], st, p.last, fun e he hb => ?_⟩
    rw [getD_push_false]
    exact h e.on (p.own e he hb)
theorem push_set_lt (l : Array Bool) (i : Nat) (h : i < l.size) : (l.push false).setIfInBounds i true = (l.setIfInBounds i true).push false := by
  apply Array.ext_getElem?
  intro j
  rw [Array.getElem?_setIfInBounds, Array.getElem?_push, Array.getElem?_push, Array.getElem?_setIfInBounds, Array.size_setIfInBounds, Array.size_push]
  by_cases hj : j = l.size
  · subst hj
    rw [if_neg (by omega), if_pos rfl, if_pos rfl]
  · rw [if_neg hj, if_neg hj]
    by_cases hi : i = j
    · subst hi; rw [if_pos rfl, if_pos rfl, if_pos (by omega), if_pos h]
    · rw [if_neg hi, if_neg hi]
theorem Peels.end_ {ops ops' : Array Oper} {st : Oper} {n : Nat} (p : Peels md ops ops' st n) {l : Array Bool} (hl : l.size = n) (h : ∀ i, i < n → l.getD i false = true) : Region.ready md ops' ((l.push false).setIfInBounds n true) = [] := by
  rw [List.eq_nil_iff_forall_not_mem]
  intro i hi
  have hlt := p.ready_lt hi
  obtain ⟨h1, _⟩ := ready_iff.1 hi
  rcases hlt with h2 | rfl
  · have := h i h2
    simp only [Array.getD_eq_getD_getElem?, Array.getElem?_setIfInBounds, Array.getElem?_push] at h1 this
    rw [if_neg (by omega), if_neg (by omega)] at h1
    have he : ∃ b, l[i]? = some b := ⟨l[i]'(by rw [hl]; exact h2), by simp [hl, h2]⟩
    obtain ⟨b, hb⟩ := he
    rw [hb] at h1 this
    simp at h1 this
    rw [h1] at this
    cases this
  · simp [Array.getD_eq_getD_getElem?, ← hl] at h1
theorem wpAny_peel {ops ops' : Array Oper} {st : Oper} {n : Nat} (p : Peels md ops ops' st n) : ∀ (fuel : Nat) (l : Array Bool) (a : Act) (w : World), l.size = n → Closed md ops l → wpAny P md ops (peelQ P ops' n Q) fuel l a w → wpAny P md ops' Q (fuel + 1) (l.push false) a w
  | 0, l, a, w, hl, hc, h => by
    have hall := p.listed hl h.1
    refine ⟨fun h0 => ?_, fun i hi => ?_⟩
    · have := (p.ready_last hl hc).2 hall
      rw [h0] at this
      cases this
    · rcases p.ready_lt hi with h2 | rfl
      · have := (p.ready_low hl h2).1 hi
        rw [h.1] at this
        cases this
      · exact wpOp_mono (fun a' w' hq => ⟨p.end_ hl hall, hq⟩) h.2
  | fuel + 1, l, a, w, hl, hc, h => by
    refine ⟨fun h0 => ?_, fun i hi => ?_⟩
    · exfalso
      have hr : Region.ready md ops l = [] := by
        rw [List.eq_nil_iff_forall_not_mem]
        intro i hi
        obtain ⟨_, o, ho, _⟩ := ready_iff.1 hi
        obtain ⟨h1, _⟩ := Array.getElem?_eq_some_iff.1 ho
        have := (p.ready_low hl (i := i) (by rw [← p.size]; exact h1)).2 hi
        rw [h0] at this
        cases this
      have := (p.ready_last hl hc).2 (p.listed hl hr)
      rw [h0] at this
      cases this
    · rcases p.ready_lt hi with h2 | rfl
      · have hr := (p.ready_low hl h2).1 hi
        refine wpOp_peel (p.at h2) (fun o ho => p.same i o _ ho) (wpOp_mono (fun a' w' hq => ?_) (h.2 i hr))
        rw [push_set_lt l i (by omega)]
        exact wpAny_peel p fuel _ a' w' (by simpa using hl) (hc.set hr) hq
      · have hall := (p.ready_last hl hc).1 hi
        have hr : Region.ready md ops l = [] := by
          rw [List.eq_nil_iff_forall_not_mem]
          intro j hj
          obtain ⟨h1, o, ho, _⟩ := ready_iff.1 hj
          obtain ⟨h3, _⟩ := Array.getElem?_eq_some_iff.1 ho
          have h4 := hall j (by rw [← p.size]; exact h3)
          simp only [Array.getD_eq_getD_getElem?] at h1 h4
          have he : ∃ b, l[j]? = some b := ⟨l[j]'(by rw [hl, ← p.size]; exact h3), by simp [hl, ← p.size, h3]⟩
          obtain ⟨b, hb⟩ := he
          rw [hb] at h1 h4
          simp at h1 h4
          rw [h1] at h4
          cases h4
        refine wpOp_mono (fun a' w' hq => ?_) (h.1 hr)
        cases fuel with
        | zero => exact ⟨fun _ => hq, fun i hi => by rw [p.end_ hl hall] at hi; cases hi⟩
        | succ fuel => exact ⟨fun _ => hq, fun i hi => by rw [p.end_ hl hall] at hi; cases hi⟩
/-- Does the last operation wait for all others, and these for such as stand ahead of them alone? -/
def peelsB (ops' : Array Oper) (n : Nat) : Bool :=
  match ops'[n]? with
  | none => false
  | some st =>
    ((List.range n).all fun i => match ops'[i]? with
      | none => false
      | some o => (o.after.all fun e => !Region.binds .any e || decide (e.on < i)) && (match o.guard with | none => true | some (j, _) => decide (j < n))) &&
    ((List.range n).all fun j => (List.range (n + 1)).any fun k => decide (j < k) && (match ops'[k]? with | none => false | some o => o.after.any fun e => Region.binds .any e && e.on == j)) &&
    (st.after.all fun e => !Region.binds .any e || decide (e.on < n))
theorem pop_push {ops' : Array Oper} {n : Nat} (hn : ops'.size = n + 1) {st : Oper} (h : ops'[n]? = some st) : ops' = ops'.pop.push st := by
  apply Array.ext_getElem?
  intro j
  rw [Array.getElem?_push, Array.size_pop, hn]
  by_cases hj : j = n
  · subst hj; rw [if_pos (by omega), h]
  · rw [if_neg (by omega), Array.getElem?_pop]
    by_cases h2 : j < ops'.size - 1
    · rw [if_pos h2]
    · rw [if_neg h2, Array.getElem?_eq_none (by omega)]
theorem peels_of {ops' : Array Oper} {n : Nat} (hn : ops'.size = n + 1) (h : peelsB ops' n = true) : ∃ st, Peels .any ops'.pop ops' st n := by
  unfold peelsB at h
  cases hs : ops'[n]? with
  | none => rw [hs] at h; cases h
  | some st =>
    rw [hs] at h
    simp only [Bool.and_eq_true, List.all_eq_true, List.mem_range, Array.all_eq_true'] at h
    obtain ⟨⟨h1, h2⟩, h3⟩ := h
    have hp := pop_push hn hs
    have hat : ∀ (i : Nat) (o : Oper), ops'.pop[i]? = some o → i < n ∧ ops'[i]? = some o := fun i o ho => by
      rw [Array.getElem?_pop] at ho
      split at ho
      · exact ⟨by omega, ho⟩
      · cases ho
    refine ⟨st, by rw [Array.size_pop, hn]; omega, hp, fun i o ho e he hb => ?_, fun j hj => ?_, fun e he hb => ?_, fun i o t ho => ?_⟩
    · obtain ⟨hi, ho'⟩ := hat i o ho
      have := h1 i hi
      rw [ho'] at this
      simp only [Bool.and_eq_true, Array.all_eq_true'] at this
      have h4 := this.1 e he
      rw [hb] at h4
      simpa using h4
    · have h5 := h2 j hj
      rw [List.any_eq_true] at h5
      obtain ⟨k, hk, h6⟩ := h5
      rw [List.mem_range] at hk
      rw [Bool.and_eq_true] at h6
      cases ho : ops'[k]? with
      | none => rw [ho] at h6; cases h6.2
      | some o =>
        rw [ho] at h6
        have h7 := h6.2
        simp only [Array.any_eq_true', Bool.and_eq_true, beq_iff_eq] at h7
        obtain ⟨e, he, h8, h9⟩ := h7
        exact ⟨k, o, by simpa using h6.1, by omega, ho, e, he, h8, h9⟩
    · have h4 := h3 e he
      rw [hb] at h4
      simpa using h4
    · obtain ⟨hi, ho'⟩ := hat i o ho
      have := h1 i hi
      rw [ho'] at this
      simp only [Bool.and_eq_true] at this
      unfold Region.wanted
      cases hg : o.guard with
      | none => rfl
      | some q =>
        obtain ⟨j, want⟩ := q
        have h4 := this.2
        rw [hg] at h4
        have hj : j < n := by simpa using h4
        have : yielded ops' t j = yielded ops'.pop t j := by
          unfold yielded
          rw [Array.getElem?_pop, if_pos (by omega)]
        simp only [this]
/-- A region that draws its order, without its last operation, which waits for all others: what S says need not hold behind that one. -/
theorem wp_region_peel {id : Nat} {ops' : Array Oper} {a : Act} {w : World} {S : World → Prop} (n : Nat) (hm : P.follows .mixedOrders = true) (hn : ops'.size = n + 1) (hp : peelsB ops' n = true) (hS : S w.drew)
    (h : S w.drew → wpAnyH P .any ops'.pop (peelQ P ops' n Q) S n (Array.replicate n false) a w.drew) : (Code.region id ops' true).wp P Q a w := by
  obtain ⟨st, p⟩ := peels_of hn hp
  refine wp_region_any hm ?_
  have := wpAny_peel p n (Array.replicate n false) a w.drew (by simp) (fun i o _ hi => by
    simp only [Array.getD_eq_getD_getElem?, Array.getElem?_replicate] at hi
    split at hi <;> cases hi) (wpAny_of_held _ _ _ _ (h hS))
  rw [hn, Array.replicate_succ]
  exact this
/-- The last operation, at the end. -/
theorem peel_last {ops : Array Oper} {n : Nat} {o : Oper} {a : Act} {w : World} (ho : ops[n]? = some o)
    (h : ∀ K' : Act → World → Prop, (∀ a w, Q .normal a w → K' a w) → if Region.wanted o (yielded ops a.tmps) = true then Oper.wp P o a w K' Q else K' (a.put o.dst undef) w) : peelQ P ops n Q .normal a w :=
  wpOp_step ho h
end
end Go
