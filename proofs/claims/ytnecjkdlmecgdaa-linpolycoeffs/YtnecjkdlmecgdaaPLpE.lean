/- Jumps to several labels; the contract of linpoly's value over the seat's translation. -/
import Derived.Test.YtnecjkdlmecgdaaPSlA
import Derived.ScopeJumps
import Derived.WalkMore
import Derived.OrdersHeld
import Derived.Deep.RegionHeld3
import Derived.BigQuiet
namespace Go

/-- As Q; by a goto to a label: what J says of it. -/
def Exit.jumps (J : Nat → Act → World → Prop) (Q : Exit → Act → World → Prop) : Exit → Act → World → Prop
  | .goto l, a, w => J l a w
  | e, a, w => Q e a w
theorem Exit.jumps_ret {J : Nat → Act → World → Prop} {Q : Exit → Act → World → Prop} {a : Act} {w : World} : Exit.jumps J Q .ret a w = Q .ret a w := rfl
/-- A scope in which the run jumps to several labels: what holds at every jump, and a measure that every pass lowers. -/
theorem wp_scope_many {P : Program} {a : Act} {w : World} {Q : Exit → Act → World → Prop} {c : Code} (J : Nat → Act → World → Prop) (μ : Nat → Act → World → Nat)
    (first : c.wp P (Exit.jumps J Q) a w)
    (pass : ∀ l a w, J l a w → ∃ r, findLabel c l = some r ∧ r.wp P (Exit.jumps (fun l' a' w' => J l' a' w' ∧ μ l' a' w' < μ l a w) Q) a w) : (Code.scope c).wp P Q a w := by
  intro b k cs
  have key : ∀ n l a w, μ l a w = n → J l a w → ∃ r, gotoIn l (.inScope c :: k) = some (.code r :: .inScope c :: k) ∧ ∃ e a' w', Q e a' w' ∧ Arrives P (lone (b.at a (.code r :: .inScope c :: k)) cs w) b k cs e a' w' := by
    intro n
    induction n using Nat.strongRecOn with
    | _ n ih =>
      intro l a w hn hJ
      obtain ⟨r, hr, hw⟩ := pass l a w hJ
      refine ⟨r, by simp [gotoIn, hr], ?_⟩
      obtain ⟨e, a₁, w₁, hq, harr⟩ := hw b (.inScope c :: k) cs
      cases e with
      | normal => exact ⟨.normal, a₁, w₁, hq, Steps.trans harr (.one step_inScope)⟩
      | exit id => exact ⟨.exit id, a₁, w₁, hq, fun k' hk => harr k' (by simp [exitTo, hk])⟩
      | goto l' =>
        obtain ⟨hJ', hlt⟩ := hq
        obtain ⟨r', hg', e₂, a₂, w₂, hq₂, harr₂⟩ := ih _ (by omega) l' a₁ w₁ rfl hJ'
        exact ⟨e₂, a₂, w₂, hq₂, .of_steps (harr _ hg') harr₂⟩
      | ret => exact ⟨_, a₁, w₁, hq, harr⟩
      | panic ch => exact ⟨_, a₁, w₁, hq, harr⟩
      | outgrown => exact ⟨_, a₁, w₁, hq, harr⟩
  obtain ⟨e, a₁, w₁, hq, harr⟩ := first b (.inScope c :: k) cs
  cases e with
  | normal => exact ⟨.normal, a₁, w₁, hq, .head step_scope (Steps.trans harr (.one step_inScope))⟩
  | exit id => exact ⟨.exit id, a₁, w₁, hq, fun k' hk => .head step_scope (harr k' (by simp [exitTo, hk]))⟩
  | goto l' =>
    obtain ⟨r', hg', e₂, a₂, w₂, hq₂, harr₂⟩ := key _ l' a₁ w₁ rfl hq
    exact ⟨e₂, a₂, w₂, hq₂, .of_steps (.head step_scope (harr _ hg')) harr₂⟩
  | ret => exact ⟨_, a₁, w₁, hq, .of_steps (.one step_scope) harr⟩
  | panic ch => exact ⟨_, a₁, w₁, hq, .of_steps (.one step_scope) harr⟩
  | outgrown => exact ⟨_, a₁, w₁, hq, .of_steps (.one step_scope) harr⟩
end Go

/- A region that draws its order and whose last operation waits for all others: the last one is taken apart, and what holds till then need not hold behind it. -/
namespace Go
section
variable {P : Program} {md : Region.Mode} {Q : Exit → Act → World → Prop}

/-- As Q; at the normal end the operation number n comes first. -/
def peelQ (P : Program) (ops : Array Oper) (n : Nat) (Q : Exit → Act → World → Prop) : Exit → Act → World → Prop
  | .normal, a, w => wpOp P ops Q n (fun a' w' => Q .normal a' w') a w
  | e, a, w => Q e a w
theorem Oper.wp_peel {o : Oper} {a : Act} {w : World} {K : Act → World → Prop} {ops : Array Oper} {n : Nat} (hh : o.wp P a w K (peelQ P ops n Q)) : o.wp P a w K Q := by
  unfold Oper.wp at *
  generalize (execOp a.eval o).run P w = r at *
  cases r with
  | ok x w' =>
    cases x <;> simp only [Oper.upon] at hh ⊢ <;> first | exact hh | exact Calls.mono hh (fun e w'' he => by cases e <;> exact he)
  | halt x w' => cases x <;> simp only [Oper.upon] at hh ⊢ <;> exact hh
theorem wpOp_peel {ops ops' : Array Oper} {i n : Nat} {K : Act → World → Prop} {a : Act} {w : World} (hi : ops'[i]? = ops[i]?) (hw : ∀ o, ops[i]? = some o → Region.wanted o (yielded ops' a.tmps) = Region.wanted o (yielded ops a.tmps))
    (hh : wpOp P ops (peelQ P ops' n Q) i K a w) : wpOp P ops' Q i K a w := by
  unfold wpOp at hh ⊢
  rw [hi]
  cases ho : ops[i]? with
  | none => rw [ho] at hh; exact hh
  | some o =>
    rw [ho] at hh
    simp only at hh ⊢
    rw [hw o ho]
    split
    · rename_i h1
      rw [if_pos h1] at hh
      exact hh.imp Oper.wp_peel (fun h => ⟨h.1, h.2⟩)
    · rename_i h1
      rw [if_neg h1] at hh
      exact hh
theorem getD_push_false (l : Array Bool) (k : Nat) : (l.push false).getD k false = l.getD k false := by
  simp only [Array.getD_eq_getD_getElem?, Array.getElem?_push]
  by_cases h : k = l.size
  · subst h; simp
  · rw [if_neg h]
theorem getD_push_lt (l : Array Bool) (k : Nat) (b d : Bool) (h : k < l.size) : (l.push b).getD k d = l.getD k d := by
  simp only [Array.getD_eq_getD_getElem?, Array.getElem?_push]
  rw [if_neg (by omega)]
theorem ready_iff {ops : Array Oper} {l : Array Bool} {i : Nat} : i ∈ Region.ready md ops l ↔ l.getD i true = false ∧ ∃ o, ops[i]? = some o ∧ ∀ e ∈ o.after, Region.binds md e = true → l.getD e.on false = true := by
  unfold Region.ready
  rw [List.mem_filter, List.mem_range]
  cases ho : ops[i]? with
  | none => simp
  | some o =>
    have hlt : i < ops.size := by
      obtain ⟨h, _⟩ := Array.getElem?_eq_some_iff.1 ho
      exact h
    simp only [hlt, true_and, Option.map_some, Option.getD_some, Bool.and_eq_true, Bool.not_eq_true', Option.some.injEq]
    rw [Array.all_eq_true']
    constructor
    · rintro ⟨h1, h2⟩
      refine ⟨h1, o, rfl, fun e he hb => ?_⟩
      have := h2 e he
      rw [hb] at this
      simpa using this
    · rintro ⟨h1, o', rfl, h2⟩
      refine ⟨h1, fun e he => ?_⟩
      cases hb : Region.binds md e
      · rfl
      · simpa using h2 e he hb
/-- The last operation waits for all others (some through others), and these for such as stand ahead of them. -/
structure Peels (md : Region.Mode) (ops ops' : Array Oper) (st : Oper) (n : Nat) : Prop where
  size : ops.size = n
  push : ops' = ops.push st
  low : ∀ (i : Nat) (o : Oper), ops[i]? = some o → ∀ e ∈ o.after, Region.binds md e = true → e.on < i
  all : ∀ j, j < n → ∃ k o, j < k ∧ k ≤ n ∧ ops'[k]? = some o ∧ ∃ e ∈ o.after, Region.binds md e = true ∧ e.on = j
  own : ∀ e ∈ st.after, Region.binds md e = true → e.on < n
  same : ∀ (i : Nat) (o : Oper) (t : Array Value), ops[i]? = some o → Region.wanted o (yielded ops' t) = Region.wanted o (yielded ops t)
theorem Peels.at {ops ops' : Array Oper} {st : Oper} {n : Nat} (p : Peels md ops ops' st n) {i : Nat} (h : i < n) : ops'[i]? = ops[i]? := by
  rw [p.push, Array.getElem?_push, if_neg (by rw [p.size]; omega)]
theorem Peels.last {ops ops' : Array Oper} {st : Oper} {n : Nat} (p : Peels md ops ops' st n) : ops'[n]? = some st := by
  rw [p.push, Array.getElem?_push, if_pos p.size.symm]
/-- Where nothing is ready all has come up. -/
theorem Peels.listed {ops ops' : Array Oper} {st : Oper} {n : Nat} (p : Peels md ops ops' st n) {l : Array Bool} (hl : l.size = n) (h : Region.ready md ops l = []) : ∀ i, i < n → l.getD i false = true := by
  intro i
  induction i using Nat.strongRecOn with
  | _ i ih =>
    intro hi
    cases hb : l.getD i false with
    | true => rfl
    | false =>
      exfalso
      have ho : ∃ o, ops[i]? = some o := ⟨ops[i]'(by rw [p.size]; exact hi), by simp [p.size, hi]⟩
      obtain ⟨o, ho⟩ := ho
      have hm : i ∈ Region.ready md ops l := ready_iff.2 ⟨by
        simp only [Array.getD_eq_getD_getElem?] at hb ⊢
        have : ∃ b, l[i]? = some b := ⟨l[i]'(by rw [hl]; exact hi), by simp [hl, hi]⟩
        obtain ⟨b, hb2⟩ := this
        rw [hb2] at hb ⊢
        exact hb, o, ho, fun e he hbe => ih e.on (p.low i o ho e he hbe) (by have := p.low i o ho e he hbe; omega)⟩
      rw [h] at hm
      cases hm
theorem Peels.ready_low {ops ops' : Array Oper} {st : Oper} {n : Nat} (p : Peels md ops ops' st n) {l : Array Bool} (hl : l.size = n) {i : Nat} (hi : i < n) : i ∈ Region.ready md ops' (l.push false) ↔ i ∈ Region.ready md ops l := by
  rw [ready_iff, ready_iff, p.at hi, getD_push_lt l i false true (by omega)]
  simp only [getD_push_false]
theorem Peels.ready_lt {ops ops' : Array Oper} {st : Oper} {n : Nat} (p : Peels md ops ops' st n) {l : Array Bool} {i : Nat} (h : i ∈ Region.ready md ops' l) : i < n ∨ i = n := by
  obtain ⟨_, o, ho, _⟩ := ready_iff.1 h
  obtain ⟨h1, _⟩ := Array.getElem?_eq_some_iff.1 ho
  rw [p.push, Array.size_push, p.size] at h1
  omega
/-- What has come up came up behind what it waits for. -/
def Closed (md : Region.Mode) (ops : Array Oper) (l : Array Bool) : Prop := ∀ (i : Nat) (o : Oper), ops[i]? = some o → l.getD i false = true → ∀ e ∈ o.after, Region.binds md e = true → l.getD e.on false = true
theorem set_getD (l : Array Bool) (i k : Nat) (h : l.getD k false = true) : (l.setIfInBounds i true).getD k false = true := by
  simp only [Array.getD_eq_getD_getElem?, Array.getElem?_setIfInBounds] at h ⊢
  by_cases hi : i = k
  · subst hi
    rw [if_pos rfl]
    by_cases h2 : i < l.size
    · rw [if_pos h2]; rfl
    · rw [Array.getElem?_eq_none (by omega)] at h; cases h
  · rw [if_neg hi]; exact h
theorem getD_set (l : Array Bool) (i k : Nat) (h : (l.setIfInBounds i true).getD k false = true) (hk : k ≠ i) : l.getD k false = true := by
  simp only [Array.getD_eq_getD_getElem?, Array.getElem?_setIfInBounds] at h ⊢
  rw [if_neg (fun e => hk e.symm)] at h
  exact h
theorem Closed.set {ops : Array Oper} {l : Array Bool} (h : Closed md ops l) {i : Nat} (hi : i ∈ Region.ready md ops l) : Closed md ops (l.setIfInBounds i true) := by
  intro k o ho hk e he hb
  by_cases h1 : k = i
  · subst h1
    obtain ⟨_, o', ho', h2⟩ := ready_iff.1 hi
    rw [ho] at ho'
    obtain rfl := Option.some.inj ho'
    exact set_getD _ _ _ (h2 e he hb)
  · exact set_getD _ _ _ (h k o ho (getD_set l i k hk h1) e he hb)
theorem Peels.covered {ops ops' : Array Oper} {st : Oper} {n : Nat} (p : Peels md ops ops' st n) {l : Array Bool} (hc : Closed md ops l) (h : ∀ e ∈ st.after, Region.binds md e = true → l.getD e.on false = true) : ∀ d j, n - j = d → j < n → l.getD j false = true := by
  intro d
  induction d using Nat.strongRecOn with
  | _ d ih =>
    intro j hd hj
    obtain ⟨k, o, h1, h2, ho, e, he, hb, rfl⟩ := p.all j hj
    by_cases hk : k = n
    · subst hk
      rw [p.last] at ho
      obtain rfl := Option.some.inj ho
      exact h e he hb
    · have hk2 : k < n := by omega
      rw [p.at hk2] at ho
      exact hc k o ho (ih (n - k) (by omega) k rfl hk2) e he hb
theorem Peels.ready_last {ops ops' : Array Oper} {st : Oper} {n : Nat} (p : Peels md ops ops' st n) {l : Array Bool} (hl : l.size = n) (hc : Closed md ops l) : n ∈ Region.ready md ops' (l.push false) ↔ ∀ i, i < n → l.getD i false = true := by
  rw [ready_iff]
  constructor
  · rintro ⟨_, o, ho, h⟩ i hi
    rw [p.last] at ho
    obtain rfl := Option.some.inj ho
    refine p.covered hc (fun e he hb => ?_) _ i rfl hi
    have := h e he hb
    rwa [getD_push_false] at this
  · intro h
    refine ⟨by simp [Array.getD_eq_getD_getElem?, ← hl], st, p.last, fun e he hb => ?_⟩
    rw [getD_push_false]
    exact h e.on (p.own e he hb)
theorem push_set_lt (l : Array Bool) (i : Nat) (h : i < l.size) : (l.push false).setIfInBounds i true = (l.setIfInBounds i true).push false := by
  apply Array.ext_getElem?
  intro j
  rw [Array.getElem?_setIfInBounds, Array.getElem?_push, Array.getElem?_push, Array.getElem?_setIfInBounds, Array.size_setIfInBounds, Array.size_push]
  by_cases hj : j = l.size
  · subst hj
    rw [if_neg (by omega), if_pos rfl, if_pos rfl]
  · rw [if_neg hj, if_neg hj]
    by_cases hi : i = j
    · subst hi; rw [if_pos rfl, if_pos rfl, if_pos (by omega), if_pos h]
    · rw [if_neg hi, if_neg hi]
theorem Peels.end_ {ops ops' : Array Oper} {st : Oper} {n : Nat} (p : Peels md ops ops' st n) {l : Array Bool} (hl : l.size = n) (h : ∀ i, i < n → l.getD i false = true) : Region.ready md ops' ((l.push false).setIfInBounds n true) = [] := by
  rw [List.eq_nil_iff_forall_not_mem]
  intro i hi
  have hlt := p.ready_lt hi
  obtain ⟨h1, _⟩ := ready_iff.1 hi
  rcases hlt with h2 | rfl
  · have := h i h2
    simp only [Array.getD_eq_getD_getElem?, Array.getElem?_setIfInBounds, Array.getElem?_push] at h1 this
    rw [if_neg (by omega), if_neg (by omega)] at h1
    have he : ∃ b, l[i]? = some b := ⟨l[i]'(by rw [hl]; exact h2), by simp [hl, h2]⟩
    obtain ⟨b, hb⟩ := he
    rw [hb] at h1 this
    simp at h1 this
    rw [h1] at this
    cases this
  · simp [Array.getD_eq_getD_getElem?, ← hl] at h1
theorem wpAny_peel {ops ops' : Array Oper} {st : Oper} {n : Nat} (p : Peels md ops ops' st n) : ∀ (fuel : Nat) (l : Array Bool) (a : Act) (w : World), l.size = n → Closed md ops l → wpAny P md ops (peelQ P ops' n Q) fuel l a w → wpAny P md ops' Q (fuel + 1) (l.push false) a w
  | 0, l, a, w, hl, hc, h => by
    have hall := p.listed hl h.1
    refine ⟨fun h0 => ?_, fun i hi => ?_⟩
    · have := (p.ready_last hl hc).2 hall
      rw [h0] at this
      cases this
    · rcases p.ready_lt hi with h2 | rfl
      · have := (p.ready_low hl h2).1 hi
        rw [h.1] at this
        cases this
      · exact wpOp_mono (fun a' w' hq => ⟨p.end_ hl hall, hq⟩) h.2
  | fuel + 1, l, a, w, hl, hc, h => by
    refine ⟨fun h0 => ?_, fun i hi => ?_⟩
    · exfalso
      have hr : Region.ready md ops l = [] := by
        rw [List.eq_nil_iff_forall_not_mem]
        intro i hi
        obtain ⟨_, o, ho, _⟩ := ready_iff.1 hi
        obtain ⟨h1, _⟩ := Array.getElem?_eq_some_iff.1 ho
        have := (p.ready_low hl (i := i) (by rw [← p.size]; exact h1)).2 hi
        rw [h0] at this
        cases this
      have := (p.ready_last hl hc).2 (p.listed hl hr)
      rw [h0] at this
      cases this
    · rcases p.ready_lt hi with h2 | rfl
      · have hr := (p.ready_low hl h2).1 hi
        refine wpOp_peel (p.at h2) (fun o ho => p.same i o _ ho) (wpOp_mono (fun a' w' hq => ?_) (h.2 i hr))
        rw [push_set_lt l i (by omega)]
        exact wpAny_peel p fuel _ a' w' (by simpa using hl) (hc.set hr) hq
      · have hall := (p.ready_last hl hc).1 hi
        have hr : Region.ready md ops l = [] := by
          rw [List.eq_nil_iff_forall_not_mem]
          intro j hj
          obtain ⟨h1, o, ho, _⟩ := ready_iff.1 hj
          obtain ⟨h3, _⟩ := Array.getElem?_eq_some_iff.1 ho
          have h4 := hall j (by rw [← p.size]; exact h3)
          simp only [Array.getD_eq_getD_getElem?] at h1 h4
          have he : ∃ b, l[j]? = some b := ⟨l[j]'(by rw [hl, ← p.size]; exact h3), by simp [hl, ← p.size, h3]⟩
          obtain ⟨b, hb⟩ := he
          rw [hb] at h1 h4
          simp at h1 h4
          rw [h1] at h4
          cases h4
        refine wpOp_mono (fun a' w' hq => ?_) (h.1 hr)
        cases fuel with
        | zero => exact ⟨fun _ => hq, fun i hi => by rw [p.end_ hl hall] at hi; cases hi⟩
        | succ fuel => exact ⟨fun _ => hq, fun i hi => by rw [p.end_ hl hall] at hi; cases hi⟩
/-- Does the last operation wait for all others, and these for such as stand ahead of them alone? -/
def peelsB (ops' : Array Oper) (n : Nat) : Bool :=
  match ops'[n]? with
  | none => false
  | some st =>
    ((List.range n).all fun i => match ops'[i]? with
      | none => false
      | some o => (o.after.all fun e => !Region.binds .any e || decide (e.on < i)) && (match o.guard with | none => true | some (j, _) => decide (j < n))) &&
    ((List.range n).all fun j => (List.range (n + 1)).any fun k => decide (j < k) && (match ops'[k]? with | none => false | some o => o.after.any fun e => Region.binds .any e && e.on == j)) &&
    (st.after.all fun e => !Region.binds .any e || decide (e.on < n))
theorem pop_push {ops' : Array Oper} {n : Nat} (hn : ops'.size = n + 1) {st : Oper} (h : ops'[n]? = some st) : ops' = ops'.pop.push st := by
  apply Array.ext_getElem?
  intro j
  rw [Array.getElem?_push, Array.size_pop, hn]
  by_cases hj : j = n
  · subst hj; rw [if_pos (by omega), h]
  · rw [if_neg (by omega), Array.getElem?_pop]
    by_cases h2 : j < ops'.size - 1
    · rw [if_pos h2]
    · rw [if_neg h2, Array.getElem?_eq_none (by omega)]
theorem peels_of {ops' : Array Oper} {n : Nat} (hn : ops'.size = n + 1) (h : peelsB ops' n = true) : ∃ st, Peels .any ops'.pop ops' st n := by
  unfold peelsB at h
  cases hs : ops'[n]? with
  | none => rw [hs] at h; cases h
  | some st =>
    rw [hs] at h
    simp only [Bool.and_eq_true, List.all_eq_true, List.mem_range, Array.all_eq_true'] at h
    obtain ⟨⟨h1, h2⟩, h3⟩ := h
    have hp := pop_push hn hs
    have hat : ∀ (i : Nat) (o : Oper), ops'.pop[i]? = some o → i < n ∧ ops'[i]? = some o := fun i o ho => by
      rw [Array.getElem?_pop] at ho
      split at ho
      · exact ⟨by omega, ho⟩
      · cases ho
    refine ⟨st, by rw [Array.size_pop, hn]; omega, hp, fun i o ho e he hb => ?_, fun j hj => ?_, fun e he hb => ?_, fun i o t ho => ?_⟩
    · obtain ⟨hi, ho'⟩ := hat i o ho
      have := h1 i hi
      rw [ho'] at this
      simp only [Bool.and_eq_true, Array.all_eq_true'] at this
      have h4 := this.1 e he
      rw [hb] at h4
      simpa using h4
    · have h5 := h2 j hj
      rw [List.any_eq_true] at h5
      obtain ⟨k, hk, h6⟩ := h5
      rw [List.mem_range] at hk
      rw [Bool.and_eq_true] at h6
      cases ho : ops'[k]? with
      | none => rw [ho] at h6; cases h6.2
      | some o =>
        rw [ho] at h6
        have h7 := h6.2
        simp only [Array.any_eq_true', Bool.and_eq_true, beq_iff_eq] at h7
        obtain ⟨e, he, h8, h9⟩ := h7
        exact ⟨k, o, by simpa using h6.1, by omega, ho, e, he, h8, h9⟩
    · have h4 := h3 e he
      rw [hb] at h4
      simpa using h4
    · obtain ⟨hi, ho'⟩ := hat i o ho
      have := h1 i hi
      rw [ho'] at this
      simp only [Bool.and_eq_true] at this
      unfold Region.wanted
      cases hg : o.guard with
      | none => rfl
      | some q =>
        obtain ⟨j, want⟩ := q
        have h4 := this.2
        rw [hg] at h4
        have hj : j < n := by simpa using h4
        have : yielded ops' t j = yielded ops'.pop t j := by
          unfold yielded
          rw [Array.getElem?_pop, if_pos (by omega)]
        simp only [this]
/-- A region that draws its order, without its last operation, which waits for all others: what S says need not hold behind that one. -/
theorem wp_region_peel {id : Nat} {ops' : Array Oper} {a : Act} {w : World} {S : World → Prop} (n : Nat) (hm : P.follows .mixedOrders = true) (hn : ops'.size = n + 1) (hp : peelsB ops' n = true) (hS : S w.drew)
    (h : S w.drew → wpAnyH P .any ops'.pop (peelQ P ops' n Q) S n (Array.replicate n false) a w.drew) : (Code.region id ops' true).wp P Q a w := by
  obtain ⟨st, p⟩ := peels_of hn hp
  refine wp_region_any hm ?_
  have := wpAny_peel p n (Array.replicate n false) a w.drew (by simp) (fun i o _ hi => by
    simp only [Array.getD_eq_getD_getElem?, Array.getElem?_replicate] at hi
    split at hi <;> cases hi) (wpAny_of_held _ _ _ _ (h hS))
  rw [hn, Array.replicate_succ]
  exact this
/-- The last operation, at the end. -/
theorem peel_last {ops : Array Oper} {n : Nat} {o : Oper} {a : Act} {w : World} (ho : ops[n]? = some o)
    (h : ∀ K' : Act → World → Prop, (∀ a w, Q .normal a w → K' a w) → if Region.wanted o (yielded ops a.tmps) = true then Oper.wp P o a w K' Q else K' (a.put o.dst undef) w) : peelQ P ops n Q .normal a w :=
  wpOp_step ho h
end
end Go

/- The contract of linpoly's value over the seat's translation. -/
namespace Go.Proofs.Ytnecjkdlmecgdaa
open Go.RowKit

/-- An element that changes, and a room. -/
structure Gst (W w : World) (h l : Nat) : Prop where
  x : Ew w W.heap.size h l
  r : Ew w (W.heap.size + 1) 0 0
  d : Below W.heap.size W w
theorem Gst.below {W w w' : World} {h l : Nat} (k : Gst W w h l) (hb : Below w.heap.size w w') : Gst W w' h l := ⟨k.x.below hb, k.r.below hb, k.d.trans (hb.mono k.d.size)⟩
theorem Gst.drew {W w : World} {h l : Nat} (k : Gst W w h l) : Gst W w.drew h l := ⟨k.x.drew, k.r.drew, k.d.drew⟩
theorem Gst.put {W w : World} {h l : Nat} (k : Gst W w h l) (u v : Nat) : Gst W ((w.setCell ⟨W.heap.size, 0, none⟩ (.int .u64 (u : Int))).setCell ⟨W.heap.size, 1, none⟩ (.int .u64 (v : Int))) u v :=
  ⟨k.x.set _ _, k.r.other (by omega) _ _, below2 (p := W.heap.size) k.d (Nat.le_refl _) _ _⟩
theorem Gst.old {W w : World} {h l : Nat} (k : Gst W w h l) {a : Addr} {v : Value} (ha : a.block < W.heap.size) (hc : W.cell? a = some v) : w.cell? a = some v := by rw [k.d.cell ha]; exact hc
set_option maxHeartbeats 8000000 in
set_option maxRecDepth 100000 in
theorem value_core (l : Int) (B i xh xl : Nat) (at_ : Option Addr) (capt : Nat) (ts : List (Nat × Nat)) (sv yv : Nat → Nat × Nat) (W : World) (hB : B < W.heap.size)
    (c0 : W.cell? ⟨B, 0, none⟩ = some (.int .i64 l)) (c2 : W.cell? ⟨B, 2, none⟩ = some (.slice at_ ts.length capt)) (hr : ERow W at_ ts) (hi : i ≤ ts.length) (h10 : ts.length ≤ 1000)
    (S0 : Hid (sv 0 = (xh, xl)))
    (AD : Hid (∀ k : Nat, k < i → Ret 20 #[.agg #[.int .u64 ((sv k).1 : Int), .int .u64 ((sv k).2 : Int)], .agg #[.int .u64 ((ts.getD k (0, 0)).1 : Int), .int .u64 ((ts.getD k (0, 0)).2 : Int)]] (.agg #[.int .u64 ((yv k).1 : Int), .int .u64 ((yv k).2 : Int)])))
    (MU : Hid (∀ k : Nat, k < i → Ret 51 #[.int .i64 l, .agg #[.int .u64 ((sv k).1 : Int), .int .u64 ((sv k).2 : Int)], .agg #[.int .u64 ((yv k).1 : Int), .int .u64 ((yv k).2 : Int)]] (.agg #[.int .u64 ((sv (k + 1)).1 : Int), .int .u64 ((sv (k + 1)).2 : Int)])))
    (SZ : Hid (∀ k : Nat, k ≤ i → sv k = (0, 0) → sv i = (0, 0))) :
    Calls Try.prog 50 #[.pointer (some ⟨B, 0, none⟩), .int .i64 (i : Int), .agg #[.int .u64 (xh : Int), .int .u64 (xl : Int)]] W fun e w' => e = .returned (.agg #[.int .u64 ((sv i).1 : Int), .int .u64 ((sv i).2 : Int)]) ∧ Below W.heap.size W w' := by
  have HC : Hid (B < W.heap.size ∧ W.cell? ⟨B, 0, none⟩ = some (.int .i64 l) ∧ W.cell? ⟨B, 2, none⟩ = some (.slice at_ ts.length capt)) := ⟨hB, c0, c2⟩
  have HR : Hid (ERow W at_ ts) := hr
  clear c0 c2 hr
  go_enter Try.func50, Try.ntmps50
  go_wp2
  refine wp_scope_many (fun lb a w => ∃ (k : Nat) (u8 u9 u10 u11 u12 u13 u14 u15 u16 u17 u18 u19 u20 u21 u22 u23 u24 u25 u26 u27 u28 u29 u30 u31 u32 u33 : Value), a = { tmps := #[.pointer (some ⟨B, 0, none⟩), .int .i64 (i : Int), .agg #[.int .u64 (xh : Int), .int .u64 (xl : Int)], undef, undef, .pointer (some ⟨W.heap.size, 0, none⟩), .pointer (some ⟨W.heap.size + 1, 0, none⟩), .int .i64 (k : Int), u8, u9, u10, u11, u12, u13, u14, u15, u16, u17, u18, u19, u20, u21, u22, u23, u24, u25, u26, u27, u28, u29, u30, u31, u32, u33], defers := [] } ∧ k ≤ i ∧ (lb = 0 ∨ (lb = 1 ∧ k < i) ∨ (lb = 2 ∧ sv k = sv i)) ∧ Gst W w (sv k).1 (sv k).2)
    (fun lb a _ => if lb = 0 then i + 1 else if lb = 1 then i - (intOf (a.tmps.getD 7 undef)).toNat else 0) ?_ ?_
  · go_wp2
    go_step3
    refine ⟨0, _, _, _, _, _, _, _, _, _, _, _, _, _, _, _, _, _, _, _, _, _, _, _, _, _, _, rfl, Nat.zero_le _, .inl rfl, ?_⟩
    rw [S0.out]
    exact ⟨⟨⟨by simp [go_sem], by simp [go_sem]⟩, by simp [go_sem], by simp [go_sem]⟩, ⟨⟨by simp [go_sem], by simp [go_sem]⟩, by simp [go_sem], by simp [go_sem]⟩, by go_grown⟩
  · rintro lb a w ⟨k, u8, u9, u10, u11, u12, u13, u14, u15, u16, u17, u18, u19, u20, u21, u22, u23, u24, u25, u26, u27, u28, u29, u30, u31, u32, u33, rfl, hk, hlb, hG⟩
    rcases hlb with rfl | ⟨rfl, hki⟩ | ⟨rfl, hs⟩
    · refine ⟨_, rfl, ?_⟩
      have HG : Hid (Gst W w (sv k).1 (sv k).2) := hG
      have x1 := hG.x.hi
      have x0 := hG.x.lo
      clear hG
      by_cases hki2 : k = i
      · have hki3 : ((k : Nat) : Int) = (i : Int) := by rw [hki2]
        go_wp2
        go_step3
        exact ⟨⟨k, _, _, _, _, _, _, _, _, _, _, _, _, _, _, _, _, _, _, _, _, _, _, _, _, _, _, rfl, hk, .inr (.inr ⟨rfl, by rw [hki2]⟩), HG.out⟩, by simp⟩
      · have hki3 : ¬ ((k : Nat) : Int) = (i : Int) := by omega
        by_cases hz : sv k = (0, 0)
        · have hz2 : Hid (sv k = sv i) := by show _ = _; rw [SZ.out k hk hz, hz]
          have z1 : (sv k).1 = 0 := by rw [hz]
          have z0 : (sv k).2 = 0 := by rw [hz]
          clear hz
          go_wp2
          go_step3
          exact ⟨⟨k, _, _, _, _, _, _, _, _, _, _, _, _, _, _, _, _, _, _, _, _, _, _, _, _, _, _, rfl, hk, .inr (.inr ⟨rfl, hz2.out⟩), HG.out⟩, by simp⟩
        · have z : ¬ ((((sv k).1 : Nat) : Int) = 0 ∧ (((sv k).2 : Nat) : Int) = 0) := fun h => hz (Prod.ext (by have := h.1; omega) (by have := h.2; omega))
          clear hz
          go_wp2
          all_goals go_step3
          all_goals exact ⟨⟨k, _, _, _, _, _, _, _, _, _, _, _, _, _, _, _, _, _, _, _, _, _, _, _, _, _, _, rfl, hk, .inr (.inl ⟨rfl, by omega⟩), HG.out⟩, by simp [intOf]; omega⟩
    · refine ⟨_, rfl, ?_⟩
      obtain ⟨b, off, rfl, hb, d1, d0⟩ := HR.out.cells k (by omega)
      have HA := AD.out k hki
      have HM := MU.out k hki
      have HT : Hid (b < W.heap.size ∧ W.cell? ⟨b, off + k * 2, none⟩ = some (.int .u64 ((ts.getD k (0, 0)).1 : Nat)) ∧ W.cell? ⟨b, off + k * 2 + 1, none⟩ = some (.int .u64 ((ts.getD k (0, 0)).2 : Nat))) := ⟨hb, d1, d0⟩
      have hlen : (k : Int) < (ts.length : Int) := by omega
      clear hb d1 d0 HR AD MU
      generalize ts.getD k (0, 0) = t at *
      have K := hG
      clear hG
      have e0 := K.old (a := ⟨B, 0, none⟩) HC.out.1 HC.out.2.1
      have e2 := K.old (a := ⟨B, 2, none⟩) HC.out.1 HC.out.2.2
      have d1 := K.old (a := ⟨b, off + k * 2, none⟩) HT.out.1 HT.out.2.1
      have d0 := K.old (a := ⟨b, off + k * 2 + 1, none⟩) HT.out.1 HT.out.2.2
      have x1 := K.x.hi
      have x0 := K.x.lo
      have f1 := K.x.fhi
      have f0 := K.x.flo
      go_upto_region 2 with fail
      have i0 : (0 : Int) ≤ (k : Int) := by omega
      refine wp_region_noPanic ?_
      refine wp_region_peel (S := fun w => w.cell? ⟨B, 0, none⟩ = some (.int .i64 l) ∧ w.cell? ⟨B, 2, none⟩ = some (.slice (some ⟨b, off, none⟩) ts.length capt) ∧ w.cell? ⟨b, off + k * 2, none⟩ = some (.int .u64 (t.1 : Int)) ∧ w.cell? ⟨b, off + k * 2 + 1, none⟩ = some (.int .u64 (t.2 : Int)) ∧ w.cell? ⟨W.heap.size, 0, none⟩ = some (.int .u64 ((sv k).1 : Int)) ∧ w.cell? ⟨W.heap.size, 1, none⟩ = some (.int .u64 ((sv k).2 : Int))) 15 (by kernel_rfl) rfl (by kernel_rfl) ?_ (fun hHeld => ?_)
      · exact ⟨e0, e2, d1, d0, x1, x0⟩
      refine wpAnyH_take (i := 0) (oi := _) (v := ?_) rfl (by kernel_rfl) (by kernel_rfl) (by kernel_rfl) (fun _ _ _ h => h) (Or.inl ⟨by rfl, ?_⟩) (by assumption) ?_
      rotate_left
      · ((intro w hSw; (try dsimp only at hSw); go_simp) <;> (try with_reducible rfl))
      try simp only [Act.put]
      refine wpAnyH_take (i := 1) (oi := _) (v := ?_) rfl (by kernel_rfl) (by kernel_rfl) (by kernel_rfl) (fun _ _ _ h => h) (Or.inl ⟨by rfl, ?_⟩) (by assumption) ?_
      rotate_left
      · ((intro w hSw; (try dsimp only at hSw); go_simp) <;> (try with_reducible rfl))
      try simp only [Act.put]
      refine wpAnyH_take (i := 2) (oi := _) (v := ?_) rfl (by kernel_rfl) (by kernel_rfl) (by kernel_rfl) (fun _ _ _ h => h) (Or.inl ⟨by rfl, ?_⟩) (by assumption) ?_
      rotate_left
      · ((intro w hSw; (try dsimp only at hSw); go_simp) <;> (try with_reducible rfl))
      try simp only [Act.put]
      refine wpAnyH_take (i := 3) (oi := _) (v := ?_) rfl (by kernel_rfl) (by kernel_rfl) (by kernel_rfl) (fun _ _ _ h => h) (Or.inl ⟨by rfl, ?_⟩) (by assumption) ?_
      rotate_left
      · ((intro w hSw; (try dsimp only at hSw); go_simp) <;> (try with_reducible rfl))
      try simp only [Act.put]
      refine wpAnyH_take (i := 4) (oi := _) (v := ?_) rfl (by kernel_rfl) (by kernel_rfl) (by kernel_rfl) (fun _ _ _ h => h) (Or.inl ⟨by rfl, ?_⟩) (by assumption) ?_
      rotate_left
      · ((intro w hSw; (try dsimp only at hSw); go_simp) <;> (try with_reducible rfl))
      try simp only [Act.put]
      refine wpAnyH_take (i := 5) (oi := _) (v := ?_) rfl (by kernel_rfl) (by kernel_rfl) (by kernel_rfl) (fun _ _ _ h => h) (Or.inl ⟨by rfl, ?_⟩) (by assumption) ?_
      rotate_left
      · ((intro w hSw; (try dsimp only at hSw); go_simp) <;> (try with_reducible rfl))
      try simp only [Act.put]
      refine wpAnyH_take (i := 6) (oi := _) (v := ?_) rfl (by kernel_rfl) (by kernel_rfl) (by kernel_rfl) (fun _ _ _ h => h) (Or.inl ⟨by rfl, ?_⟩) (by assumption) ?_
      rotate_left
      · ((intro w hSw; (try dsimp only at hSw); go_simp) <;> (try with_reducible rfl))
      try simp only [Act.put]
      refine wpAnyH_take (i := 7) (oi := _) (v := ?_) rfl (by kernel_rfl) (by kernel_rfl) (by kernel_rfl) (fun _ _ _ h => h) (Or.inl ⟨by rfl, ?_⟩) (by assumption) ?_
      rotate_left
      · ((intro w hSw; (try dsimp only at hSw); go_simp) <;> (try with_reducible rfl))
      try simp only [Act.put]
      refine wpAnyH_take (i := 8) (oi := _) (v := ?_) rfl (by kernel_rfl) (by kernel_rfl) (by kernel_rfl) (fun _ _ _ h => h) (Or.inl ⟨by rfl, ?_⟩) (by assumption) ?_
      rotate_left
      · ((intro w hSw; (try dsimp only at hSw); go_simp) <;> (try with_reducible rfl))
      try simp only [Act.put]
      refine wpAnyH_take (i := 9) (oi := _) (v := ?_) rfl (by kernel_rfl) (by kernel_rfl) (by kernel_rfl) (fun _ _ _ h => h) (Or.inl ⟨by rfl, ?_⟩) (by assumption) ?_
      rotate_left
      · ((intro w hSw; (try dsimp only at hSw); go_simp) <;> (try with_reducible rfl))
      try simp only [Act.put]
      refine wpAnyH_take (i := 10) (oi := _) (v := ?_) rfl (by kernel_rfl) (by kernel_rfl) (by kernel_rfl) (fun _ _ _ h => h) (Or.inl ⟨by rfl, ?_⟩) (by assumption) ?_
      rotate_left
      · ((intro w hSw; (try dsimp only at hSw); go_simp) <;> (try with_reducible rfl))
      try simp only [Act.put]
      refine wpAnyH_take (i := 11) (oi := _) (v := ?_) rfl (by kernel_rfl) (by kernel_rfl) (by kernel_rfl) (fun _ _ _ h => h) (Or.inl ⟨by rfl, ?_⟩) (by assumption) ?_
      rotate_left
      · ((intro w hSw; (try dsimp only at hSw); go_simp) <;> (try with_reducible rfl))
      try simp only [Act.put]
      refine wpAnyH_take (i := 12) (oi := _) (v := ?_) rfl (by kernel_rfl) (by kernel_rfl) (by kernel_rfl) (fun _ _ _ h => h) (Or.inl ⟨by rfl, ?_⟩) (by assumption) ?_
      rotate_left
      · ((intro w hSw; (try dsimp only at hSw); go_simp) <;> (try with_reducible rfl))
      try simp only [Act.put]
      refine wpAnyH_ready (rs := [13]) (by kernel_rfl) (by simp) ?_
      refine AllReadyH.cons (o := _) rfl (fun KK hKK => ?_) AllReadyH.nil
      go_simp
      (go_at_call 20; refine (HA.go _).mono ?_; rintro e w' ⟨rfl, hb'⟩; have K'' := Gst.below (w' := w') (by first | exact K | exact K.drew) hb'; clear e0 e2 d1 d0 x1 x0 f1 f0 K hb'; have K := K''; clear K''; have e0 := K.old (a := ⟨B, 0, none⟩) HC.out.1 HC.out.2.1; have e2 := K.old (a := ⟨B, 2, none⟩) HC.out.1 HC.out.2.2; have d1 := K.old (a := ⟨b, off + k * 2, none⟩) HT.out.1 HT.out.2.1; have d0 := K.old (a := ⟨b, off + k * 2 + 1, none⟩) HT.out.1 HT.out.2.2; have x1 := K.x.hi; have x0 := K.x.lo; have f1 := K.x.fhi; have f0 := K.x.flo)
      refine hKK.out _ _ ?_ (fun hHeld2 => ?_)
      · go_keep
      clear hKK KK
      try simp only [Act.put]
      refine wpAnyH_ready (rs := [14]) (by kernel_rfl) (by simp) ?_
      refine AllReadyH.cons (o := _) rfl (fun KK hKK => ?_) AllReadyH.nil
      go_simp
      (go_at_call 51; refine (HM.go _).mono ?_; rintro e w' ⟨rfl, hb'⟩; have K'' := Gst.below (w' := w') (by first | exact K | exact K.drew) hb'; clear e0 e2 d1 d0 x1 x0 f1 f0 K hb'; have K := K''; clear K''; have e0 := K.old (a := ⟨B, 0, none⟩) HC.out.1 HC.out.2.1; have e2 := K.old (a := ⟨B, 2, none⟩) HC.out.1 HC.out.2.2; have d1 := K.old (a := ⟨b, off + k * 2, none⟩) HT.out.1 HT.out.2.1; have d0 := K.old (a := ⟨b, off + k * 2 + 1, none⟩) HT.out.1 HT.out.2.2; have x1 := K.x.hi; have x0 := K.x.lo; have f1 := K.x.fhi; have f0 := K.x.flo)
      refine hKK.out _ _ ?_ (fun hHeld2 => ?_)
      · go_keep
      clear hKK KK
      try simp only [Act.put]
      refine wpAnyH_done (by kernel_rfl) ?_ _
      refine peel_last rfl (fun KK hKK => ?_)
      have HG : Hid (Gst W _ (sv (k + 1)).1 (sv (k + 1)).2) := K.put _ _
      clear hHeld hHeld2 e0 e2 d1 d0 K
      go_simp
      refine hKK _ _ ?_
      refine NoPanic.normal ?_
      clear hKK
      have hk1 : k + 1 ≤ i := hki
      obtain ⟨w9, hw9⟩ : ∃ w9, w9 = ((w'.setCell ⟨W.heap.size, 0, none⟩ (.int .u64 ((sv (k + 1)).1 : Int))).setCell ⟨W.heap.size, 1, none⟩ (.int .u64 ((sv (k + 1)).2 : Int))) := ⟨_, rfl⟩
      rw [← hw9] at HG ⊢
      clear hw9 x1 x0 f1 f0
      have x1 := HG.out.x.hi
      have x0 := HG.out.x.lo
      go_wp2
      go_step3
      by_cases hki2 : k + 1 = i
      · have hki3 : (k : Int) + 1 = (i : Int) := by omega
        go_wp2
        go_step3
        exact ⟨⟨k + 1, _, _, _, _, _, _, _, _, _, _, _, _, _, _, _, _, _, _, _, _, _, _, _, _, _, _, rfl, hk1, .inr (.inr ⟨rfl, by rw [hki2]⟩), HG.out⟩, by simp [intOf]; omega⟩
      · have hki3 : ¬ (k : Int) + 1 = (i : Int) := by omega
        by_cases hz : sv (k + 1) = (0, 0)
        · have hz2 : Hid (sv (k + 1) = sv i) := by show _ = _; rw [SZ.out (k + 1) hk1 hz, hz]
          have z1 : (sv (k + 1)).1 = 0 := by rw [hz]
          have z0 : (sv (k + 1)).2 = 0 := by rw [hz]
          clear hz
          go_wp2
          go_step3
          exact ⟨⟨k + 1, _, _, _, _, _, _, _, _, _, _, _, _, _, _, _, _, _, _, _, _, _, _, _, _, _, _, rfl, hk1, .inr (.inr ⟨rfl, hz2.out⟩), HG.out⟩, by simp [intOf]; omega⟩
        · have z : ¬ ((((sv (k + 1)).1 : Nat) : Int) = 0 ∧ (((sv (k + 1)).2 : Nat) : Int) = 0) := fun h => hz (Prod.ext (by have := h.1; omega) (by have := h.2; omega))
          clear hz
          go_wp2
          all_goals go_step3
          all_goals exact ⟨⟨k + 1, _, _, _, _, _, _, _, _, _, _, _, _, _, _, _, _, _, _, _, _, _, _, _, _, _, _, rfl, hk1, .inr (.inl ⟨rfl, by omega⟩), HG.out⟩, by simp [intOf]; omega⟩
    · refine ⟨_, rfl, ?_⟩
      rw [hs] at hG
      have HG : Hid (Below W.heap.size W w) := hG.d
      obtain ⟨⟨x1, x0⟩, _, _⟩ := hG.x
      obtain ⟨⟨r1, r0⟩, t1, t0⟩ := hG.r
      clear hG hs
      go_wp2
      rw [Exit.jumps_ret]
      refine bodyPost_ret (v := .agg #[.int .u64 ((sv i).1 : Int), .int .u64 ((sv i).2 : Int)]) (by simp [results, Try.results50, go_sem, *]) rfl ⟨rfl, ?_⟩
      exact below2 (p := W.heap.size + 1) HG.out (by omega) _ _
end Go.Proofs.Ytnecjkdlmecgdaa

/- Contracts of linpoly.allOf, slices.Clone and linpoly's Dim, has and Value over the seat's translation. -/
namespace Go.Proofs.Ytnecjkdlmecgdaa
open Go.RowKit

theorem flat_one (es : List (Nat × Nat)) : ∀ u ∈ flat es, u.oneCell' = true := by
  intro u hu
  unfold flat at hu
  obtain ⟨e, _, he⟩ := List.mem_flatMap.1 hu
  simp at he
  rcases he with rfl | rfl <;> rfl
theorem ERow.flatAt {w : World} {b off : Nat} {es : List (Nat × Nat)} (h : ERow w (some ⟨b, off, none⟩) es) (j : Nat) (u : Value) (hu : (flat es)[j]? = some u) : w.cell? ((⟨b, off, none⟩ : Addr).add j) = some u := by
  have hj : j < es.length * 2 := by
    rw [← flat_len]
    obtain ⟨h1, _⟩ := List.getElem?_eq_some_iff.1 hu
    exact h1
  have ha : (⟨b, off, none⟩ : Addr).add j = ⟨b, off + j, none⟩ := by unfold Addr.add; split <;> simp_all
  rw [ha]
  have hi : j / 2 < es.length := by omega
  obtain ⟨b2, off2, e, _, c1, c0⟩ := h.cells (j / 2) hi
  have hf := flat_at es (j / 2) hi
  simp only [Option.some.injEq, Addr.mk.injEq] at e
  obtain ⟨rfl, rfl, _⟩ := e
  rcases Nat.mod_two_eq_zero_or_one j with h2 | h2
  · have e2 : j / 2 * 2 = j := by omega
    rw [e2] at c1 hf
    rw [hf.1] at hu
    rw [c1]; exact hu
  · have e2 : j / 2 * 2 + 1 = j := by omega
    rw [Nat.add_assoc, e2] at c0
    rw [e2] at hf
    rw [hf.2] at hu
    rw [c0]; exact hu
set_option maxHeartbeats 2000000 in
/-- Are all elements of a level? -/
theorem allOf_row (l : Int) (a : Option Addr) (cap : Nat) (es : List (Nat × Nat)) (W : World) (hr : ERow W a es) (h10 : es.length ≤ 1000) (HO : Hid (∀ j : Nat, j < es.length → Ret 54 #[.int .i64 l, .agg #[.int .u64 ((es.getD j (0, 0)).1 : Int), .int .u64 ((es.getD j (0, 0)).2 : Int)]] (.bool true))) :
    Calls Try.prog 41 #[.int .i64 l, .slice a es.length cap] W fun e w' => e = .returned (.bool true) ∧ Below W.heap.size W w' := by
  have HR : Hid (ERow W a es) := hr
  clear hr
  go_enter Try.func41, Try.ntmps41
  go_wp2_with fail
  go_loopw [9] (fun u wr => ∃ j : Nat, j ≤ es.length ∧ u = .int .i64 j ∧ Below W.heap.size W wr) (fun u _ => es.length - (intOf u).toNat)
  case atStart => exact ⟨0, Nat.zero_le _, rfl, Below.refl _ _⟩
  case round =>
    obtain ⟨j, hj, rfl, hD⟩ := hrel
    by_cases hlt : j < es.length
    · obtain ⟨b, off, rfl, hb, c1, c0⟩ := HR.out.cells j hlt
      have d1 : wr.cell? ⟨b, off + j * 2, none⟩ = some (.int .u64 ((es.getD j (0, 0)).1 : Nat)) := by rw [hD.cell (p := ⟨b, off + j * 2, none⟩) hb]; exact c1
      have d0 : wr.cell? ⟨b, off + j * 2 + 1, none⟩ = some (.int .u64 ((es.getD j (0, 0)).2 : Nat)) := by rw [hD.cell (p := ⟨b, off + j * 2 + 1, none⟩) hb]; exact c0
      have H1 := HO.out j hlt
      have HD : Hid (Below W.heap.size W wr) := hD
      clear hD c1 c0 HR HO
      generalize es.getD j (0, 0) = x at *
      go_wp2_with fail
      refine (H1.go _).mono ?_
      rintro e w4 ⟨rfl, hb4⟩
      have HD4 : Hid (Below W.heap.size W w4) := (HD.out.alloc HD.out.size _).trans (hb4.mono (by have := HD.out.size; simp; omega))
      clear hb4 d1 d0 HD
      go_wp2
      exact ⟨⟨j + 1, hlt, by simp, HD4.out⟩, by simp [intOf]; omega⟩
    · have HD : Hid (Below W.heap.size W wr) := hD
      clear hD
      go_wp2
      go_ret
      exact ⟨rfl, HD.out⟩
set_option maxHeartbeats 1000000 in
set_option maxRecDepth 100000 in
/-- A copy of elements. -/
theorem clone_row (b off cap : Nat) (es : List (Nat × Nat)) (h10 : es.length ≤ 1000) (W : World) (hr : ERow W (some ⟨b, off, none⟩) es) :
    Calls Try.prog 44 #[.slice (some ⟨b, off, none⟩) es.length cap] W fun e w' => ∃ a' cap', e = .returned (.slice a' es.length cap') ∧ ERow w' a' es ∧ Below W.heap.size W w' := by
  obtain ⟨i0, hi, hz0, hz1, hz2⟩ := info_elem
  have HI : Hid (Try.prog.info? 27 = some i0 ∧ i0.zero = some (.agg #[.int .u64 0, .int .u64 0]) ∧ i0.size = 2 ∧ i0.bytes = 16) := ⟨hi, hz0, hz1, hz2⟩
  have HR : Hid (ERow W (some ⟨b, off, none⟩) es) := hr
  clear hi hz0 hz1 hz2 hr
  have he : ∀ w, (binOp .eql 22 (.slice (some ⟨b, off, none⟩) es.length cap) (.slice none 0 0)).run Try.prog w = .ok (.bool false) w := fun w => Go.Lib.run_eql_slice_nil w 22 27 _ _ _ _ _ Try.underlying22
  go_enter Try.func44, Try.ntmps44
  go_wp2_with (at_builtin; refine wpList_append_own _ rfl _ _ 22 rfl W.heap.size 27 i0 (.agg #[.int .u64 0, .int .u64 0]) 2 16 Try.underlying22 HI.out.1 HI.out.2.1 HI.out.2.2.1 HI.out.2.2.2 rfl (by decide) _ 0 [] rfl (World.ownsRow_made W #[] 0 (Nat.le_refl _) (by decide) rfl) ⟨b, off, none⟩ es.length cap (flat es) rfl (flat_len es) (fun p u hu => ((HR.out.below ((Below.refl _ _).alloc (Nat.le_refl _) _)).flatAt p u hu)) (flat_one es) (by simp only [maxLen]; omega) (by omega) (by simp) ?_; intro v' w' hown' hgr _)
  rw [Nat.zero_add, List.nil_append] at hown'
  obtain ⟨a', cap', rfl, hE⟩ := own_row hown'
  have HD : Hid (Below W.heap.size W w') := ((Below.refl _ _).alloc (Nat.le_refl _) _).grown hgr (by simp) fun k hk => ((World.ownsRow_made (e := 27) (size := 2) (base := W.heap.size) W #[] 0 (Nat.le_refl _) (by decide) rfl).lt k hk).1
  have HE : Hid (ERow w' a' es) := hE
  clear hE hown' hgr
  go_wp2
  go_ret
  exact ⟨a', cap', rfl, HE.out, HD.out⟩
set_option maxHeartbeats 400000 in
theorem dim_any (B n cap : Nat) (a : Option Addr) (W : World) (c1 : W.cell? ⟨B, 1, none⟩ = some (.slice a n cap)) : Calls Try.prog 14 #[.pointer (some ⟨B, 0, none⟩)] W fun e w' => e = .returned (.int .i64 (n : Int)) ∧ Below W.heap.size W w' := by
  go_enter Try.func14, Try.ntmps14
  go_wp2
  go_ret
  exact ⟨rfl, by first | exact Below.refl _ _ | go_grown⟩
end Go.Proofs.Ytnecjkdlmecgdaa
