/- A region that draws its order, walked by what holds between its operations, whichever of them have come up: no order is laid out. -/
import Derived.Test.YtghapohempogkaaPeel
namespace Go
section
variable {P : Program} {md : Region.Mode} {Q : Exit → Act → World → Prop} {S : World → Prop}

/-- One more has come up. -/
def setL (L : Nat → Bool) (i : Nat) : Nat → Bool := fun j => if j = i then true else L j
theorem setL_same (L : Nat → Bool) (i : Nat) : setL L i i = true := by simp [setL]
theorem setL_other (L : Nat → Bool) {i j : Nat} (h : j ≠ i) : setL L i j = L j := by simp [setL, h]
theorem setL_true {L : Nat → Bool} {i j : Nat} (h : L j = true) : setL L i j = true := by
  unfold setL; split
  · rfl
  · exact h
/-- Each operation of a row, with its number. -/
def EachAt (f : Nat → Oper → Prop) : Nat → List Oper → Prop
  | _, [] => True
  | n, o :: l => f n o ∧ EachAt f (n + 1) l
theorem EachAt.at {f : Nat → Oper → Prop} : ∀ {l : List Oper} {n : Nat}, EachAt f n l → ∀ i o, l[i]? = some o → f (n + i) o
  | [], _, _, i, o, h => by simp at h
  | x :: l, n, ⟨h1, h2⟩, 0, o, h => by simp at h; subst h; exact h1
  | x :: l, n, ⟨h1, h2⟩, i + 1, o, h => by
    have := h2.at i o (by simpa using h)
    rwa [show n + 1 + i = n + (i + 1) by omega] at this
/-- Each waits for such as stand ahead of it. -/
def lowB (md : Region.Mode) : Nat → List Oper → Bool
  | _, [] => true
  | n, o :: l => (o.after.all fun e => !Region.binds md e || decide (e.on < n)) && lowB md (n + 1) l
theorem lowB_at : ∀ {l : List Oper} {n : Nat}, lowB md n l = true → ∀ i o, l[i]? = some o → ∀ e ∈ o.after, Region.binds md e = true → e.on < n + i
  | [], _, _, i, o, h => by simp at h
  | x :: l, n, hb, i, o, h => by
    simp only [lowB, Bool.and_eq_true] at hb
    cases i with
    | zero =>
      simp at h; subst h
      intro e he hbi
      have := (Array.all_eq_true'.1 hb.1) e he
      rw [hbi] at this
      simpa using this
    | succ i =>
      have := lowB_at hb.2 i o (by simpa using h)
      rwa [show n + 1 + i = n + (i + 1) by omega] at this
theorem getD_set_inv (l : Array Bool) (i j : Nat) : (l.setIfInBounds i true).getD j true = setL (fun j => l.getD j true) i j := by
  unfold setL
  by_cases h : j = i
  · subst h
    rw [if_pos rfl]
    simp only [Array.getD_eq_getD_getElem?, Array.getElem?_setIfInBounds]
    by_cases hj : j < l.size
    · simp [hj]
    · simp [hj]
  · rw [if_neg h]
    simp only [Array.getD_eq_getD_getElem?, Array.getElem?_setIfInBounds]
    rw [if_neg (fun e => h e.symm)]
theorem getD_true_false {l : Array Bool} {j : Nat} (h : j < l.size) : l.getD j true = l.getD j false := by
  simp [Array.getD_eq_getD_getElem?, h]
theorem all_listed {ops : Array Oper} {listed : Array Bool} (low : lowB md 0 ops.toList = true) (hz : listed.size = ops.size) (h : Region.ready md ops listed = []) : ∀ n i, i < n → i < ops.size → listed.getD i true = true := by
  intro n
  induction n with
  | zero => intro i hi; omega
  | succ n ih =>
    intro i hi hio
    by_cases hl : listed.getD i true = true
    · exact hl
    · exfalso
      have hm : i ∈ Region.ready md ops listed := by
        refine ready_iff.2 ⟨by simpa using hl, ops[i], by simp [hio], fun e he hb => ?_⟩
        have h1 := lowB_at low i ops[i] (by simp [hio]) e he hb
        have h2 := ih e.on (by omega) (by omega)
        rwa [getD_true_false (by omega)] at h2
      rw [h] at hm
      cases hm
/-- THE RULE: what holds at the start, and is kept by each operation that may come up, holds where all have come up. -/
theorem wpAnyH_inv {ops : Array Oper} (I : (Nat → Bool) → Act → World → Prop) (low : lowB md 0 ops.toList = true) (hIS : ∀ L a w, I L a w → S w)
    (step : ∀ L a w, I L a w → EachAt (fun i o => L i = false → (∀ e ∈ o.after, Region.binds md e = true → L e.on = true) → wpOp P ops Q i (fun a' w' => I (setL L i) a' w') a w) 0 ops.toList)
    (done : ∀ L a w, I L a w → (∀ i, i < ops.size → L i = true) → Q .normal a w) :
    ∀ (fuel : Nat) (listed : Array Bool) (a : Act) (w : World), listed.size = ops.size → listed.toList.count false ≤ fuel → I (fun j => listed.getD j true) a w → wpAnyH P md ops Q S fuel listed a w := by
  intro fuel
  induction fuel with
  | zero =>
    intro listed a w hz hc hI
    have hall : ∀ i, i < ops.size → listed.getD i true = true := fun i hi => by
      have h0 : ¬ false ∈ listed.toList := fun hm => by have := List.count_pos_iff.2 hm; omega
      have : listed[i]'(by omega) = true := by
        cases hb : listed[i]'(by omega) with
        | true => rfl
        | false => exact absurd (by rw [← hb]; exact Array.getElem_mem_toList (by omega)) h0
      simp [Array.getD_eq_getD_getElem?, show i < listed.size by omega, this]
    refine ⟨?_, done _ a w hI hall⟩
    rcases hr : Region.ready md ops listed with _ | ⟨i, rs⟩
    · rfl
    · exfalso
      have hm : i ∈ Region.ready md ops listed := by rw [hr]; exact List.mem_cons_self ..
      obtain ⟨h1, o, ho, _⟩ := ready_iff.1 hm
      have := hall i (Array.getElem?_eq_some_iff.1 ho).1
      rw [this] at h1
      cases h1
  | succ fuel ih =>
    intro listed a w hz hc hI
    refine ⟨fun hr => done _ a w hI fun i hi => all_listed low hz hr (i + 1) i (by omega) hi, fun i hi => ?_⟩
    obtain ⟨h1, o, ho, ha⟩ := ready_iff.1 hi
    have hio : i < ops.size := (Array.getElem?_eq_some_iff.1 ho).1
    have hst := (step _ a w hI).at i o (by rw [Array.getElem?_toList]; exact ho)
    rw [Nat.zero_add] at hst
    refine wpOp_mono (fun a' w' hI' => ?_) (hst h1 fun e he hb => by
      have := ha e he hb
      have hlt := lowB_at low i o (by rw [Array.getElem?_toList]; exact ho) e he hb
      show listed.getD e.on true = true
      rw [getD_true_false (by omega)]; exact this)
    refine ⟨hIS _ _ _ hI', ih _ a' w' (by simp [hz]) ?_ ?_⟩
    · have hlt : i < listed.toList.length := by simp; omega
      have hf : listed.toList[i] = false := by
        have h2 : listed.getD i true = listed[i]'(by omega) := by simp [Array.getD_eq_getD_getElem?, show i < listed.size by omega]
        rw [h2] at h1
        simpa using h1
      rw [Array.toList_setIfInBounds, List.count_set hlt, hf]
      have : 0 < listed.toList.count false := List.count_pos_iff.2 (by rw [← hf]; exact List.getElem_mem hlt)
      rw [if_pos (by rfl), if_neg (by decide)]
      omega
    · rw [show (fun j => (listed.setIfInBounds i true).getD j true) = setL (fun j => listed.getD j true) i from funext fun j => getD_set_inv listed i j]
      exact hI'
/-- What a bound operation waits for. -/
theorem waits {L : Nat → Bool} {es : Array Edge} (h : ∀ e ∈ es, Region.binds md e = true → L e.on = true) : ∀ j, ((es.toList.filter (Region.binds md)).map Edge.on).contains j = true → L j = true := by
  intro j hj
  rw [List.contains_iff_mem] at hj
  obtain ⟨e, he, rfl⟩ := List.mem_map.1 hj
  obtain ⟨h1, h2⟩ := List.mem_filter.1 he
  exact h e (Array.mem_def.2 h1) h2
theorem EachAt.cons {f : Nat → Oper → Prop} {n : Nat} {o : Oper} {l : List Oper} (h1 : f n o) (h2 : EachAt f (n + 1) l) : EachAt f n (o :: l) := ⟨h1, h2⟩
theorem EachAt.nil {f : Nat → Oper → Prop} {n : Nat} : EachAt f n [] := trivial
/-- One step of the rule: the way on is shut. -/
theorem wpOp_shut {ops : Array Oper} {i : Nat} {o : Oper} {K : Act → World → Prop} {a : Act} {w : World} (ho : ops[i]? = some o)
    (h : ∀ K' : Act → World → Prop, Shut (∀ a w, K a w → K' a w) → if Region.wanted o (yielded ops a.tmps) = true then Oper.wp P o a w K' Q else K' (a.put o.dst undef) w) : wpOp P ops Q i K a w :=
  wpOp_step ho (fun K' hK => h K' hK)
end
end Go
