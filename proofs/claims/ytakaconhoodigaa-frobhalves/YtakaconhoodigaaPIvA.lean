/- The contract of span.Turn over the seat's translation. -/
import Derived.Test.YtakaconhoodigaaRgB
import Derived.Test.YtakaconhoodigaaPeel
namespace Go.Proofs.Ytakaconhoodigaa
open Go.RowKit
open Cb
open Rg
open Tw (pm)

/-- A row of elements that is filled, in the first block behind a world. -/
structure Tn (W w : World) (N : Nat) (h : Nat → Nat × Nat) : Prop where
  row : w.rowIs W.heap.size 24 (N * 2) (tcell h)
  d : Below W.heap.size W w
theorem Tn.below {W w w' : World} {N : Nat} {h : Nat → Nat × Nat} (k : Tn W w N h) (hb : Below w.heap.size w w') : Tn W w' N h := ⟨k.row.of_block (hb.block _ k.row.lt), k.d.trans (hb.mono k.d.size)⟩
theorem Tn.drew {W w : World} {N : Nat} {h : Nat → Nat × Nat} (k : Tn W w N h) : Tn W w.drew N h := k.below (Below.refl _ _).drew
theorem Tn.like {W w : World} {N : Nat} {h h' : Nat → Nat × Nat} (k : Tn W w N h) (e : ∀ c, c < N → h c = h' c) : Tn W w N h' := by
  obtain ⟨⟨cs, h1, h2, h3⟩, d⟩ := k
  refine ⟨⟨cs, h1, h2, fun i hi => ?_⟩, d⟩
  rw [h3 i hi]
  unfold tcell
  rw [e (i / 2) (by omega)]
theorem Tn.put {W w : World} {N : Nat} {h : Nat → Nat × Nat} (k : Tn W w N h) (j : Nat) (r : Nat × Nat) (h' : Nat → Nat × Nat) (e : ∀ c, c < N → h' c = if c = j then r else h c) :
    Tn W ((w.setCell ⟨W.heap.size, j * 2, none⟩ (.int .u64 (r.1 : Int))).setCell ⟨W.heap.size, j * 2 + 1, none⟩ (.int .u64 (r.2 : Int))) N h' := by
  refine ⟨?_, (k.d.setCell (Nat.le_refl _) _).setCell (Nat.le_refl _) _⟩
  obtain ⟨cs, h1, h2, h3⟩ := (k.row.set (j * 2) (.int .u64 (r.1 : Int))).set (j * 2 + 1) (.int .u64 (r.2 : Int))
  refine ⟨cs, h1, h2, fun i hi => ?_⟩
  rw [h3 i hi]
  unfold tcell
  rw [e (i / 2) (by omega)]
  dsimp only
  by_cases c1 : i = j * 2 + 1
  · rw [if_pos c1, if_neg (show ¬ i % 2 = 0 by omega), if_pos (show i / 2 = j by omega)]
  · rw [if_neg c1]
    by_cases c2 : i = j * 2
    · rw [if_pos c2, if_pos (show i % 2 = 0 by omega), if_pos (show i / 2 = j by omega)]
    · rw [if_neg c2, if_neg (show ¬ i / 2 = j by omega)]
theorem Tn.facts {W w : World} {N : Nat} {h : Nat → Nat × Nat} (k : Tn W w N h) (j : Nat) (hj : j < N) :
    w.cell? ⟨W.heap.size, j * 2, none⟩ = some (.int .u64 ((h j).1 : Int)) ∧ w.cell? ⟨W.heap.size, j * 2 + 1, none⟩ = some (.int .u64 ((h j).2 : Int)) ∧ w.frozen? ⟨W.heap.size, j * 2, none⟩ = false ∧ w.frozen? ⟨W.heap.size, j * 2 + 1, none⟩ = false := by
  have c1 := k.row.cell (i := j * 2) (by omega)
  have c0 := k.row.cell (i := j * 2 + 1) (by omega)
  unfold tcell at c1 c0
  rw [if_pos (by omega), show j * 2 / 2 = j by omega] at c1
  rw [if_neg (by omega), show (j * 2 + 1) / 2 = j by omega] at c0
  exact ⟨c1, c0, k.row.frozen _, k.row.frozen _⟩
theorem Tn.start {W w : World} {base N : Nat} (h : w.ownsRow base 24 2 (.slice (some ⟨W.heap.size, 0, none⟩) N N) N (madeCells (Value.agg #[.int .u64 0, .int .u64 0]).cells (N * 2)).toList) (hg : W.grownBy w none) (F : Nat → Nat × Nat) (hF : ∀ c, c < N → F c = (0, 0)) : Tn W w N F := by
  obtain ⟨f, ⟨cs, h1, h2, h3⟩, hz⟩ := own_zero h
  refine ⟨⟨cs, h1, h2, fun i hi => ?_⟩, (Below.refl _ _).grown hg (Nat.le_refl _) (fun k hk => by cases hk)⟩
  rw [h3 i hi, hz i hi]
  unfold tcell
  rw [hF (i / 2) (by omega)]
  split <;> rfl
theorem Tn.erow {W w : World} {N : Nat} {h : Nat → Nat × Nat} (k : Tn W w N h) {es : List (Nat × Nat)} (hl : es.length = N) (e : ∀ c, c < N → el es c = h c) : ERow w (some ⟨W.heap.size, 0, none⟩) es := row_tab hl k.row fun p hp => by
  unfold tcell
  rw [e (p / 2) (by omega)]
/-- The row that is turned, i elements done. -/
def tr (ps : List (Nat × Nat)) (i c : Nat) : Nat × Nat := xs i fun v => sl (hs (el ps v) c) (bv (v : Int))
theorem lt_tr (ps : List (Nat × Nat)) (i c : Nat) : lt2 (tr ps i c) := lt_xs (fun _ => lt_sl (bv_lt2 _)) _
def trj (ps : List (Nat × Nat)) (i j c : Nat) : Nat × Nat := if c < j then tr ps (i + 1) c else tr ps i c
end Go.Proofs.Ytakaconhoodigaa

/- A region that draws its order, walked by what holds between its operations, whichever of them have come up: no order is laid out. -/
namespace Go
section
variable {P : Program} {md : Region.Mode} {Q : Exit → Act → World → Prop} {S : World → Prop}

/-- One more has come up. -/
def setL (L : Nat → Bool) (i : Nat) : Nat → Bool := fun j => if j = i then true else L j
theorem setL_same (L : Nat → Bool) (i : Nat) : setL L i i = true := by simp [setL]
theorem setL_other (L : Nat → Bool) {i j : Nat} (h : j ≠ i) : setL L i j = L j := by simp [setL, h]
theorem setL_true {L : Nat → Bool} {i j : Nat} (h : L j = true) : setL L i j = true := by
  unfold setL; split
  · rfl
  · exact h
/-- Each operation of a row, with its number. -/
def EachAt (f : Nat → Oper → Prop) : Nat → List Oper → Prop
  | _, [] => True
  | n, o :: l => f n o ∧ EachAt f (n + 1) l
theorem EachAt.at {f : Nat → Oper → Prop} : ∀ {l : List Oper} {n : Nat}, EachAt f n l → ∀ i o, l[i]? = some o → f (n + i) o
  | [], _, _, i, o, h => by simp at h
  | x :: l, n, ⟨h1, h2⟩, 0, o, h => by simp at h; subst h; exact h1
  | x :: l, n, ⟨h1, h2⟩, i + 1, o, h => by
    have := h2.at i o (by simpa using h)
    rwa [show n + 1 + i = n + (i + 1) by omega] at this
/-- Each waits for such as stand ahead of it. -/
def lowB (md : Region.Mode) : Nat → List Oper → Bool
  | _, [] => true
  | n, o :: l => (o.after.all fun e => !Region.binds md e || decide (e.on < n)) && lowB md (n + 1) l
theorem lowB_at : ∀ {l : List Oper} {n : Nat}, lowB md n l = true → ∀ i o, l[i]? = some o → ∀ e ∈ o.after, Region.binds md e = true → e.on < n + i
  | [], _, _, i, o, h => by simp at h
  | x :: l, n, hb, i, o, h => by
    simp only [lowB, Bool.and_eq_true] at hb
    cases i with
    | zero =>
      simp at h; subst h
      intro e he hbi
      have := (Array.all_eq_true'.1 hb.1) e he
      rw [hbi] at this
      simpa using this
    | succ i =>
      have := lowB_at hb.2 i o (by simpa using h)
      rwa [show n + 1 + i = n + (i + 1) by omega] at this
theorem getD_set_inv (l : Array Bool) (i j : Nat) : (l.setIfInBounds i true).getD j true = setL (fun j => l.getD j true) i j := by
  unfold setL
  by_cases h : j = i
  · subst h
    rw [if_pos rfl]
    simp only [Array.getD_eq_getD_getElem?, Array.getElem?_setIfInBounds]
    by_cases hj : j < l.size
    · simp [hj]
    · simp [hj]
  · rw [if_neg h]
    simp only [Array.getD_eq_getD_getElem?, Array.getElem?_setIfInBounds]
    rw [if_neg (fun e => h e.symm)]
theorem getD_true_false {l : Array Bool} {j : Nat} (h : j < l.size) : l.getD j true = l.getD j false := by
  simp [Array.getD_eq_getD_getElem?, h]
theorem all_listed {ops : Array Oper} {listed : Array Bool} (low : lowB md 0 ops.toList = true) (hz : listed.size = ops.size) (h : Region.ready md ops listed = []) : ∀ n i, i < n → i < ops.size → listed.getD i true = true := by
  intro n
  induction n with
  | zero => intro i hi; omega
  | succ n ih =>
    intro i hi hio
    by_cases hl : listed.getD i true = true
    · exact hl
    · exfalso
      have hm : i ∈ Region.ready md ops listed := by
        refine ready_iff.2 ⟨by simpa using hl, ops[i], by simp [hio], fun e he hb => ?_⟩
        have h1 := lowB_at low i ops[i] (by simp [hio]) e he hb
        have h2 := ih e.on (by omega) (by omega)
        rwa [getD_true_false (by omega)] at h2
      rw [h] at hm
      cases hm
/-- THE RULE: what holds at the start, and is kept by each operation that may come up, holds where all have come up. -/
theorem wpAnyH_inv {ops : Array Oper} (I : (Nat → Bool) → Act → World → Prop) (low : lowB md 0 ops.toList = true) (hIS : ∀ L a w, I L a w → S w)
    (step : ∀ L a w, I L a w → EachAt (fun i o => L i = false → (∀ e ∈ o.after, Region.binds md e = true → L e.on = true) → wpOp P ops Q i (fun a' w' => I (setL L i) a' w') a w) 0 ops.toList)
    (done : ∀ L a w, I L a w → (∀ i, i < ops.size → L i = true) → Q .normal a w) :
    ∀ (fuel : Nat) (listed : Array Bool) (a : Act) (w : World), listed.size = ops.size → listed.toList.count false ≤ fuel → I (fun j => listed.getD j true) a w → wpAnyH P md ops Q S fuel listed a w := by
  intro fuel
  induction fuel with
  | zero =>
    intro listed a w hz hc hI
    have hall : ∀ i, i < ops.size → listed.getD i true = true := fun i hi => by
      have h0 : ¬ false ∈ listed.toList := fun hm => by have := List.count_pos_iff.2 hm; omega
      have : listed[i]'(by omega) = true := by
        cases hb : listed[i]'(by omega) with
        | true => rfl
        | false => exact absurd (by rw [← hb]; exact Array.getElem_mem_toList (by omega)) h0
      simp [Array.getD_eq_getD_getElem?, show i < listed.size by omega, this]
    refine ⟨?_, done _ a w hI hall⟩
    rcases hr : Region.ready md ops listed with _ | ⟨i, rs⟩
    · rfl
    · exfalso
      have hm : i ∈ Region.ready md ops listed := by rw [hr]; exact List.mem_cons_self ..
      obtain ⟨h1, o, ho, _⟩ := ready_iff.1 hm
      have := hall i (Array.getElem?_eq_some_iff.1 ho).1
      rw [this] at h1
      cases h1
  | succ fuel ih =>
    intro listed a w hz hc hI
    refine ⟨fun hr => done _ a w hI fun i hi => all_listed low hz hr (i + 1) i (by omega) hi, fun i hi => ?_⟩
    obtain ⟨h1, o, ho, ha⟩ := ready_iff.1 hi
    have hio : i < ops.size := (Array.getElem?_eq_some_iff.1 ho).1
    have hst := (step _ a w hI).at i o (by rw [Array.getElem?_toList]; exact ho)
    rw [Nat.zero_add] at hst
    refine wpOp_mono (fun a' w' hI' => ?_) (hst h1 fun e he hb => by
      have := ha e he hb
      have hlt := lowB_at low i o (by rw [Array.getElem?_toList]; exact ho) e he hb
      show listed.getD e.on true = true
      rw [getD_true_false (by omega)]; exact this)
    refine ⟨hIS _ _ _ hI', ih _ a' w' (by simp [hz]) ?_ ?_⟩
    · have hlt : i < listed.toList.length := by simp; omega
      have hf : listed.toList[i] = false := by
        have h2 : listed.getD i true = listed[i]'(by omega) := by simp [Array.getD_eq_getD_getElem?, show i < listed.size by omega]
        rw [h2] at h1
        simpa using h1
      rw [Array.toList_setIfInBounds, List.count_set hlt, hf]
      have : 0 < listed.toList.count false := List.count_pos_iff.2 (by rw [← hf]; exact List.getElem_mem hlt)
      rw [if_pos (by rfl), if_neg (by decide)]
      omega
    · rw [show (fun j => (listed.setIfInBounds i true).getD j true) = setL (fun j => listed.getD j true) i from funext fun j => getD_set_inv listed i j]
      exact hI'
/-- What a bound operation waits for. -/
theorem waits {L : Nat → Bool} {es : Array Edge} (h : ∀ e ∈ es, Region.binds md e = true → L e.on = true) : ∀ j, ((es.toList.filter (Region.binds md)).map Edge.on).contains j = true → L j = true := by
  intro j hj
  rw [List.contains_iff_mem] at hj
  obtain ⟨e, he, rfl⟩ := List.mem_map.1 hj
  obtain ⟨h1, h2⟩ := List.mem_filter.1 he
  exact h e (Array.mem_def.2 h1) h2
theorem EachAt.cons {f : Nat → Oper → Prop} {n : Nat} {o : Oper} {l : List Oper} (h1 : f n o) (h2 : EachAt f (n + 1) l) : EachAt f n (o :: l) := ⟨h1, h2⟩
theorem EachAt.nil {f : Nat → Oper → Prop} {n : Nat} : EachAt f n [] := trivial
/-- One step of the rule: the way on is shut. -/
theorem wpOp_shut {ops : Array Oper} {i : Nat} {o : Oper} {K : Act → World → Prop} {a : Act} {w : World} (ho : ops[i]? = some o)
    (h : ∀ K' : Act → World → Prop, Shut (∀ a w, K a w → K' a w) → if Region.wanted o (yielded ops a.tmps) = true then Oper.wp P o a w K' Q else K' (a.put o.dst undef) w) : wpOp P ops Q i K a w :=
  wpOp_step ho (fun K' hK => h K' hK)
end
end Go
