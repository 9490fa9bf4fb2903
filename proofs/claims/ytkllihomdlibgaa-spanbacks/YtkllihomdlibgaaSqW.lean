/- Which elements sum up to one, no Go in sight: of what each row is, and from the last element down. -/
import Derived.Test.YtkllihomdlibgaaSqQ
namespace Go.Proofs.Ytkllihomdlibgaa
namespace Sq
open Cb
open Rg

/-- The sum of those of the new elements that a number's bits name. -/
def cmb (l : List (Nat × Nat)) (fr : List Nat) (o : Nat × Nat) : Nat × Nat := xs fr.length fun k => sl (hs o k) (el l (fr.getD k 0))
theorem cmb_xa (l : List (Nat × Nat)) (fr : List Nat) (a b : Nat × Nat) : cmb l fr (xa a b) = xa (cmb l fr a) (cmb l fr b) := by
  unfold cmb
  rw [← xs_two]
  exact xs_congr _ fun k _ => by rw [hs_xa, sl_xor]
theorem cmb_zero (l : List (Nat × Nat)) (fr : List Nat) : cmb l fr (0, 0) = (0, 0) := xs_none _ fun k _ => by rw [hs_zero]; rfl
theorem cmb_snoc (l : List (Nat × Nat)) (fr : List Nat) (i : Nat) (o : Nat × Nat) : cmb l (fr ++ [i]) o = xa (cmb l fr o) (sl (hs o fr.length) (el l i)) := by
  unfold cmb
  rw [List.length_append, List.length_singleton]
  simp only [xs]
  congr 1
  · refine xs_congr _ fun k hk => ?_
    congr 2
    simp [List.getD, List.getElem?_append_left hk]
  · congr 2
    simp [List.getD]
theorem lt_cmb {l : List (Nat × Nat)} (hl : ltE l) (fr : List Nat) (o : Nat × Nat) : lt2 (cmb l fr o) := lt_xs (fun _ => lt_sl (ltE_el hl _)) _
/-- What each row is of. -/
structure EO (l : List (Nat × Nat)) (s : List Row × List Nat) : Prop where
  sum : ∀ r ∈ s.1, r.1 = cmb l s.2 r.2
  top : ∀ r ∈ s.1, ∀ k, s.2.length ≤ k → hs r.2 k = false
theorem getR {rs : List Row} {m : Nat} (h : m < rs.length) : rs.getD m ((0, 0), (0, 0)) ∈ rs := by
  have : rs.getD m ((0, 0), (0, 0)) = rs[m] := by simp [List.getD, h]
  rw [this]; exact List.getElem_mem h
theorem redv_of {l : List (Nat × Nat)} {s : List Row × List Nat} (h : EO l s) (x : Nat × Nat) : ∀ m, m ≤ s.1.length → (redv s.1 x m).1 = xa x (cmb l s.2 (redv s.1 x m).2) ∧ ∀ k, s.2.length ≤ k → hs (redv s.1 x m).2 k = false
  | 0, _ => ⟨by show x = xa x (cmb l s.2 (0, 0)); rw [cmb_zero, xa_zero], fun k _ => hs_zero k⟩
  | m + 1, hm => by
    obtain ⟨i1, i2⟩ := redv_of h x m (by omega)
    have mem := getR (rs := s.1) (m := m) (by omega)
    have r1 := h.sum _ mem
    have r2 := h.top _ mem
    unfold redv
    split
    · refine ⟨?_, fun k hk => ?_⟩
      · show xa (redv s.1 x m).1 (s.1.getD m ((0, 0), (0, 0))).1 = xa x (cmb l s.2 (xa (redv s.1 x m).2 (s.1.getD m ((0, 0), (0, 0))).2))
        rw [cmb_xa, ← r1, ← xa_assoc, ← i1]
      · show hs (xa (redv s.1 x m).2 (s.1.getD m ((0, 0), (0, 0))).2) k = false
        rw [hs_xa, i2 k hk, r2 k hk]; rfl
    · exact ⟨i1, i2⟩
theorem bv_at (n k : Nat) (hn : n < 128) (hk : k < 128) : hs (bv (n : Int)) k = decide (k = n) := bv_has n k hn hk
theorem bv_high (n k : Nat) (hn : n < 128) (hk : n < k) : hs (bv (n : Int)) k = false := by
  by_cases h : k < 128
  · rw [bv_at n k hn h]; simp; omega
  · have l0 := bv_lt2 (n : Int)
    have h1 : hs (bv (n : Int)) n = true := by rw [bv_at n n hn hn]; simp
    have n0 := hs_ne h1
    have := ld_lt l0 n0
    exact hs_above l0 (by omega)
theorem EO.step {l : List (Nat × Nat)} {s : List Row × List Nat} (h : EO l s) (hn : s.2.length < 128) (i : Nat) : EO l (stp s i (el l i)) := by
  obtain ⟨q1, q2⟩ := redv_of h (el l i) s.1.length (Nat.le_refl _)
  unfold stp
  simp only
  generalize redv s.1 (el l i) s.1.length = q at *
  split
  · exact h
  · have hb : hs (bv (s.2.length : Int)) s.2.length = true := by rw [bv_at _ _ hn hn]; simp
    have new1 : q.1 = cmb l (s.2 ++ [i]) (xa q.2 (bv (s.2.length : Int))) := by
      rw [cmb_snoc, cmb_xa, hs_xa, q2 _ (Nat.le_refl _), hb, q1]
      have : cmb l s.2 (bv (s.2.length : Int)) = (0, 0) := xs_none _ fun k hk => by
        rw [bv_at _ k hn (by omega)]
        simp [show ¬ k = s.2.length by omega, sl]
      rw [this, xa_zero]
      show _ = xa (cmb l s.2 q.2) (el l i)
      rw [xa_comm]
    have new2 : ∀ k, s.2.length + 1 ≤ k → hs (xa q.2 (bv (s.2.length : Int))) k = false := fun k hk => by
      rw [hs_xa, q2 k (by omega), bv_high _ k hn (by omega)]; rfl
    have old : ∀ r ∈ s.1, r.1 = cmb l (s.2 ++ [i]) r.2 := fun r hr => by
      rw [cmb_snoc, h.top r hr _ (Nat.le_refl _), ← h.sum r hr]
      exact (xa_zero _).symm
    refine ⟨fun r hr => ?_, fun r hr k hk => ?_⟩
    · simp only [more, List.mem_append, List.mem_map, List.mem_singleton] at hr
      rcases hr with ⟨o, ho, rfl⟩ | rfl
      · unfold outv
        split
        · show xa o.1 q.1 = cmb l (s.2 ++ [i]) (xa o.2 (xa q.2 (bv (s.2.length : Int))))
          rw [cmb_xa, ← new1, ← old o ho]
        · exact old o ho
      · exact new1
    · have hk' : s.2.length + 1 ≤ k := by simpa using hk
      simp only [more, List.mem_append, List.mem_map, List.mem_singleton] at hr
      rcases hr with ⟨o, ho, rfl⟩ | rfl
      · unfold outv
        split
        · show hs (xa o.2 (xa q.2 (bv (s.2.length : Int)))) k = false
          rw [hs_xa, h.top o ho k (by omega), new2 k hk']; rfl
        · exact h.top o ho k (by omega)
      · exact new2 k hk'
theorem elm_eo {l : List (Nat × Nat)} (hl : ltE l) (h128 : l.length ≤ 128) : ∀ i, i ≤ l.length → EO l (elm l i)
  | 0, _ => ⟨fun r hr => by simp [elm] at hr, fun r hr => by simp [elm] at hr⟩
  | i + 1, h => (elm_eo hl h128 i (by omega)).step (by have := (elm_ei hl i (by omega)).le; omega) i
/-- Is it in the span of those ahead? -/
def old? (l : List (Nat × Nat)) (i : Nat) : Bool := decide (red (sms (elm l i).1) (el l i) = (0, 0))
theorem elm_succ (l : List (Nat × Nat)) (i : Nat) : (elm l (i + 1)).2 = if old? l i = true then (elm l i).2 else (elm l i).2 ++ [i] := by
  show (stp (elm l i) i (el l i)).2 = _
  unfold stp old?
  simp only [redv_all]
  by_cases h : red (sms (elm l i).1) (el l i) = (0, 0)
  · rw [if_pos h, if_pos (by simp [h])]
  · rw [if_neg h, if_neg (by simp [h])]
theorem old_iff {l : List (Nat × Nat)} (hl : ltE l) {i : Nat} (hi : i ≤ l.length) : old? l i = true ↔ Sp (l.take i) (el l i) := by
  have h := elm_ei hl i hi
  unfold old?
  rw [decide_eq_true_iff, ← red_iff h.rr, h.eqs]
/-- Is the element i among them? -/
def wch (l : List (Nat × Nat)) (o : Nat × Nat) (i : Nat) : Bool := !old? l i && hs o (elm l i).2.length
/-- The sum of them up to i. -/
def ups (l : List (Nat × Nat)) (o : Nat × Nat) (i : Nat) : Nat × Nat := cmb l (elm l i).2 o
theorem ups_zero (l : List (Nat × Nat)) (o : Nat × Nat) : ups l o 0 = (0, 0) := rfl
theorem ups_succ (l : List (Nat × Nat)) (o : Nat × Nat) (i : Nat) : ups l o (i + 1) = xa (ups l o i) (sl (wch l o i) (el l i)) := by
  unfold ups wch
  rw [elm_succ]
  cases old? l i
  · rw [if_neg (by decide), cmb_snoc]; rfl
  · rw [if_pos rfl]; exact (xa_zero _).symm
theorem ups_xs (l : List (Nat × Nat)) (o : Nat × Nat) : ∀ i, ups l o i = xs i fun j => sl (wch l o j) (el l j)
  | 0 => rfl
  | i + 1 => by rw [ups_succ, ups_xs l o i]; rfl
theorem ups_sp {l : List (Nat × Nat)} (o : Nat × Nat) : ∀ i, i ≤ l.length → Sp (l.take i) (ups l o i)
  | 0, _ => by rw [ups_zero]; exact sp_zero _
  | i + 1, h => by
    rw [ups_succ, take_el (by omega)]
    refine sp_add _ (sp_app (ups_sp o i (by omega))) ?_
    cases wch l o i
    · exact sp_zero _
    · exact sp_app' (sp_mem (show el l i ∈ [el l i] by simp))
theorem lt_ups {l : List (Nat × Nat)} (hl : ltE l) (o : Nat × Nat) (i : Nat) : lt2 (ups l o i) := lt_cmb hl _ o
theorem ltE_take {l : List (Nat × Nat)} (hl : ltE l) (i : Nat) : ltE (l.take i) := fun e he => hl e (List.mem_of_mem_take he)
/-- Has one more no more rows? -/
def in? (l : List (Nat × Nat)) (x : Nat × Nat) : Bool := decide ((rb (l ++ [x])).length = (rb l).length)
theorem in?_iff {l : List (Nat × Nat)} (hl : ltE l) {x : Nat × Nat} (hx : lt2 x) : in? l x = true ↔ Sp l x := by
  unfold in?
  rw [decide_eq_true_iff]
  exact (rb_in hl hx).symm
theorem old_in {l : List (Nat × Nat)} (hl : ltE l) {i : Nat} (hi : i ≤ l.length) : old? l i = in? (l.take i) (el l i) := by
  rw [Bool.eq_iff_iff, old_iff hl hi, in?_iff (ltE_take hl i) (ltE_el hl i)]
/-- From the last one down: it is in the sum if it is new and what is left is not in the span of those ahead. -/
theorem wch_iff {l : List (Nat × Nat)} (hl : ltE l) (o : Nat × Nat) {i : Nat} (hi : i < l.length) : wch l o i = (!in? (l.take i) (el l i) && !in? (l.take i) (ups l o (i + 1))) := by
  rw [← old_in hl (Nat.le_of_lt hi)]
  have e : wch l o i = (!old? l i && hs o (elm l i).2.length) := rfl
  cases h : old? l i
  · rw [h] at e
    rw [ups_succ]
    have s1 := ups_sp (l := l) o i (Nat.le_of_lt hi)
    have n1 : ¬ Sp (l.take i) (el l i) := fun k => by
      rw [(old_iff hl (Nat.le_of_lt hi)).2 k] at h; cases h
    cases hb : wch l o i
    · have : in? (l.take i) (xa (ups l o i) (sl false (el l i))) = true := (in?_iff (ltE_take hl i) (lt_xa (lt_ups hl o i) (lt_sl (ltE_el hl i)))).2 (by show Sp _ (xa (ups l o i) (0, 0)); rw [xa_zero]; exact s1)
      rw [this]; rfl
    · have : in? (l.take i) (xa (ups l o i) (sl true (el l i))) = false := by
        cases q : in? (l.take i) (xa (ups l o i) (sl true (el l i)))
        · rfl
        · refine absurd ?_ n1
          have k := (in?_iff (ltE_take hl i) (lt_xa (lt_ups hl o i) (lt_sl (ltE_el hl i)))).1 q
          have k2 := sp_add _ s1 k
          rw [← xa_assoc, xa_self, xa_comm, xa_zero] at k2
          exact k2
      rw [this]; rfl
  · rw [h] at e; rw [e]; rfl
end Sq
end Go.Proofs.Ytkllihomdlibgaa
