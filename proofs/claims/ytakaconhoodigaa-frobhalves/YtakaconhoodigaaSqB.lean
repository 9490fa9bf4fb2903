/- The rows of a list one behind the other, no Go in sight, and the contract of span's add. -/
import Derived.Test.YtakaconhoodigaaSqA
import Derived.Test.YtakaconhoodigaaLpV
namespace Go.Proofs.Ytakaconhoodigaa
open Go.RowKit
namespace Sq
open Cb
open Rg

abbrev Row := (Nat × Nat) × (Nat × Nat)
def sms (rs : List Row) : List (Nat × Nat) := rs.map Prod.fst
theorem sms_len (rs : List Row) : (sms rs).length = rs.length := by simp [sms]
theorem redv_red (rs : List Row) (x : Nat × Nat) : ∀ m, m ≤ rs.length → (redv rs x m).1 = red (sms (rs.take m)) x
  | 0, _ => by simp [redv, sms, red]
  | m + 1, h => by
    have i := redv_red rs x m (by omega)
    have e : rs.take (m + 1) = rs.take m ++ [rs[m]] := by rw [List.take_succ_eq_append_getElem]
    rw [e]
    unfold sms
    rw [List.map_append, List.map_cons, List.map_nil, red_snoc]
    have g : rs.getD m ((0, 0), (0, 0)) = rs[m] := by simp [List.getD, show m < rs.length from h]
    unfold redv
    rw [g, i]
    unfold st
    show Prod.fst (if hs (red (sms (rs.take m)) x) (ld rs[m].1) = true then _ else _) = if hs (red (sms (rs.take m)) x) (ld rs[m].1) = true then _ else _
    split
    · rfl
    · exact i
theorem redv_all (rs : List Row) (x : Nat × Nat) : (redv rs x rs.length).1 = red (sms rs) x := by
  rw [redv_red rs x _ (Nat.le_refl _), List.take_length]
theorem outv_fst (r o : Row) : (outv (ld r.1) r o).1 = st o.1 r.1 := by
  unfold outv st
  show (if hs o.1 (ld r.1) = true then _ else _ : Row).1 = if hs o.1 (ld r.1) = true then _ else _
  split <;> rfl
/-- The rows with one more. -/
def more (rs : List Row) (r : Row) : List Row := rs.map (outv (ld r.1) r) ++ [r]
theorem sms_more (rs : List Row) (r : Row) : sms (more rs r) = (sms rs).map (fun o => st o r.1) ++ [r.1] := by
  unfold sms more
  rw [List.map_append, List.map_map, List.map_map]
  congr 1
  exact List.map_congr_left fun o _ => outv_fst r o
theorem more_len (rs : List Row) (r : Row) : (more rs r).length = rs.length + 1 := by simp [more]
def ofs (rs : List Row) : List (Nat × Nat) := rs.map Prod.snd
theorem ltR_of {rs : List Row} (h : RR (sms rs)) (h2 : ltE (ofs rs)) : ltR rs := fun r hr => ⟨h.lt r.1 (List.mem_map.2 ⟨r, hr, rfl⟩), h2 r.2 (List.mem_map.2 ⟨r, hr, rfl⟩), h.ne r.1 (List.mem_map.2 ⟨r, hr, rfl⟩)⟩
theorem lt_more {rs : List Row} {r : Row} (h : ltE (ofs rs)) (hr : lt2 r.2) : ltE (ofs (more rs r)) := fun e he => by
  obtain ⟨o, ho, rfl⟩ := List.mem_map.1 he
  simp only [more, List.mem_append, List.mem_map, List.mem_singleton] at ho
  rcases ho with ⟨p, hp, rfl⟩ | rfl
  · have h2 := h p.2 (List.mem_map.2 ⟨p, hp, rfl⟩)
    unfold outv; split
    · exact ⟨Nat.xor_lt_two_pow h2.1 hr.1, Nat.xor_lt_two_pow h2.2 hr.2⟩
    · exact h2
  · exact hr
/-- The rows and the new elements of the first i of a list. -/
def stp (s : List Row × List Nat) (i : Nat) (x : Nat × Nat) : List Row × List Nat :=
  let q := redv s.1 x s.1.length
  if q.1 = (0, 0) then s else (more s.1 (q.1, xa q.2 (bv (s.2.length : Int))), s.2 ++ [i])
def elm (l : List (Nat × Nat)) : Nat → List Row × List Nat
  | 0 => ([], [])
  | i + 1 => stp (elm l i) i (el l i)
/-- What holds of them. -/
structure EI (l : List (Nat × Nat)) (i : Nat) (s : List Row × List Nat) : Prop where
  rr : RR (sms s.1)
  eqs : Eqs (sms s.1) (l.take i)
  len : s.1.length = s.2.length
  le : s.2.length ≤ i
  of : ltE (ofs s.1)
theorem take_el {l : List (Nat × Nat)} {i : Nat} (hi : i < l.length) : l.take (i + 1) = l.take i ++ [el l i] := by
  rw [List.take_succ_eq_append_getElem hi]
  congr 2
  simp [el, List.getD, hi]
theorem Eqs.trans {a b c : List (Nat × Nat)} (h : Eqs a b) (k : Eqs b c) : Eqs a c := fun x => (h x).trans (k x)
theorem Eqs.symm {a b : List (Nat × Nat)} (h : Eqs a b) : Eqs b a := fun x => (h x).symm
theorem EI.step {l : List (Nat × Nat)} (hl : ltE l) {i : Nat} (hi : i < l.length) {s : List Row × List Nat} (h : EI l i s) : EI l (i + 1) (stp s i (el l i)) := by
  have hx : lt2 (el l i) := ltE_el hl i
  have er := redv_all s.1 (el l i)
  unfold stp
  simp only
  by_cases c : (redv s.1 (el l i) s.1.length).1 = (0, 0)
  · rw [if_pos c]
    refine ⟨h.rr, ?_, h.len, Nat.le_succ_of_le h.le, h.of⟩
    rw [take_el hi]
    have : Sp (l.take i) (el l i) := (h.eqs _).1 ((red_iff h.rr _).2 (er ▸ c))
    exact h.eqs.trans (sp_in this).symm
  · rw [if_neg c]
    have lr := redv_lt (ltR_of h.rr h.of) (el l i) hx.1 hx.2 s.1.length (Nat.le_refl _)
    generalize redv s.1 (el l i) s.1.length = q at *
    have hb := red_bit h.rr (el l i)
    rw [← er] at hb
    refine ⟨?_, ?_, ?_, ?_, ?_⟩
    · show RR (sms (more s.1 _))
      rw [sms_more]
      exact rr_more h.rr lr.1 c hb
    · show Eqs (sms (more s.1 _)) _
      rw [sms_more, take_el hi]
      refine (sp_more _ _).trans ?_
      have := sp_left h.eqs (el l i)
      rwa [← er] at this
    · show (more s.1 _).length = _
      rw [more_len, List.length_append, h.len]; rfl
    · show (s.2 ++ [i]).length ≤ _
      rw [List.length_append]; have := h.le; simp; omega
    · exact lt_more h.of (lt_xa lr.2 (bv_lt2 _))
theorem elm_ei {l : List (Nat × Nat)} (hl : ltE l) : ∀ i, i ≤ l.length → EI l i (elm l i)
  | 0, _ => ⟨RR.nil, fun _ => by simp [sms, elm], rfl, Nat.le_refl _, fun _ h => by simp [ofs, elm] at h⟩
  | i + 1, h => (elm_ei hl i (by omega)).step hl h
/-- While a row is laid beside: the rows behind m of them. -/
def outs (rs : List Row) (r : Row) (L : Nat) : Nat → List Row
  | 0 => rs
  | m + 1 => (outs rs r L m).set m (outv L r (rs.getD m ((0, 0), (0, 0))))
theorem outs_len (rs : List Row) (r : Row) (L : Nat) : ∀ m, (outs rs r L m).length = rs.length
  | 0 => rfl
  | m + 1 => by unfold outs; rw [List.length_set, outs_len rs r L m]
theorem outs_at (rs : List Row) (r : Row) (L : Nat) : ∀ m j, j < rs.length → (outs rs r L m)[j]? = some (if j < m then outv L r (rs.getD j ((0, 0), (0, 0))) else rs.getD j ((0, 0), (0, 0)))
  | 0, j, hj => by simp [outs, List.getD, hj]
  | m + 1, j, hj => by
    unfold outs
    rw [List.getElem?_set]
    by_cases e : m = j
    · subst e
      rw [if_pos rfl, outs_len, if_pos hj, if_pos (by omega)]
    · rw [if_neg e, outs_at rs r L m j hj]
      by_cases c : j < m
      · rw [if_pos c, if_pos (by omega)]
      · rw [if_neg c, if_neg (by omega)]
theorem outs_all (rs : List Row) (r : Row) (L : Nat) : outs rs r L rs.length = rs.map (outv L r) := by
  refine List.ext_getElem? fun j => ?_
  by_cases hj : j < rs.length
  · rw [outs_at rs r L _ j hj, if_pos hj]
    simp [List.getD, hj]
  · rw [List.getElem?_eq_none (by rw [outs_len]; omega), List.getElem?_eq_none (by simp; omega)]
theorem outs_get (rs : List Row) (r : Row) (L m : Nat) (hm : m < rs.length) : (outs rs r L m).getD m ((0, 0), (0, 0)) = rs.getD m ((0, 0), (0, 0)) := by
  show ((outs rs r L m)[m]?).getD _ = _
  rw [outs_at rs r L m m hm, if_neg (by omega)]
  rfl
end Sq
open Sq
/-- A row of one's own where its block is as it was. -/
theorem own_keep {w w' : World} {base size n : Nat} {T : TypeId} {v : Value} {xs : List Value} (h : w.ownsRow base T size v n xs) (k : ∀ g, v.ownBlock = some g → w'.heap[g]? = w.heap[g]?) : w'.ownsRow base T size v n xs := by
  obtain ⟨h1, h2⟩ := h
  refine ⟨h1, ?_⟩
  rcases h2 with h2 | ⟨g, cap, cur, e, hb, hg, hn, hm, hsz, ht⟩
  · exact .inl h2
  · refine .inr ⟨g, cap, cur, e, hb, ?_, hn, hm, hsz, ht⟩
    rw [k g (by rw [e]; rfl)]; exact hg
theorem own_unlike {w : World} {b1 b2 : Nat} {T U : TypeId} {s1 s2 : Nat} {v1 v2 : Value} {n1 n2 : Nat} {ys zs : List Value} (h1 : w.ownsRow b1 T s1 v1 n1 ys) (h2 : w.ownsRow b2 U s2 v2 n2 zs) (hn : T ≠ U) : ∀ g, v2.ownBlock = some g → v1.ownBlock ≠ some g := by
  intro g e2 e1
  rcases h1.2 with ⟨h, _⟩ | ⟨g1, _, c1, e, _, hh1, _⟩
  · rw [h] at e1; cases e1
  rcases h2.2 with ⟨h, _⟩ | ⟨g2, _, c2, e', _, hh2, _⟩
  · rw [h] at e2; cases e2
  rw [e] at e1
  rw [e'] at e2
  simp [Value.ownBlock] at e1 e2
  subst e1 e2
  rw [hh1] at hh2
  simp at hh2
  exact hn hh2.2
end Go.Proofs.Ytakaconhoodigaa
