/- The rows of a list one behind the other, no Go in sight, and the contract of span's add. -/
import Derived.Test.YtnecjkdlmecgdaaPSqA
import Derived.Test.YtnecjkdlmecgdaaLpV
namespace Go.Proofs.Ytnecjkdlmecgdaa
open Go.RowKit
namespace Sq
open Cb
open Rg

abbrev Row := (Nat × Nat) × (Nat × Nat)
def sms (rs : List Row) : List (Nat × Nat) := rs.map Prod.fst
theorem sms_len (rs : List Row) : (sms rs).length = rs.length := by simp [sms]
theorem redv_red (rs : List Row) (x : Nat × Nat) : ∀ m, m ≤ rs.length → (redv rs x m).1 = red (sms (rs.take m)) x
  | 0, _ => by simp [redv, sms, red]
  | m + 1, h => by
    have i := redv_red rs x m (by omega)
    have e : rs.take (m + 1) = rs.take m ++ [rs[m]] := by rw [List.take_succ_eq_append_getElem]
    rw [e]
    unfold sms
    rw [List.map_append, List.map_cons, List.map_nil, red_snoc]
    have g : rs.getD m ((0, 0), (0, 0)) = rs[m] := by simp [List.getD, show m < rs.length from h]
    unfold redv
    rw [g, i]
    unfold st
    show Prod.fst (if hs (red (sms (rs.take m)) x) (ld rs[m].1) = true then _ else _) = if hs (red (sms (rs.take m)) x) (ld rs[m].1) = true then _ else _
    split
    · rfl
    · exact i
theorem redv_all (rs : List Row) (x : Nat × Nat) : (redv rs x rs.length).1 = red (sms rs) x := by
  rw [redv_red rs x _ (Nat.le_refl _), List.take_length]
theorem outv_fst (r o : Row) : (outv (ld r.1) r o).1 = st o.1 r.1 := by
  unfold outv st
  show (if hs o.1 (ld r.1) = true then _ else _ : Row).1 = if hs o.1 (ld r.1) = true then _ else _
  split <;> rfl
/-- The rows with one more. -/
def more (rs : List Row) (r : Row) : List Row := rs.map (outv (ld r.1) r) ++ [r]
theorem sms_more (rs : List Row) (r : Row) : sms (more rs r) = (sms rs).map (fun o => st o r.1) ++ [r.1] := by
  unfold sms more
  rw [List.map_append, List.map_map, List.map_map]
  congr 1
  exact List.map_congr_left fun o _ => outv_fst r o
theorem more_len (rs : List Row) (r : Row) : (more rs r).length = rs.length + 1 := by simp [more]
def ofs (rs : List Row) : List (Nat × Nat) := rs.map Prod.snd
theorem ltR_of {rs : List Row} (h : RR (sms rs)) (h2 : ltE (ofs rs)) : ltR rs := fun r hr => ⟨h.lt r.1 (List.mem_map.2 ⟨r, hr, rfl⟩), h2 r.2 (List.mem_map.2 ⟨r, hr, rfl⟩), h.ne r.1 (List.mem_map.2 ⟨r, hr, rfl⟩)⟩
theorem lt_more {rs : List Row} {r : Row} (h : ltE (ofs rs)) (hr : lt2 r.2) : ltE (ofs (more rs r)) := fun e he => by
  obtain ⟨o, ho, rfl⟩ := List.mem_map.1 he
  simp only [more, List.mem_append, List.mem_map, List.mem_singleton] at ho
  rcases ho with ⟨p, hp, rfl⟩ | rfl
  · have h2 := h p.2 (List.mem_map.2 ⟨p, hp, rfl⟩)
    unfold outv; split
    · exact ⟨Nat.xor_lt_two_pow h2.1 hr.1, Nat.xor_lt_two_pow h2.2 hr.2⟩
    · exact h2
  · exact hr
/-- The rows and the new elements of the first i of a list. -/
def stp (s : List Row × List Nat) (i : Nat) (x : Nat × Nat) : List Row × List Nat :=
  let q := redv s.1 x s.1.length
  if q.1 = (0, 0) then s else (more s.1 (q.1, xa q.2 (bv (s.2.length : Int))), s.2 ++ [i])
def elm (l : List (Nat × Nat)) : Nat → List Row × List Nat
  | 0 => ([], [])
  | i + 1 => stp (elm l i) i (el l i)
/-- What holds of them. -/
structure EI (l : List (Nat × Nat)) (i : Nat) (s : List Row × List Nat) : Prop where
  rr : RR (sms s.1)
  eqs : Eqs (sms s.1) (l.take i)
  len : s.1.length = s.2.length
  le : s.2.length ≤ i
  of : ltE (ofs s.1)
theorem take_el {l : List (Nat × Nat)} {i : Nat} (hi : i < l.length) : l.take (i + 1) = l.take i ++ [el l i] := by
  rw [List.take_succ_eq_append_getElem hi]
  congr 2
  simp [el, List.getD, hi]
theorem Eqs.trans {a b c : List (Nat × Nat)} (h : Eqs a b) (k : Eqs b c) : Eqs a c := fun x => (h x).trans (k x)
theorem Eqs.symm {a b : List (Nat × Nat)} (h : Eqs a b) : Eqs b a := fun x => (h x).symm
theorem EI.step {l : List (Nat × Nat)} (hl : ltE l) {i : Nat} (hi : i < l.length) {s : List Row × List Nat} (h : EI l i s) : EI l (i + 1) (stp s i (el l i)) := by
  have hx : lt2 (el l i) := ltE_el hl i
  have er := redv_all s.1 (el l i)
  unfold stp
  simp only
  by_cases c : (redv s.1 (el l i) s.1.length).1 = (0, 0)
  · rw [if_pos c]
    refine ⟨h.rr, ?_, h.len, Nat.le_succ_of_le h.le, h.of⟩
    rw [take_el hi]
    have : Sp (l.take i) (el l i) := (h.eqs _).1 ((red_iff h.rr _).2 (er ▸ c))
    exact h.eqs.trans (sp_in this).symm
  · rw [if_neg c]
    have lr := redv_lt (ltR_of h.rr h.of) (el l i) hx.1 hx.2 s.1.length (Nat.le_refl _)
    generalize redv s.1 (el l i) s.1.length = q at *
    have hb := red_bit h.rr (el l i)
    rw [← er] at hb
    refine ⟨?_, ?_, ?_, ?_, ?_⟩
    · show RR (sms (more s.1 _))
      rw [sms_more]
      exact rr_more h.rr lr.1 c hb
    · show Eqs (sms (more s.1 _)) _
      rw [sms_more, take_el hi]
      refine (sp_more _ _).trans ?_
      have := sp_left h.eqs (el l i)
      rwa [← er] at this
    · show (more s.1 _).length = _
      rw [more_len, List.length_append, h.len]; rfl
    · show (s.2 ++ [i]).length ≤ _
      rw [List.length_append]; have := h.le; simp; omega
    · exact lt_more h.of (lt_xa lr.2 (bv_lt2 _))
theorem elm_ei {l : List (Nat × Nat)} (hl : ltE l) : ∀ i, i ≤ l.length → EI l i (elm l i)
  | 0, _ => ⟨RR.nil, fun _ => by simp [sms, elm], rfl, Nat.le_refl _, fun _ h => by simp [ofs, elm] at h⟩
  | i + 1, h => (elm_ei hl i (by omega)).step hl h
/-- While a row is laid beside: the rows behind m of them. -/
def outs (rs : List Row) (r : Row) (L : Nat) : Nat → List Row
  | 0 => rs
  | m + 1 => (outs rs r L m).set m (outv L r (rs.getD m ((0, 0), (0, 0))))
theorem outs_len (rs : List Row) (r : Row) (L : Nat) : ∀ m, (outs rs r L m).length = rs.length
  | 0 => rfl
  | m + 1 => by unfold outs; rw [List.length_set, outs_len rs r L m]
theorem outs_at (rs : List Row) (r : Row) (L : Nat) : ∀ m j, j < rs.length → (outs rs r L m)[j]? = some (if j < m then outv L r (rs.getD j ((0, 0), (0, 0))) else rs.getD j ((0, 0), (0, 0)))
  | 0, j, hj => by simp [outs, List.getD, hj]
  | m + 1, j, hj => by
    unfold outs
    rw [List.getElem?_set]
    by_cases e : m = j
    · subst e
      rw [if_pos rfl, outs_len, if_pos hj, if_pos (by omega)]
    · rw [if_neg e, outs_at rs r L m j hj]
      by_cases c : j < m
      · rw [if_pos c, if_pos (by omega)]
      · rw [if_neg c, if_neg (by omega)]
theorem outs_all (rs : List Row) (r : Row) (L : Nat) : outs rs r L rs.length = rs.map (outv L r) := by
  refine List.ext_getElem? fun j => ?_
  by_cases hj : j < rs.length
  · rw [outs_at rs r L _ j hj, if_pos hj]
    simp [List.getD, hj]
  · rw [List.getElem?_eq_none (by rw [outs_len]; omega), List.getElem?_eq_none (by simp; omega)]
theorem outs_get (rs : List Row) (r : Row) (L m : Nat) (hm : m < rs.length) : (outs rs r L m).getD m ((0, 0), (0, 0)) = rs.getD m ((0, 0), (0, 0)) := by
  show ((outs rs r L m)[m]?).getD _ = _
  rw [outs_at rs r L m m hm, if_neg (by omega)]
  rfl
end Sq
open Sq
/-- A row of one's own where its block is as it was. -/
theorem own_keep {w w' : World} {base size n : Nat} {T : TypeId} {v : Value} {xs : List Value} (h : w.ownsRow base T size v n xs) (k : ∀ g, v.ownBlock = some g → w'.heap[g]? = w.heap[g]?) : w'.ownsRow base T size v n xs := by
  obtain ⟨h1, h2⟩ := h
  refine ⟨h1, ?_⟩
  rcases h2 with h2 | ⟨g, cap, cur, e, hb, hg, hn, hm, hsz, ht⟩
  · exact .inl h2
  · refine .inr ⟨g, cap, cur, e, hb, ?_, hn, hm, hsz, ht⟩
    rw [k g (by rw [e]; rfl)]; exact hg
theorem own_unlike {w : World} {b1 b2 : Nat} {T U : TypeId} {s1 s2 : Nat} {v1 v2 : Value} {n1 n2 : Nat} {ys zs : List Value} (h1 : w.ownsRow b1 T s1 v1 n1 ys) (h2 : w.ownsRow b2 U s2 v2 n2 zs) (hn : T ≠ U) : ∀ g, v2.ownBlock = some g → v1.ownBlock ≠ some g := by
  intro g e2 e1
  rcases h1.2 with ⟨h, _⟩ | ⟨g1, _, c1, e, _, hh1, _⟩
  · rw [h] at e1; cases e1
  rcases h2.2 with ⟨h, _⟩ | ⟨g2, _, c2, e', _, hh2, _⟩
  · rw [h] at e2; cases e2
  rw [e] at e1
  rw [e'] at e2
  simp [Value.ownBlock] at e1 e2
  subst e1 e2
  rw [hh1] at hh2
  simp at hh2
  exact hn hh2.2
end Go.Proofs.Ytnecjkdlmecgdaa

/- The document's basis, no Go in sight: bit by bit; it is the list of reduced rows that falls. -/
namespace Go.Proofs.Ytnecjkdlmecgdaa
namespace Sq
open Cb
open Rg

theorem el_lt {l : List (Nat × Nat)} {i : Nat} (h : i < l.length) : el l i ∈ l := by
  have : el l i = l[i] := by simp [el, List.getD, h]
  rw [this]; exact List.getElem_mem h
theorem el_ge {l : List (Nat × Nat)} {i : Nat} (h : l.length ≤ i) : el l i = (0, 0) := by
  simp [el, List.getD, h]
theorem mem_el {l : List (Nat × Nat)} {a : Nat × Nat} (h : a ∈ l) : ∃ i, i < l.length ∧ el l i = a := by
  obtain ⟨i, hi, e⟩ := List.getElem_of_mem h
  exact ⟨i, hi, by rw [← e]; simp [el, List.getD, hi]⟩
/-- The first row that has the bit and is not taken. -/
def fat (rows : List (Nat × Nat)) (tk : List Nat) (bit : Nat) : Nat → Option Nat
  | 0 => none
  | i + 1 => match fat rows tk bit i with
    | some a => some a
    | none => if (hs (el rows i) bit && !tk.contains i) = true then some i else none
theorem fat_some {rows : List (Nat × Nat)} {tk : List Nat} {bit : Nat} : ∀ {n a}, fat rows tk bit n = some a → a < n ∧ hs (el rows a) bit = true ∧ a ∉ tk
  | 0, a, h => by cases h
  | n + 1, a, h => by
    unfold fat at h
    cases e : fat rows tk bit n with
    | some b =>
      rw [e] at h
      simp only [Option.some.injEq] at h
      subst h
      have := fat_some e
      exact ⟨by omega, this.2⟩
    | none =>
      rw [e] at h
      simp only at h
      by_cases c : (hs (el rows n) bit && !tk.contains n) = true
      · rw [if_pos c, Option.some.injEq] at h
        subst h
        simp at c
        exact ⟨by omega, c.1, c.2⟩
      · rw [if_neg c] at h; cases h
theorem fat_none {rows : List (Nat × Nat)} {tk : List Nat} {bit : Nat} : ∀ {n}, fat rows tk bit n = none → ∀ i, i < n → i ∉ tk → hs (el rows i) bit = false
  | 0, _, i, hi, _ => by omega
  | n + 1, h, i, hi, ht => by
    unfold fat at h
    cases e : fat rows tk bit n with
    | some b => rw [e] at h; cases h
    | none =>
      rw [e] at h
      simp only at h
      by_cases c : (hs (el rows n) bit && !tk.contains n) = true
      · rw [if_pos c] at h; cases h
      · by_cases hin : i = n
        · subst hin
          simp at c
          cases hb : hs (el rows i) bit
          · rfl
          · exact absurd (c hb) ht
        · exact fat_none e i (by omega) ht
/-- A row with another one cleared from it. -/
def clr1 (rows : List (Nat × Nat)) (at' bit i : Nat) : Nat × Nat := if i ≠ at' ∧ hs (el rows i) bit = true then xa (el rows i) (el rows at') else el rows i
def clr (rows : List (Nat × Nat)) (at' bit : Nat) : List (Nat × Nat) := (List.range rows.length).map (clr1 rows at' bit)
theorem clr_len (rows : List (Nat × Nat)) (a bit : Nat) : (clr rows a bit).length = rows.length := by simp [clr]
theorem clr_at (rows : List (Nat × Nat)) (a bit i : Nat) : el (clr rows a bit) i = clr1 rows a bit i := by
  by_cases h : i < rows.length
  · simp [el, clr, List.getD, h]
  · rw [el_ge (by rw [clr_len]; omega)]
    unfold clr1
    rw [el_ge (show rows.length ≤ i by omega), if_neg (by rw [hs_zero]; simp)]
def rst1 (bit : Nat) (s : List (Nat × Nat) × List Nat) : List (Nat × Nat) × List Nat := match fat s.1 s.2 bit s.1.length with
  | some a => (clr s.1 a bit, s.2 ++ [a])
  | none => s
/-- The k least bits, one by one. -/
def rbw (s : List (Nat × Nat) × List Nat) (k : Nat) : List (Nat × Nat) × List Nat := if k = 0 then s else rbw (rst1 (k - 1) s) (k - 1)
  termination_by k
  decreasing_by omega
theorem rbw_zero (s : List (Nat × Nat) × List Nat) : rbw s 0 = s := by rw [rbw, if_pos rfl]
theorem rbw_succ (s : List (Nat × Nat) × List Nat) (k : Nat) : rbw s (k + 1) = rbw (rst1 k s) k := by
  rw [rbw, if_neg (by omega), Nat.add_sub_cancel]
def rb (l : List (Nat × Nat)) : List (Nat × Nat) := (rbw (l, []) 128).2.map (el (rbw (l, []) 128).1)
structure J (l : List (Nat × Nat)) (b : Nat) (s : List (Nat × Nat) × List Nat) : Prop where
  len : s.1.length = l.length
  lt : ltE s.1
  eqs : Eqs s.1 l
  tk : ∀ t ∈ s.2, t < l.length
  piv : ∀ t ∈ s.2, el s.1 t ≠ (0, 0) ∧ b ≤ ld (el s.1 t) ∧ ∀ i, i ≠ t → hs (el s.1 i) (ld (el s.1 t)) = false
  low : ∀ i, i ∉ s.2 → ∀ c, b ≤ c → hs (el s.1 i) c = false
  fall : s.2.Pairwise fun t u => ld (el s.1 u) < ld (el s.1 t)
theorem J.step {l : List (Nat × Nat)} {c : Nat} {s : List (Nat × Nat) × List Nat} (h : J l (c + 1) s) : J l c (rst1 c s) := by
  unfold rst1
  cases e : fat s.1 s.2 c s.1.length with
  | none =>
    simp only
    refine ⟨h.len, h.lt, h.eqs, h.tk, fun t ht => ⟨(h.piv t ht).1, Nat.le_of_succ_le (h.piv t ht).2.1, (h.piv t ht).2.2⟩, fun i hi d hd => ?_, h.fall⟩
    rcases Nat.lt_or_ge c d with k | k
    · exact h.low i hi d k
    · obtain rfl : d = c := by omega
      by_cases hin : i < s.1.length
      · exact fat_none e i hin hi
      · rw [el_ge (by omega)]; exact hs_zero _
  | some a =>
    simp only
    obtain ⟨ha, hb, hn⟩ := fat_some e
    have la : lt2 (el s.1 a) := ltE_el h.lt a
    have a0 : el s.1 a ≠ (0, 0) := hs_ne hb
    have ea : ld (el s.1 a) = c := ld_of la hb fun d hd => h.low a hn d hd
    have ec : ∀ i, el (clr s.1 a c) i = if i = a then el s.1 a else st (el s.1 i) (el s.1 a) := fun i => by
      rw [clr_at]
      unfold clr1 st
      rw [ea]
      by_cases hi : i = a
      · subst hi; rw [if_pos rfl, if_neg (by simp)]
      · rw [if_neg hi]; simp [hi]
    have pt : ∀ t ∈ s.2, t ≠ a := fun t ht e => hn (e ▸ ht)
    have es : ∀ t ∈ s.2, el (clr s.1 a c) t ≠ (0, 0) ∧ ld (el (clr s.1 a c) t) = ld (el s.1 t) := fun t ht => by
      rw [ec, if_neg (pt t ht)]
      exact ld_st (ltE_el h.lt t) la (h.piv t ht).1 a0 ((h.piv t ht).2.2 a fun e => pt t ht e.symm)
    refine ⟨by rw [clr_len]; exact h.len, ltE_of fun i _ => ?_, Eqs.trans (eqs_of (fun x hx => ?_) fun x hx => ?_) h.eqs, fun t ht => ?_, fun t ht => ?_, fun i hi d hd => ?_, ?_⟩
    · rw [ec]; split
      · exact la
      · exact lt_st (ltE_el h.lt i) la
    · obtain ⟨i, hi, rfl⟩ := mem_el hx
      rw [clr_len] at hi
      rw [ec]; split
      · exact sp_mem (el_lt ha)
      · exact st_sp (sp_mem (el_lt hi)) (sp_mem (el_lt ha))
    · obtain ⟨i, hi, rfl⟩ := mem_el hx
      have m : ∀ j, j < s.1.length → Sp (clr s.1 a c) (el (clr s.1 a c) j) := fun j hj => sp_mem (el_lt (by rw [clr_len]; exact hj))
      have k1 := m i hi
      have k2 := m a ha
      rw [ec, if_pos rfl] at k2
      rw [ec] at k1
      by_cases hia : i = a
      · rw [if_pos hia] at k1; rw [hia]; exact k1
      · rw [if_neg hia] at k1; exact st_st k1 k2
    · rcases List.mem_append.1 ht with k | k
      · exact h.tk t k
      · simp at k; subst k; rw [← h.len]; exact ha
    · rcases List.mem_append.1 ht with k | k
      · refine ⟨(es t k).1, ?_, fun i hi => ?_⟩
        · rw [(es t k).2]; have := (h.piv t k).2.1; omega
        · rw [(es t k).2, ec]
          split
          · exact (h.piv t k).2.2 a fun e => pt t k e.symm
          · rw [st_bit ((h.piv t k).2.2 a fun e => pt t k e.symm)]
            exact (h.piv t k).2.2 i hi
      · simp at k; subst k
        have e1 : el (clr s.1 t c) t = el s.1 t := by rw [ec, if_pos rfl]
        rw [e1, ea]
        refine ⟨a0, Nat.le_refl _, fun i hi => ?_⟩
        rw [ec, if_neg hi]
        have := st_lead (x := el s.1 i) la a0
        rwa [ea] at this
    · simp at hi
      rw [ec, if_neg hi.2]
      rcases Nat.lt_or_ge c d with k | k
      · rw [st_bit (h.low a hn d k)]; exact h.low i hi.1 d k
      · obtain rfl : d = c := by omega
        have := st_lead (x := el s.1 i) la a0
        rwa [ea] at this
    · refine List.pairwise_append.2 ⟨?_, List.pairwise_singleton _ _, fun t ht u hu => ?_⟩
      · refine h.fall.imp_of_mem fun {t u} ht hu k => ?_
        rw [(es t ht).2, (es u hu).2]; exact k
      · simp at hu; subst hu
        rw [(es t ht).2, ec, if_pos rfl, ea]
        have := (h.piv t ht).2.1; omega
theorem J.start {l : List (Nat × Nat)} (hl : ltE l) : J l 128 (l, []) := ⟨rfl, hl, fun _ => Iff.rfl, fun _ h => by simp at h, fun _ h => by simp at h, fun i _ c hc => by
      have hx : lt2 (el l i) := ltE_el hl i
      by_cases h0 : el l i = (0, 0)
      · show hs (el l i) c = false
        rw [h0]; exact hs_zero c
      · exact hs_above hx (Nat.lt_of_lt_of_le (ld_lt hx h0) hc), by simp⟩
theorem J.all {l : List (Nat × Nat)} : ∀ {k s}, J l k s → J l 0 (rbw s k)
  | 0, s, h => by rw [rbw_zero]; exact h
  | k + 1, s, h => by rw [rbw_succ]; exact J.all h.step
theorem pw_map {α β : Type} {R : β → β → Prop} {f : α → β} {l : List α} (h : l.Pairwise fun a b => R (f a) (f b)) : (l.map f).Pairwise R := by
  rw [List.pairwise_map]; exact h
theorem J.done {l : List (Nat × Nat)} {s : List (Nat × Nat) × List Nat} (h : J l 0 s) : RR (s.2.map (el s.1)) ∧ Fall (s.2.map (el s.1)) ∧ Eqs (s.2.map (el s.1)) l := by
  refine ⟨⟨fun a ha => ?_, fun a ha => ?_, ?_⟩, pw_map h.fall, Eqs.trans (eqs_of (fun a ha => ?_) fun a ha => ?_) h.eqs⟩
  · obtain ⟨t, _, rfl⟩ := List.mem_map.1 ha
    exact ltE_el h.lt t
  · obtain ⟨t, ht, rfl⟩ := List.mem_map.1 ha
    exact (h.piv t ht).1
  · refine pw_map (h.fall.imp_of_mem fun {t u} ht hu k => ?_)
    have n : t ≠ u := fun e => Nat.lt_irrefl _ (e ▸ k : ld (el s.1 u) < ld (el s.1 u))
    exact ⟨(h.piv u hu).2.2 t n, (h.piv t ht).2.2 u fun e => n e.symm⟩
  · obtain ⟨t, ht, rfl⟩ := List.mem_map.1 ha
    exact sp_mem (el_lt (by rw [h.len]; exact h.tk t ht))
  · obtain ⟨i, hi, rfl⟩ := mem_el ha
    by_cases k : i ∈ s.2
    · exact sp_mem (List.mem_map.2 ⟨i, k, rfl⟩)
    · have e0 : el s.1 i = (0, 0) := hs_none (ltE_el h.lt i) fun b _ => h.low i k b (Nat.zero_le b)
      rw [e0]
      exact sp_zero _
theorem rb_rr {l : List (Nat × Nat)} (hl : ltE l) : RR (rb l) ∧ Fall (rb l) ∧ Eqs (rb l) l := (J.start hl).all.done
/-- In the span just if one more makes no more rows. -/
theorem rb_in {l : List (Nat × Nat)} (hl : ltE l) {x : Nat × Nat} (hx : lt2 x) : Sp l x ↔ (rb (l ++ [x])).length = (rb l).length := by
  have h1 := rb_rr hl
  have hl2 : ltE (l ++ [x]) := fun e he => by
    simp only [List.mem_append, List.mem_singleton] at he
    rcases he with he | rfl
    · exact hl e he
    · exact hx
  have h2 := rb_rr hl2
  have q1 := h1.2.2
  have q2 := h2.2.2
  generalize rb l = a at *
  generalize rb (l ++ [x]) = b at *
  have hsub : ∀ y, Sp a y → Sp b y := fun y hy => (q2 y).2 (sp_app ((q1 y).1 hy))
  constructor
  · intro h
    rw [rr_one h2.1 h1.1 h2.2.1 h1.2.1 ((q2.trans (sp_in h)).trans q1.symm)]
  · intro h
    have e := rr_same h1.1 h2.1 h1.2.1 h2.2.1 hsub (by omega)
    exact (q1 x).1 ((e x).2 ((q2 x).2 (sp_app' (sp_mem (by simp)))))
theorem rb_one {l ss : List (Nat × Nat)} (hl : ltE l) (h : RR ss) (f : Fall ss) (e : Eqs ss l) : ss = rb l := rr_one h (rb_rr hl).1 f (rb_rr hl).2.1 (e.trans (rb_rr hl).2.2.symm)
theorem rr_perm {a b : List (Nat × Nat)} (h : RR a) (p : a.Perm b) : RR b := ⟨fun x hx => h.lt x (p.mem_iff.2 hx), fun x hx => h.ne x (p.mem_iff.2 hx), (p.pairwise_iff (fun k => ⟨k.2, k.1⟩)).1 h.apt⟩
theorem rr_fall {a : List (Nat × Nat)} (h : RR a) (p : a.Pairwise fun x y => lngE y ≤ lngE x) : Fall a := by
  refine (h.apt.and p).imp_of_mem fun {x y} hx hy k => ?_
  have n := apt_ne (h.lt x hx) (h.ne x hx) k.1
  have e1 := lng_ld (h.lt x hx) (h.ne x hx)
  have e2 := lng_ld (h.lt y hy) (h.ne y hy)
  have := k.2
  omega
theorem eqs_perm {a b : List (Nat × Nat)} (p : a.Perm b) : Eqs a b := eqs_of (fun _ hx => sp_mem (p.mem_iff.1 hx)) fun _ hx => sp_mem (p.mem_iff.2 hx)
/-- The rows of a list, sorted: the document's basis. -/
theorem elm_rb {l ss : List (Nat × Nat)} (hl : ltE l) (p : ss.Perm (sms (elm l l.length).1)) (f : ss.Pairwise fun x y => lngE y ≤ lngE x) : ss = rb l := by
  have h := elm_ei hl l.length (Nat.le_refl _)
  have hr := rr_perm h.rr p.symm
  refine rb_one hl hr (rr_fall hr f) ((eqs_perm p).trans ?_)
  have := h.eqs
  rwa [List.take_length] at this
theorem elm_len {l : List (Nat × Nat)} (hl : ltE l) : (elm l l.length).1.length = (rb l).length := by
  have h := elm_ei hl l.length (Nat.le_refl _)
  have e := h.eqs
  rw [List.take_length] at e
  obtain ⟨ss, hp, hf⟩ : ∃ ss : List (Nat × Nat), ss.Perm (sms (elm l l.length).1) ∧ ss.Pairwise fun x y => lngE y ≤ lngE x := ⟨(sms (elm l l.length).1).mergeSort fun x y => decide (lngE y ≤ lngE x), List.mergeSort_perm _ _, (List.pairwise_mergeSort (by simp; omega) (by simp; omega) _).imp fun k => by simpa using k⟩
  rw [← elm_rb hl hp hf, hp.length_eq, sms_len]
theorem elm_in {l : List (Nat × Nat)} (hl : ltE l) (x : Nat × Nat) : Sp l x ↔ red (sms (elm l l.length).1) x = (0, 0) := by
  have h := elm_ei hl l.length (Nat.le_refl _)
  have e := h.eqs
  rw [List.take_length] at e
  rw [← e x, red_iff h.rr]
end Sq
end Go.Proofs.Ytnecjkdlmecgdaa
