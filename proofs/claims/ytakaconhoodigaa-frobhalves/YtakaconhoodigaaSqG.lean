/- The document's basis, no Go in sight: bit by bit; it is the list of reduced rows that falls. -/
import Derived.Test.YtakaconhoodigaaSqB
namespace Go.Proofs.Ytakaconhoodigaa
namespace Sq
open Cb
open Rg

theorem el_lt {l : List (Nat × Nat)} {i : Nat} (h : i < l.length) : el l i ∈ l := by
  have : el l i = l[i] := by simp [el, List.getD, h]
  rw [this]; exact List.getElem_mem h
theorem el_ge {l : List (Nat × Nat)} {i : Nat} (h : l.length ≤ i) : el l i = (0, 0) := by
  simp [el, List.getD, h]
theorem mem_el {l : List (Nat × Nat)} {a : Nat × Nat} (h : a ∈ l) : ∃ i, i < l.length ∧ el l i = a := by
  obtain ⟨i, hi, e⟩ := List.getElem_of_mem h
  exact ⟨i, hi, by rw [← e]; simp [el, List.getD, hi]⟩
/-- The first row that has the bit and is not taken. -/
def fat (rows : List (Nat × Nat)) (tk : List Nat) (bit : Nat) : Nat → Option Nat
  | 0 => none
  | i + 1 => match fat rows tk bit i with
    | some a => some a
    | none => if (hs (el rows i) bit && !tk.contains i) = true then some i else none
theorem fat_some {rows : List (Nat × Nat)} {tk : List Nat} {bit : Nat} : ∀ {n a}, fat rows tk bit n = some a → a < n ∧ hs (el rows a) bit = true ∧ a ∉ tk
  | 0, a, h => by cases h
  | n + 1, a, h => by
    unfold fat at h
    cases e : fat rows tk bit n with
    | some b =>
      rw [e] at h
      simp only [Option.some.injEq] at h
      subst h
      have := fat_some e
      exact ⟨by omega, this.2⟩
    | none =>
      rw [e] at h
      simp only at h
      by_cases c : (hs (el rows n) bit && !tk.contains n) = true
      · rw [if_pos c, Option.some.injEq] at h
        subst h
        simp at c
        exact ⟨by omega, c.1, c.2⟩
      · rw [if_neg c] at h; cases h
theorem fat_none {rows : List (Nat × Nat)} {tk : List Nat} {bit : Nat} : ∀ {n}, fat rows tk bit n = none → ∀ i, i < n → i ∉ tk → hs (el rows i) bit = false
  | 0, _, i, hi, _ => by omega
  | n + 1, h, i, hi, ht => by
    unfold fat at h
    cases e : fat rows tk bit n with
    | some b => rw [e] at h; cases h
    | none =>
      rw [e] at h
      simp only at h
      by_cases c : (hs (el rows n) bit && !tk.contains n) = true
      · rw [if_pos c] at h; cases h
      · by_cases hin : i = n
        · subst hin
          simp at c
          cases hb : hs (el rows i) bit
          · rfl
          · exact absurd (c hb) ht
        · exact fat_none e i (by omega) ht
/-- A row with another one cleared from it. -/
def clr1 (rows : List (Nat × Nat)) (at' bit i : Nat) : Nat × Nat := if i ≠ at' ∧ hs (el rows i) bit = true then xa (el rows i) (el rows at') else el rows i
def clr (rows : List (Nat × Nat)) (at' bit : Nat) : List (Nat × Nat) := (List.range rows.length).map (clr1 rows at' bit)
theorem clr_len (rows : List (Nat × Nat)) (a bit : Nat) : (clr rows a bit).length = rows.length := by simp [clr]
theorem clr_at (rows : List (Nat × Nat)) (a bit i : Nat) : el (clr rows a bit) i = clr1 rows a bit i := by
  by_cases h : i < rows.length
  · simp [el, clr, List.getD, h]
  · rw [el_ge (by rw [clr_len]; omega)]
    unfold clr1
    rw [el_ge (show rows.length ≤ i by omega), if_neg (by rw [hs_zero]; simp)]
def rst1 (bit : Nat) (s : List (Nat × Nat) × List Nat) : List (Nat × Nat) × List Nat := match fat s.1 s.2 bit s.1.length with
  | some a => (clr s.1 a bit, s.2 ++ [a])
  | none => s
/-- The k least bits, one by one. -/
def rbw (s : List (Nat × Nat) × List Nat) (k : Nat) : List (Nat × Nat) × List Nat := if k = 0 then s else rbw (rst1 (k - 1) s) (k - 1)
  termination_by k
  decreasing_by omega
theorem rbw_zero (s : List (Nat × Nat) × List Nat) : rbw s 0 = s := by rw [rbw, if_pos rfl]
theorem rbw_succ (s : List (Nat × Nat) × List Nat) (k : Nat) : rbw s (k + 1) = rbw (rst1 k s) k := by
  rw [rbw, if_neg (by omega), Nat.add_sub_cancel]
def rb (l : List (Nat × Nat)) : List (Nat × Nat) := (rbw (l, []) 128).2.map (el (rbw (l, []) 128).1)
structure J (l : List (Nat × Nat)) (b : Nat) (s : List (Nat × Nat) × List Nat) : Prop where
  len : s.1.length = l.length
  lt : ltE s.1
  eqs : Eqs s.1 l
  tk : ∀ t ∈ s.2, t < l.length
  piv : ∀ t ∈ s.2, el s.1 t ≠ (0, 0) ∧ b ≤ ld (el s.1 t) ∧ ∀ i, i ≠ t → hs (el s.1 i) (ld (el s.1 t)) = false
  low : ∀ i, i ∉ s.2 → ∀ c, b ≤ c → hs (el s.1 i) c = false
  fall : s.2.Pairwise fun t u => ld (el s.1 u) < ld (el s.1 t)
theorem J.step {l : List (Nat × Nat)} {c : Nat} {s : List (Nat × Nat) × List Nat} (h : J l (c + 1) s) : J l c (rst1 c s) := by
  unfold rst1
  cases e : fat s.1 s.2 c s.1.length with
  | none =>
    simp only
    refine ⟨h.len, h.lt, h.eqs, h.tk, fun t ht => ⟨(h.piv t ht).1, Nat.le_of_succ_le (h.piv t ht).2.1, (h.piv t ht).2.2⟩, fun i hi d hd => ?_, h.fall⟩
    rcases Nat.lt_or_ge c d with k | k
    · exact h.low i hi d k
    · obtain rfl : d = c := by omega
      by_cases hin : i < s.1.length
      · exact fat_none e i hin hi
      · rw [el_ge (by omega)]; exact hs_zero _
  | some a =>
    simp only
    obtain ⟨ha, hb, hn⟩ := fat_some e
    have la : lt2 (el s.1 a) := ltE_el h.lt a
    have a0 : el s.1 a ≠ (0, 0) := hs_ne hb
    have ea : ld (el s.1 a) = c := ld_of la hb fun d hd => h.low a hn d hd
    have ec : ∀ i, el (clr s.1 a c) i = if i = a then el s.1 a else st (el s.1 i) (el s.1 a) := fun i => by
      rw [clr_at]
      unfold clr1 st
      rw [ea]
      by_cases hi : i = a
      · subst hi; rw [if_pos rfl, if_neg (by simp)]
      · rw [if_neg hi]; simp [hi]
    have pt : ∀ t ∈ s.2, t ≠ a := fun t ht e => hn (e ▸ ht)
    have es : ∀ t ∈ s.2, el (clr s.1 a c) t ≠ (0, 0) ∧ ld (el (clr s.1 a c) t) = ld (el s.1 t) := fun t ht => by
      rw [ec, if_neg (pt t ht)]
      exact ld_st (ltE_el h.lt t) la (h.piv t ht).1 a0 ((h.piv t ht).2.2 a fun e => pt t ht e.symm)
    refine ⟨by rw [clr_len]; exact h.len, ltE_of fun i _ => ?_, Eqs.trans (eqs_of (fun x hx => ?_) fun x hx => ?_) h.eqs, fun t ht => ?_, fun t ht => ?_, fun i hi d hd => ?_, ?_⟩
    · rw [ec]; split
      · exact la
      · exact lt_st (ltE_el h.lt i) la
    · obtain ⟨i, hi, rfl⟩ := mem_el hx
      rw [clr_len] at hi
      rw [ec]; split
      · exact sp_mem (el_lt ha)
      · exact st_sp (sp_mem (el_lt hi)) (sp_mem (el_lt ha))
    · obtain ⟨i, hi, rfl⟩ := mem_el hx
      have m : ∀ j, j < s.1.length → Sp (clr s.1 a c) (el (clr s.1 a c) j) := fun j hj => sp_mem (el_lt (by rw [clr_len]; exact hj))
      have k1 := m i hi
      have k2 := m a ha
      rw [ec, if_pos rfl] at k2
      rw [ec] at k1
      by_cases hia : i = a
      · rw [if_pos hia] at k1; rw [hia]; exact k1
      · rw [if_neg hia] at k1; exact st_st k1 k2
    · rcases List.mem_append.1 ht with k | k
      · exact h.tk t k
      · simp at k; subst k; rw [← h.len]; exact ha
    · rcases List.mem_append.1 ht with k | k
      · refine ⟨(es t k).1, ?_, fun i hi => ?_⟩
        · rw [(es t k).2]; have := (h.piv t k).2.1; omega
        · rw [(es t k).2, ec]
          split
          · exact (h.piv t k).2.2 a fun e => pt t k e.symm
          · rw [st_bit ((h.piv t k).2.2 a fun e => pt t k e.symm)]
            exact (h.piv t k).2.2 i hi
      · simp at k; subst k
        have e1 : el (clr s.1 t c) t = el s.1 t := by rw [ec, if_pos rfl]
        rw [e1, ea]
        refine ⟨a0, Nat.le_refl _, fun i hi => ?_⟩
        rw [ec, if_neg hi]
        have := st_lead (x := el s.1 i) la a0
        rwa [ea] at this
    · simp at hi
      rw [ec, if_neg hi.2]
      rcases Nat.lt_or_ge c d with k | k
      · rw [st_bit (h.low a hn d k)]; exact h.low i hi.1 d k
      · obtain rfl : d = c := by omega
        have := st_lead (x := el s.1 i) la a0
        rwa [ea] at this
    · refine List.pairwise_append.2 ⟨?_, List.pairwise_singleton _ _, fun t ht u hu => ?_⟩
      · refine h.fall.imp_of_mem fun {t u} ht hu k => ?_
        rw [(es t ht).2, (es u hu).2]; exact k
      · simp at hu; subst hu
        rw [(es t ht).2, ec, if_pos rfl, ea]
        have := (h.piv t ht).2.1; omega
theorem J.start {l : List (Nat × Nat)} (hl : ltE l) : J l 128 (l, []) := ⟨rfl, hl, fun _ => Iff.rfl, fun _ h => by simp at h, fun _ h => by simp at h, fun i _ c hc => by
      have hx : lt2 (el l i) := ltE_el hl i
      by_cases h0 : el l i = (0, 0)
      · show hs (el l i) c = false
        rw [h0]; exact hs_zero c
      · exact hs_above hx (Nat.lt_of_lt_of_le (ld_lt hx h0) hc), by simp⟩
theorem J.all {l : List (Nat × Nat)} : ∀ {k s}, J l k s → J l 0 (rbw s k)
  | 0, s, h => by rw [rbw_zero]; exact h
  | k + 1, s, h => by rw [rbw_succ]; exact J.all h.step
theorem pw_map {α β : Type} {R : β → β → Prop} {f : α → β} {l : List α} (h : l.Pairwise fun a b => R (f a) (f b)) : (l.map f).Pairwise R := by
  rw [List.pairwise_map]; exact h
theorem J.done {l : List (Nat × Nat)} {s : List (Nat × Nat) × List Nat} (h : J l 0 s) : RR (s.2.map (el s.1)) ∧ Fall (s.2.map (el s.1)) ∧ Eqs (s.2.map (el s.1)) l := by
  refine ⟨⟨fun a ha => ?_, fun a ha => ?_, ?_⟩, pw_map h.fall, Eqs.trans (eqs_of (fun a ha => ?_) fun a ha => ?_) h.eqs⟩
  · obtain ⟨t, _, rfl⟩ := List.mem_map.1 ha
    exact ltE_el h.lt t
  · obtain ⟨t, ht, rfl⟩ := List.mem_map.1 ha
    exact (h.piv t ht).1
  · refine pw_map (h.fall.imp_of_mem fun {t u} ht hu k => ?_)
    have n : t ≠ u := fun e => Nat.lt_irrefl _ (e ▸ k : ld (el s.1 u) < ld (el s.1 u))
    exact ⟨(h.piv u hu).2.2 t n, (h.piv t ht).2.2 u fun e => n e.symm⟩
  · obtain ⟨t, ht, rfl⟩ := List.mem_map.1 ha
    exact sp_mem (el_lt (by rw [h.len]; exact h.tk t ht))
  · obtain ⟨i, hi, rfl⟩ := mem_el ha
    by_cases k : i ∈ s.2
    · exact sp_mem (List.mem_map.2 ⟨i, k, rfl⟩)
    · have e0 : el s.1 i = (0, 0) := hs_none (ltE_el h.lt i) fun b _ => h.low i k b (Nat.zero_le b)
      rw [e0]
      exact sp_zero _
theorem rb_rr {l : List (Nat × Nat)} (hl : ltE l) : RR (rb l) ∧ Fall (rb l) ∧ Eqs (rb l) l := (J.start hl).all.done
/-- In the span just if one more makes no more rows. -/
theorem rb_in {l : List (Nat × Nat)} (hl : ltE l) {x : Nat × Nat} (hx : lt2 x) : Sp l x ↔ (rb (l ++ [x])).length = (rb l).length := by
  have h1 := rb_rr hl
  have hl2 : ltE (l ++ [x]) := fun e he => by
    simp only [List.mem_append, List.mem_singleton] at he
    rcases he with he | rfl
    · exact hl e he
    · exact hx
  have h2 := rb_rr hl2
  have q1 := h1.2.2
  have q2 := h2.2.2
  generalize rb l = a at *
  generalize rb (l ++ [x]) = b at *
  have hsub : ∀ y, Sp a y → Sp b y := fun y hy => (q2 y).2 (sp_app ((q1 y).1 hy))
  constructor
  · intro h
    rw [rr_one h2.1 h1.1 h2.2.1 h1.2.1 ((q2.trans (sp_in h)).trans q1.symm)]
  · intro h
    have e := rr_same h1.1 h2.1 h1.2.1 h2.2.1 hsub (by omega)
    exact (q1 x).1 ((e x).2 ((q2 x).2 (sp_app' (sp_mem (by simp)))))
theorem rb_one {l ss : List (Nat × Nat)} (hl : ltE l) (h : RR ss) (f : Fall ss) (e : Eqs ss l) : ss = rb l := rr_one h (rb_rr hl).1 f (rb_rr hl).2.1 (e.trans (rb_rr hl).2.2.symm)
theorem rr_perm {a b : List (Nat × Nat)} (h : RR a) (p : a.Perm b) : RR b := ⟨fun x hx => h.lt x (p.mem_iff.2 hx), fun x hx => h.ne x (p.mem_iff.2 hx), (p.pairwise_iff (fun k => ⟨k.2, k.1⟩)).1 h.apt⟩
theorem rr_fall {a : List (Nat × Nat)} (h : RR a) (p : a.Pairwise fun x y => lngE y ≤ lngE x) : Fall a := by
  refine (h.apt.and p).imp_of_mem fun {x y} hx hy k => ?_
  have n := apt_ne (h.lt x hx) (h.ne x hx) k.1
  have e1 := lng_ld (h.lt x hx) (h.ne x hx)
  have e2 := lng_ld (h.lt y hy) (h.ne y hy)
  have := k.2
  omega
theorem eqs_perm {a b : List (Nat × Nat)} (p : a.Perm b) : Eqs a b := eqs_of (fun _ hx => sp_mem (p.mem_iff.1 hx)) fun _ hx => sp_mem (p.mem_iff.2 hx)
/-- The rows of a list, sorted: the document's basis. -/
theorem elm_rb {l ss : List (Nat × Nat)} (hl : ltE l) (p : ss.Perm (sms (elm l l.length).1)) (f : ss.Pairwise fun x y => lngE y ≤ lngE x) : ss = rb l := by
  have h := elm_ei hl l.length (Nat.le_refl _)
  have hr := rr_perm h.rr p.symm
  refine rb_one hl hr (rr_fall hr f) ((eqs_perm p).trans ?_)
  have := h.eqs
  rwa [List.take_length] at this
theorem elm_len {l : List (Nat × Nat)} (hl : ltE l) : (elm l l.length).1.length = (rb l).length := by
  have h := elm_ei hl l.length (Nat.le_refl _)
  have e := h.eqs
  rw [List.take_length] at e
  obtain ⟨ss, hp, hf⟩ : ∃ ss : List (Nat × Nat), ss.Perm (sms (elm l l.length).1) ∧ ss.Pairwise fun x y => lngE y ≤ lngE x := ⟨(sms (elm l l.length).1).mergeSort fun x y => decide (lngE y ≤ lngE x), List.mergeSort_perm _ _, (List.pairwise_mergeSort (by simp; omega) (by simp; omega) _).imp fun k => by simpa using k⟩
  rw [← elm_rb hl hp hf, hp.length_eq, sms_len]
theorem elm_in {l : List (Nat × Nat)} (hl : ltE l) (x : Nat × Nat) : Sp l x ↔ red (sms (elm l l.length).1) x = (0, 0) := by
  have h := elm_ei hl l.length (Nat.le_refl _)
  have e := h.eqs
  rw [List.take_length] at e
  rw [← e x, red_iff h.rr]
end Sq
end Go.Proofs.Ytakaconhoodigaa
