/- The document's basis, no Go in sight: bit by bit; it is the list of reduced rows that falls. -/
import Derived.Test.YtjdfbjdbfncofaaPSqC
import Derived.Test.YtjdfbjdbfncofaaPRgA
import Derived.Test.YtjdfbjdbfncofaaPCbF
import Derived.Test.YtjdfbjdbfncofaaPLpE
import Derived.Deep.OwnRows
import Derived.Maps.AppendAt
namespace Go.Proofs.Ytjdfbjdbfncofaa
namespace Sq
open Cb
open Rg

theorem el_lt {l : List (Nat × Nat)} {i : Nat} (h : i < l.length) : el l i ∈ l := by
  have : el l i = l[i] := by simp [el, List.getD, h]
  rw [this]; exact List.getElem_mem h
theorem el_ge {l : List (Nat × Nat)} {i : Nat} (h : l.length ≤ i) : el l i = (0, 0) := by
  simp [el, List.getD, h]
theorem mem_el {l : List (Nat × Nat)} {a : Nat × Nat} (h : a ∈ l) : ∃ i, i < l.length ∧ el l i = a := by
  obtain ⟨i, hi, e⟩ := List.getElem_of_mem h
  exact ⟨i, hi, by rw [← e]; simp [el, List.getD, hi]⟩
/-- The first row that has the bit and is not taken. -/
def fat (rows : List (Nat × Nat)) (tk : List Nat) (bit : Nat) : Nat → Option Nat
  | 0 => none
  | i + 1 => match fat rows tk bit i with
    | some a => some a
    | none => if (hs (el rows i) bit && !tk.contains i) = true then some i else none
theorem fat_some {rows : List (Nat × Nat)} {tk : List Nat} {bit : Nat} : ∀ {n a}, fat rows tk bit n = some a → a < n ∧ hs (el rows a) bit = true ∧ a ∉ tk
  | 0, a, h => by cases h
  | n + 1, a, h => by
    unfold fat at h
    cases e : fat rows tk bit n with
    | some b =>
      rw [e] at h
      simp only [Option.some.injEq] at h
      subst h
      have := fat_some e
      exact ⟨by omega, this.2⟩
    | none =>
      rw [e] at h
      simp only at h
      by_cases c : (hs (el rows n) bit && !tk.contains n) = true
      · rw [if_pos c, Option.some.injEq] at h
        subst h
        simp at c
        exact ⟨by omega, c.1, c.2⟩
      · rw [if_neg c] at h; cases h
theorem fat_none {rows : List (Nat × Nat)} {tk : List Nat} {bit : Nat} : ∀ {n}, fat rows tk bit n = none → ∀ i, i < n → i ∉ tk → hs (el rows i) bit = false
  | 0, _, i, hi, _ => by omega
  | n + 1, h, i, hi, ht => by
    unfold fat at h
    cases e : fat rows tk bit n with
    | some b => rw [e] at h; cases h
    | none =>
      rw [e] at h
      simp only at h
      by_cases c : (hs (el rows n) bit && !tk.contains n) = true
      · rw [if_pos c] at h; cases h
      · by_cases hin : i = n
        · subst hin
          simp at c
          cases hb : hs (el rows i) bit
          · rfl
          · exact absurd (c hb) ht
        · exact fat_none e i (by omega) ht
/-- A row with another one cleared from it. -/
def clr1 (rows : List (Nat × Nat)) (at' bit i : Nat) : Nat × Nat := if i ≠ at' ∧ hs (el rows i) bit = true then xa (el rows i) (el rows at') else el rows i
def clr (rows : List (Nat × Nat)) (at' bit : Nat) : List (Nat × Nat) := (List.range rows.length).map (clr1 rows at' bit)
theorem clr_len (rows : List (Nat × Nat)) (a bit : Nat) : (clr rows a bit).length = rows.length := by simp [clr]
theorem clr_at (rows : List (Nat × Nat)) (a bit i : Nat) : el (clr rows a bit) i = clr1 rows a bit i := by
  by_cases h : i < rows.length
  · simp [el, clr, List.getD, h]
  · rw [el_ge (by rw [clr_len]; omega)]
    unfold clr1
    rw [el_ge (show rows.length ≤ i by omega), if_neg (by rw [hs_zero]; simp)]
def rst1 (bit : Nat) (s : List (Nat × Nat) × List Nat) : List (Nat × Nat) × List Nat := match fat s.1 s.2 bit s.1.length with
  | some a => (clr s.1 a bit, s.2 ++ [a])
  | none => s
/-- The k least bits, one by one. -/
def rbw (s : List (Nat × Nat) × List Nat) (k : Nat) : List (Nat × Nat) × List Nat := if k = 0 then s else rbw (rst1 (k - 1) s) (k - 1)
  termination_by k
  decreasing_by omega
theorem rbw_zero (s : List (Nat × Nat) × List Nat) : rbw s 0 = s := by rw [rbw, if_pos rfl]
theorem rbw_succ (s : List (Nat × Nat) × List Nat) (k : Nat) : rbw s (k + 1) = rbw (rst1 k s) k := by
  rw [rbw, if_neg (by omega), Nat.add_sub_cancel]
def rb (l : List (Nat × Nat)) : List (Nat × Nat) := (rbw (l, []) 128).2.map (el (rbw (l, []) 128).1)
structure J (l : List (Nat × Nat)) (b : Nat) (s : List (Nat × Nat) × List Nat) : Prop where
  len : s.1.length = l.length
  lt : ltE s.1
  eqs : Eqs s.1 l
  tk : ∀ t ∈ s.2, t < l.length
  piv : ∀ t ∈ s.2, el s.1 t ≠ (0, 0) ∧ b ≤ ld (el s.1 t) ∧ ∀ i, i ≠ t → hs (el s.1 i) (ld (el s.1 t)) = false
  low : ∀ i, i ∉ s.2 → ∀ c, b ≤ c → hs (el s.1 i) c = false
  fall : s.2.Pairwise fun t u => ld (el s.1 u) < ld (el s.1 t)
theorem J.step {l : List (Nat × Nat)} {c : Nat} {s : List (Nat × Nat) × List Nat} (h : J l (c + 1) s) : J l c (rst1 c s) := by
  unfold rst1
  cases e : fat s.1 s.2 c s.1.length with
  | none =>
    simp only
    refine ⟨h.len, h.lt, h.eqs, h.tk, fun t ht => ⟨(h.piv t ht).1, Nat.le_of_succ_le (h.piv t ht).2.1, (h.piv t ht).2.2⟩, fun i hi d hd => ?_, h.fall⟩
    rcases Nat.lt_or_ge c d with k | k
    · exact h.low i hi d k
    · obtain rfl : d = c := by omega
      by_cases hin : i < s.1.length
      · exact fat_none e i hin hi
      · rw [el_ge (by omega)]; exact hs_zero _
  | some a =>
    simp only
    obtain ⟨ha, hb, hn⟩ := fat_some e
    have la : lt2 (el s.1 a) := ltE_el h.lt a
    have a0 : el s.1 a ≠ (0, 0) := hs_ne hb
    have ea : ld (el s.1 a) = c := ld_of la hb fun d hd => h.low a hn d hd
    have ec : ∀ i, el (clr s.1 a c) i = if i = a then el s.1 a else st (el s.1 i) (el s.1 a) := fun i => by
      rw [clr_at]
      unfold clr1 st
      rw [ea]
      by_cases hi : i = a
      · subst hi; rw [if_pos rfl, if_neg (by simp)]
      · rw [if_neg hi]; simp [hi]
    have pt : ∀ t ∈ s.2, t ≠ a := fun t ht e => hn (e ▸ ht)
    have es : ∀ t ∈ s.2, el (clr s.1 a c) t ≠ (0, 0) ∧ ld (el (clr s.1 a c) t) = ld (el s.1 t) := fun t ht => by
      rw [ec, if_neg (pt t ht)]
      exact ld_st (ltE_el h.lt t) la (h.piv t ht).1 a0 ((h.piv t ht).2.2 a fun e => pt t ht e.symm)
    refine ⟨by rw [clr_len]; exact h.len, ltE_of fun i _ => ?_, Eqs.trans (eqs_of (fun x hx => ?_) fun x hx => ?_) h.eqs, fun t ht => ?_, fun t ht => ?_, fun i hi d hd => ?_, ?_⟩
    · rw [ec]; split
      · exact la
      · exact lt_st (ltE_el h.lt i) la
    · obtain ⟨i, hi, rfl⟩ := mem_el hx
      rw [clr_len] at hi
      rw [ec]; split
      · exact sp_mem (el_lt ha)
      · exact st_sp (sp_mem (el_lt hi)) (sp_mem (el_lt ha))
    · obtain ⟨i, hi, rfl⟩ := mem_el hx
      have m : ∀ j, j < s.1.length → Sp (clr s.1 a c) (el (clr s.1 a c) j) := fun j hj => sp_mem (el_lt (by rw [clr_len]; exact hj))
      have k1 := m i hi
      have k2 := m a ha
      rw [ec, if_pos rfl] at k2
      rw [ec] at k1
      by_cases hia : i = a
      · rw [if_pos hia] at k1; rw [hia]; exact k1
      · rw [if_neg hia] at k1; exact st_st k1 k2
    · rcases List.mem_append.1 ht with k | k
      · exact h.tk t k
      · simp at k; subst k; rw [← h.len]; exact ha
    · rcases List.mem_append.1 ht with k | k
      · refine ⟨(es t k).1, ?_, fun i hi => ?_⟩
        · rw [(es t k).2]; have := (h.piv t k).2.1; omega
        · rw [(es t k).2, ec]
          split
          · exact (h.piv t k).2.2 a fun e => pt t k e.symm
          · rw [st_bit ((h.piv t k).2.2 a fun e => pt t k e.symm)]
            exact (h.piv t k).2.2 i hi
      · simp at k; subst k
        have e1 : el (clr s.1 t c) t = el s.1 t := by rw [ec, if_pos rfl]
        rw [e1, ea]
        refine ⟨a0, Nat.le_refl _, fun i hi => ?_⟩
        rw [ec, if_neg hi]
        have := st_lead (x := el s.1 i) la a0
        rwa [ea] at this
    · simp at hi
      rw [ec, if_neg hi.2]
      rcases Nat.lt_or_ge c d with k | k
      · rw [st_bit (h.low a hn d k)]; exact h.low i hi.1 d k
      · obtain rfl : d = c := by omega
        have := st_lead (x := el s.1 i) la a0
        rwa [ea] at this
    · refine List.pairwise_append.2 ⟨?_, List.pairwise_singleton _ _, fun t ht u hu => ?_⟩
      · refine h.fall.imp_of_mem fun {t u} ht hu k => ?_
        rw [(es t ht).2, (es u hu).2]; exact k
      · simp at hu; subst hu
        rw [(es t ht).2, ec, if_pos rfl, ea]
        have := (h.piv t ht).2.1; omega
theorem J.start {l : List (Nat × Nat)} (hl : ltE l) : J l 128 (l, []) := ⟨rfl, hl, fun _ => Iff.rfl, fun _ h => by simp at h, fun _ h => by simp at h, fun i _ c hc => by
      have hx : lt2 (el l i) := ltE_el hl i
      by_cases h0 : el l i = (0, 0)
      · show hs (el l i) c = false
        rw [h0]; exact hs_zero c
      · exact hs_above hx (Nat.lt_of_lt_of_le (ld_lt hx h0) hc), by simp⟩
theorem J.all {l : List (Nat × Nat)} : ∀ {k s}, J l k s → J l 0 (rbw s k)
  | 0, s, h => by rw [rbw_zero]; exact h
  | k + 1, s, h => by rw [rbw_succ]; exact J.all h.step
theorem pw_map {α β : Type} {R : β → β → Prop} {f : α → β} {l : List α} (h : l.Pairwise fun a b => R (f a) (f b)) : (l.map f).Pairwise R := by
  rw [List.pairwise_map]; exact h
theorem J.done {l : List (Nat × Nat)} {s : List (Nat × Nat) × List Nat} (h : J l 0 s) : RR (s.2.map (el s.1)) ∧ Fall (s.2.map (el s.1)) ∧ Eqs (s.2.map (el s.1)) l := by
  refine ⟨⟨fun a ha => ?_, fun a ha => ?_, ?_⟩, pw_map h.fall, Eqs.trans (eqs_of (fun a ha => ?_) fun a ha => ?_) h.eqs⟩
  · obtain ⟨t, _, rfl⟩ := List.mem_map.1 ha
    exact ltE_el h.lt t
  · obtain ⟨t, ht, rfl⟩ := List.mem_map.1 ha
    exact (h.piv t ht).1
  · refine pw_map (h.fall.imp_of_mem fun {t u} ht hu k => ?_)
    have n : t ≠ u := fun e => Nat.lt_irrefl _ (e ▸ k : ld (el s.1 u) < ld (el s.1 u))
    exact ⟨(h.piv u hu).2.2 t n, (h.piv t ht).2.2 u fun e => n e.symm⟩
  · obtain ⟨t, ht, rfl⟩ := List.mem_map.1 ha
    exact sp_mem (el_lt (by rw [h.len]; exact h.tk t ht))
  · obtain ⟨i, hi, rfl⟩ := mem_el ha
    by_cases k : i ∈ s.2
    · exact sp_mem (List.mem_map.2 ⟨i, k, rfl⟩)
    · have e0 : el s.1 i = (0, 0) := hs_none (ltE_el h.lt i) fun b _ => h.low i k b (Nat.zero_le b)
      rw [e0]
      exact sp_zero _
theorem rb_rr {l : List (Nat × Nat)} (hl : ltE l) : RR (rb l) ∧ Fall (rb l) ∧ Eqs (rb l) l := (J.start hl).all.done
/-- In the span just if one more makes no more rows. -/
theorem rb_in {l : List (Nat × Nat)} (hl : ltE l) {x : Nat × Nat} (hx : lt2 x) : Sp l x ↔ (rb (l ++ [x])).length = (rb l).length := by
  have h1 := rb_rr hl
  have hl2 : ltE (l ++ [x]) := fun e he => by
    simp only [List.mem_append, List.mem_singleton] at he
    rcases he with he | rfl
    · exact hl e he
    · exact hx
  have h2 := rb_rr hl2
  have q1 := h1.2.2
  have q2 := h2.2.2
  generalize rb l = a at *
  generalize rb (l ++ [x]) = b at *
  have hsub : ∀ y, Sp a y → Sp b y := fun y hy => (q2 y).2 (sp_app ((q1 y).1 hy))
  constructor
  · intro h
    rw [rr_one h2.1 h1.1 h2.2.1 h1.2.1 ((q2.trans (sp_in h)).trans q1.symm)]
  · intro h
    have e := rr_same h1.1 h2.1 h1.2.1 h2.2.1 hsub (by omega)
    exact (q1 x).1 ((e x).2 ((q2 x).2 (sp_app' (sp_mem (by simp)))))
theorem rb_one {l ss : List (Nat × Nat)} (hl : ltE l) (h : RR ss) (f : Fall ss) (e : Eqs ss l) : ss = rb l := rr_one h (rb_rr hl).1 f (rb_rr hl).2.1 (e.trans (rb_rr hl).2.2.symm)
theorem rr_perm {a b : List (Nat × Nat)} (h : RR a) (p : a.Perm b) : RR b := ⟨fun x hx => h.lt x (p.mem_iff.2 hx), fun x hx => h.ne x (p.mem_iff.2 hx), (p.pairwise_iff (fun k => ⟨k.2, k.1⟩)).1 h.apt⟩
theorem rr_fall {a : List (Nat × Nat)} (h : RR a) (p : a.Pairwise fun x y => lngE y ≤ lngE x) : Fall a := by
  refine (h.apt.and p).imp_of_mem fun {x y} hx hy k => ?_
  have n := apt_ne (h.lt x hx) (h.ne x hx) k.1
  have e1 := lng_ld (h.lt x hx) (h.ne x hx)
  have e2 := lng_ld (h.lt y hy) (h.ne y hy)
  have := k.2
  omega
theorem eqs_perm {a b : List (Nat × Nat)} (p : a.Perm b) : Eqs a b := eqs_of (fun _ hx => sp_mem (p.mem_iff.1 hx)) fun _ hx => sp_mem (p.mem_iff.2 hx)
/-- The rows of a list, sorted: the document's basis. -/
theorem elm_rb {l ss : List (Nat × Nat)} (hl : ltE l) (p : ss.Perm (sms (elm l l.length).1)) (f : ss.Pairwise fun x y => lngE y ≤ lngE x) : ss = rb l := by
  have h := elm_ei hl l.length (Nat.le_refl _)
  have hr := rr_perm h.rr p.symm
  refine rb_one hl hr (rr_fall hr f) ((eqs_perm p).trans ?_)
  have := h.eqs
  rwa [List.take_length] at this
theorem elm_len {l : List (Nat × Nat)} (hl : ltE l) : (elm l l.length).1.length = (rb l).length := by
  have h := elm_ei hl l.length (Nat.le_refl _)
  have e := h.eqs
  rw [List.take_length] at e
  obtain ⟨ss, hp, hf⟩ : ∃ ss : List (Nat × Nat), ss.Perm (sms (elm l l.length).1) ∧ ss.Pairwise fun x y => lngE y ≤ lngE x := ⟨(sms (elm l l.length).1).mergeSort fun x y => decide (lngE y ≤ lngE x), List.mergeSort_perm _ _, (List.pairwise_mergeSort (by simp; omega) (by simp; omega) _).imp fun k => by simpa using k⟩
  rw [← elm_rb hl hp hf, hp.length_eq, sms_len]
theorem elm_in {l : List (Nat × Nat)} (hl : ltE l) (x : Nat × Nat) : Sp l x ↔ red (sms (elm l l.length).1) x = (0, 0) := by
  have h := elm_ei hl l.length (Nat.le_refl _)
  have e := h.eqs
  rw [List.take_length] at e
  rw [← e x, red_iff h.rr]
end Sq
end Go.Proofs.Ytjdfbjdbfncofaa

/- The contract of cube.Weights over the seat's translation. -/
namespace Go.Proofs.Ytjdfbjdbfncofaa
open Go.RowKit
open Cb
open Rg
open Tw (pm)

/-- A store into a row of one's own. -/
theorem own_setR {w : World} {base size g n cap : Nat} {T : TypeId} {xs : List Value} (h : w.ownsRow base T size (.slice (some ⟨g, 0, none⟩) n cap) n xs) (i : Nat) (u : Value) :
    (w.setCell ⟨g, i, none⟩ u).ownsRow base T size (.slice (some ⟨g, 0, none⟩) n cap) n (xs.set i u) := by
  obtain ⟨h1, h2⟩ := h
  refine ⟨by rw [List.length_set]; exact h1, ?_⟩
  rcases h2 with ⟨h3, _⟩ | ⟨g', cap', cur, e, hb, hg, hn, hm, hs, ht⟩
  · injection h3 with h4; cases h4
  · injection e with e1 e2 e3
    obtain rfl : g = g' := by injection e1 with e4; injection e4
    subst e3
    refine .inr ⟨g, cap, cur.setIfInBounds i u, rfl, hb, ?_, hn, hm, by simpa using hs, ?_⟩
    · simp [World.setCell, Array.getElem?_modify, hg]
    · rw [Array.toList_setIfInBounds, List.take_set, ht]
theorem own_cellR {w : World} {base size g n cap : Nat} {T : TypeId} {xs : List Value} (h : w.ownsRow base T size (.slice (some ⟨g, 0, none⟩) n cap) n xs) (i : Nat) (hi : i < n * size) :
    w.cell? ⟨g, i, none⟩ = xs[i]? ∧ w.frozen? ⟨g, i, none⟩ = false := by
  obtain ⟨h1, h2⟩ := h
  rcases h2 with ⟨h3, _⟩ | ⟨g', cap', cur, e, hb, hg, hn, hm, hs, ht⟩
  · injection h3 with h4; cases h4
  · injection e with e1 e2 e3
    obtain rfl : g = g' := by injection e1 with e4; injection e4
    subst ht
    have hlt : i < cur.size := by
      rw [hs]
      exact Nat.lt_of_lt_of_le hi (Nat.mul_le_mul_right _ hn)
    refine ⟨?_, by simp [World.frozen?, hg]⟩
    rw [List.getElem?_take_of_lt hi]
    simp [World.cell?, hg, hlt]
theorem flat_put (es : List (Nat × Nat)) (r : Nat × Nat) : ∀ m, m < es.length → ((flat es).set (m * 2) (.int .u64 (r.1 : Nat))).set (m * 2 + 1) (.int .u64 (r.2 : Nat)) = flat (es.set m r) := by
  induction es with
  | nil => intro m hm; simp at hm
  | cons x es ih =>
    intro m hm
    have ef : ∀ (e : Nat × Nat) l, flat (e :: l) = .int .u64 (e.1 : Int) :: .int .u64 (e.2 : Int) :: flat l := fun e l => by simp [flat]
    cases m with
    | zero => simp [ef]
    | succ m =>
      have := ih m (by simpa using hm)
      rw [List.set_cons_succ, ef, ef, ← this, show (m + 1) * 2 = m * 2 + 1 + 1 by omega, show m * 2 + 1 + 1 + 1 = (m * 2 + 1) + 1 + 1 by omega]
      simp
theorem flat_end (es : List (Nat × Nat)) (r : Nat × Nat) : flat (es ++ [r]) = flat es ++ [.int .u64 (r.1 : Nat), .int .u64 (r.2 : Nat)] := by simp [flat]
/-- make([]T, 1, n). -/
theorem wpList_make_first {P : Program} (w : World) {ops : Array Oper} {rest : List Oper} {o : Oper} {a : Act} {Q : Exit → Act → World → Prop}
    (hg : o.guard = none) (l c : Operand) (t : TypeId) (hop : o.op = Op.makeSlice t l c)
    (base : Nat) (e : TypeId) (i : TypeInfo) (z : Value) (size : Nat) (h1 : P.underlying t = some (.slice e)) (h2 : P.info? e = some i) (h3 : i.zero = some z) (h4 : i.size = size)
    (kl kc : IntKind) (C : Int) (n : Nat) (hl : a.eval l = .int kl 1) (hc : a.eval c = .int kc C) (hC : C = (n : Int)) (h0 : 1 ≤ n) (b2 : i.bytes * n ≤ 281474976710656) (b3 : n ≤ maxLen) (b4 : base ≤ w.heap.size)
    (hK : ∀ w' xs, w'.ownsRow base e size (.slice (some ⟨w.heap.size, 0, none⟩) 1 n) 1 xs → w.grownBy w' none → wpList P ops Q rest (a.put o.dst (.slice (some ⟨w.heap.size, 0, none⟩) 1 n)) w') :
    wpList P ops Q (o :: rest) a w := by
  refine wpList_plain hg fun K hK' => ?_
  subst hC h4
  have h63' : (n : Int) ≤ 9223372036854775807 := by
    have h := b3
    simp [maxLen] at h
    omega
  have hb' : (i.bytes : Int) * (n : Int) ≤ 281474976710656 := by
    have h : ((i.bytes * n : Nat) : Int) ≤ 281474976710656 := by omega
    rwa [Int.natCast_mul] at h
  have hr := run_make (P := P) w t e i z h1 h2 h3 kl kc 1 n (by decide) (by omega) hb' h63'
  simp only [Int.toNat_natCast] at hr
  have hr2 : (Instr.makeSlice t (.int kl 1) (.int kc (n : Int))).run P w = .ok (.slice (some ⟨w.heap.size, 0, none⟩) 1 n) (w.alloc (.cells (madeCells z.cells (n * i.size)) e)) := hr
  unfold Oper.wp
  simp [execOp, hop, hl, hc, hr2, Result.andThen]
  refine hK' _ _ (hK _ ((madeCells z.cells (n * i.size)).toList.take (1 * i.size)) ⟨?_, .inr ⟨w.heap.size, n, madeCells z.cells (n * i.size), rfl, b4, heap_alloc_new w _, h0, b3, size_madeCells _ _, rfl⟩⟩ (World.grownBy_alloc w _ none))
  rw [List.length_take, Array.length_toList, size_madeCells]
  have : i.size ≤ n * i.size := Nat.le_mul_of_pos_left _ h0
  omega
theorem two_vals {xs : List Value} (h : xs.length = 1 * 2) : ∃ a b, xs = [a, b] := by
  match xs, h with
  | [a, b], _ => exact ⟨a, b, rfl⟩
theorem El.keepR {w : World} {b c h l : Nat} (e : El w c h l) (hn : b ≠ c) (o o' : Nat) (u v : Value) : El ((w.setCell ⟨b, o, none⟩ u).setCell ⟨b, o', none⟩ v) c h l := by
  obtain ⟨h1, h2⟩ := e
  have hn' : c ≠ b := fun h => hn h.symm
  exact ⟨by simp [go_sem, *], by simp [go_sem, *]⟩
theorem El.growR {w w' : World} {q h l : Nat} {ob : Option Nat} (hg : w.grownBy w' ob) (e : El w q h l) (hne : ob ≠ some q) : El w' q h l := by
  have hb := hg.block q e.lt (fun h => hne h.symm)
  exact ⟨by rw [← e.hi]; simp [World.cell?, hb], by rw [← e.lo]; simp [World.cell?, hb]⟩
theorem Ew.roomR (w : World) (T : TypeId) : Ew (w.alloc (Obj.cells #[.int .u64 0, .int .u64 0] T)) w.heap.size 0 0 := ⟨⟨by simp [go_sem], by simp [go_sem]⟩, by simp [go_sem], by simp [go_sem]⟩
theorem El.newR (w : World) (v : Nat × Nat) (T : TypeId) : El (w.alloc (Obj.cells #[.int .u64 (v.1 : Int), .int .u64 (v.2 : Int)] T)) w.heap.size v.1 v.2 := ⟨by simp [go_sem], by simp [go_sem]⟩
/-- The row that grows, and the element of the point. -/
structure Wo (W w : World) (s : Value) (N : Nat) (L : List (Nat × Nat)) (qx : Nat) (x : Nat × Nat) : Prop where
  own : w.ownsRow W.heap.size 24 2 s N (flat L)
  x : El w qx x.1 x.2
  n : s.ownBlock ≠ some qx
  d : Below W.heap.size W w
theorem Wo.below {W w w' : World} {s : Value} {N : Nat} {L : List (Nat × Nat)} {qx : Nat} {x : Nat × Nat} (h : Wo W w s N L qx x) (hb : Below w.heap.size w w') : Wo W w' s N L qx x := ⟨own_below h.own hb, h.x.below hb, h.n, h.d.trans (hb.mono h.d.size)⟩
theorem Wo.drew {W w : World} {s : Value} {N : Nat} {L : List (Nat × Nat)} {qx : Nat} {x : Nat × Nat} (h : Wo W w s N L qx x) : Wo W w.drew s N L qx x := h.below (Below.refl _ _).drew
theorem Wo.alloc {W w : World} {s : Value} {N : Nat} {L : List (Nat × Nat)} {qx : Nat} {x : Nat × Nat} (h : Wo W w s N L qx x) (o : Obj) : Wo W (w.alloc o) s N L qx x := h.below ((Below.refl _ _).alloc (Nat.le_refl _) o)
/-- The row, the element of the point, and the product. -/
structure Wp (W w : World) (g cp N : Nat) (L : List (Nat × Nat)) (qx qz : Nat) (x z : Nat × Nat) : Prop where
  o : Wo W w (.slice (some ⟨g, 0, none⟩) N cp) N L qx x
  z : El w qz z.1 z.2
  n : g ≠ qz
theorem Wp.below {W w w' : World} {g cp N : Nat} {L : List (Nat × Nat)} {qx qz : Nat} {x z : Nat × Nat} (h : Wp W w g cp N L qx qz x z) (hb : Below w.heap.size w w') : Wp W w' g cp N L qx qz x z := ⟨h.o.below hb, h.z.below hb, h.n⟩
theorem Wp.drew {W w : World} {g cp N : Nat} {L : List (Nat × Nat)} {qx qz : Nat} {x z : Nat × Nat} (h : Wp W w g cp N L qx qz x z) : Wp W w.drew g cp N L qx qz x z := h.below (Below.refl _ _).drew
theorem Wp.lt {W w : World} {g cp N : Nat} {L : List (Nat × Nat)} {qx qz : Nat} {x z : Nat × Nat} (h : Wp W w g cp N L qx qz x z) : W.heap.size ≤ g := (h.o.own.lt g rfl).1
theorem Wp.put {W w : World} {g cp N : Nat} {L : List (Nat × Nat)} {qx qz : Nat} {x z : Nat × Nat} (h : Wp W w g cp N L qx qz x z) (i : Nat) (hi : i < L.length) (r : Nat × Nat) :
    Wp W ((w.setCell ⟨g, i * 2, none⟩ (.int .u64 (r.1 : Int))).setCell ⟨g, i * 2 + 1, none⟩ (.int .u64 (r.2 : Int))) g cp N (L.set i r) qx qz x z := by
  have hx : g ≠ qx := fun e => h.o.n (by rw [e]; rfl)
  refine ⟨⟨?_, h.o.x.keepR hx _ _ _ _, h.o.n, (h.o.d.setCell h.lt _).setCell h.lt _⟩, h.z.keepR h.n _ _ _ _, h.n⟩
  have := own_setR (own_setR h.o.own (i * 2) (.int .u64 (r.1 : Nat))) (i * 2 + 1) (.int .u64 (r.2 : Nat))
  rw [flat_put L r i hi] at this
  exact this
/-- The cells of the element i. -/
theorem Wp.facts {W w : World} {g cp N : Nat} {L : List (Nat × Nat)} {qx qz : Nat} {x z : Nat × Nat} (h : Wp W w g cp N L qx qz x z) (i : Nat) (hi : i < N) (hl : L.length = N) :
    w.cell? ⟨g, i * 2, none⟩ = some (.int .u64 ((el L i).1 : Int)) ∧ w.cell? ⟨g, i * 2 + 1, none⟩ = some (.int .u64 ((el L i).2 : Int)) ∧ w.cell? ⟨qz, 0, none⟩ = some (.int .u64 (z.1 : Int)) ∧ w.cell? ⟨qz, 1, none⟩ = some (.int .u64 (z.2 : Int)) := by
  have h1 := (own_cellR h.o.own (i * 2) (by omega)).1
  have h0 := (own_cellR h.o.own (i * 2 + 1) (by omega)).1
  rw [(flat_at L i (by omega)).1] at h1
  rw [(flat_at L i (by omega)).2] at h0
  exact ⟨h1, h0, h.z.hi, h.z.lo⟩
/-- The entries of the row, i of the round j done. -/
def Wji (p : List (Nat × Nat)) (N j i x : Nat) : Nat × Nat := if x < i then wt (p.take (j + 1)) x else if x < N then wt (p.take j) x else wt (p.take (j + 1)) x
theorem el_set {M : List (Nat × Nat)} {i x : Nat} (hi : i < M.length) (r : Nat × Nat) : el (M.set i r) x = if x = i then r else el M x := by
  unfold el
  by_cases h : x = i
  · subst h
    simp [List.getD, hi]
  · rw [if_neg h]
    simp [List.getD, Ne.symm h]
theorem el_end {M : List (Nat × Nat)} {x n : Nat} (hn : M.length = n) (r : Nat × Nat) : el (M ++ [r]) x = if x = n then r else el M x := by
  unfold el
  subst hn
  by_cases h : x = M.length
  · subst h
    simp [List.getD]
  · rw [if_neg h]
    by_cases h2 : x < M.length
    · simp [List.getD, List.getElem?_append_left h2]
    · have h3 : (M ++ [r]).length ≤ x := by simp; omega
      have h4 : M.length ≤ x := by omega
      simp only [List.getD, List.getElem?_eq_none h3, List.getElem?_eq_none h4]
end Go.Proofs.Ytjdfbjdbfncofaa

/- The contract of span.Turn over the seat's translation. -/
namespace Go.Proofs.Ytjdfbjdbfncofaa
open Go.RowKit
open Cb
open Rg
open Tw (pm)

/-- A row of elements that is filled, in the first block behind a world. -/
structure Tn (W w : World) (N : Nat) (h : Nat → Nat × Nat) : Prop where
  row : w.rowIs W.heap.size 24 (N * 2) (tcell h)
  d : Below W.heap.size W w
theorem Tn.below {W w w' : World} {N : Nat} {h : Nat → Nat × Nat} (k : Tn W w N h) (hb : Below w.heap.size w w') : Tn W w' N h := ⟨k.row.of_block (hb.block _ k.row.lt), k.d.trans (hb.mono k.d.size)⟩
theorem Tn.drew {W w : World} {N : Nat} {h : Nat → Nat × Nat} (k : Tn W w N h) : Tn W w.drew N h := k.below (Below.refl _ _).drew
theorem Tn.like {W w : World} {N : Nat} {h h' : Nat → Nat × Nat} (k : Tn W w N h) (e : ∀ c, c < N → h c = h' c) : Tn W w N h' := by
  obtain ⟨⟨cs, h1, h2, h3⟩, d⟩ := k
  refine ⟨⟨cs, h1, h2, fun i hi => ?_⟩, d⟩
  rw [h3 i hi]
  unfold tcell
  rw [e (i / 2) (by omega)]
theorem Tn.put {W w : World} {N : Nat} {h : Nat → Nat × Nat} (k : Tn W w N h) (j : Nat) (r : Nat × Nat) (h' : Nat → Nat × Nat) (e : ∀ c, c < N → h' c = if c = j then r else h c) :
    Tn W ((w.setCell ⟨W.heap.size, j * 2, none⟩ (.int .u64 (r.1 : Int))).setCell ⟨W.heap.size, j * 2 + 1, none⟩ (.int .u64 (r.2 : Int))) N h' := by
  refine ⟨?_, (k.d.setCell (Nat.le_refl _) _).setCell (Nat.le_refl _) _⟩
  obtain ⟨cs, h1, h2, h3⟩ := (k.row.set (j * 2) (.int .u64 (r.1 : Int))).set (j * 2 + 1) (.int .u64 (r.2 : Int))
  refine ⟨cs, h1, h2, fun i hi => ?_⟩
  rw [h3 i hi]
  unfold tcell
  rw [e (i / 2) (by omega)]
  dsimp only
  by_cases c1 : i = j * 2 + 1
  · rw [if_pos c1, if_neg (show ¬ i % 2 = 0 by omega), if_pos (show i / 2 = j by omega)]
  · rw [if_neg c1]
    by_cases c2 : i = j * 2
    · rw [if_pos c2, if_pos (show i % 2 = 0 by omega), if_pos (show i / 2 = j by omega)]
    · rw [if_neg c2, if_neg (show ¬ i / 2 = j by omega)]
theorem Tn.facts {W w : World} {N : Nat} {h : Nat → Nat × Nat} (k : Tn W w N h) (j : Nat) (hj : j < N) :
    w.cell? ⟨W.heap.size, j * 2, none⟩ = some (.int .u64 ((h j).1 : Int)) ∧ w.cell? ⟨W.heap.size, j * 2 + 1, none⟩ = some (.int .u64 ((h j).2 : Int)) ∧ w.frozen? ⟨W.heap.size, j * 2, none⟩ = false ∧ w.frozen? ⟨W.heap.size, j * 2 + 1, none⟩ = false := by
  have c1 := k.row.cell (i := j * 2) (by omega)
  have c0 := k.row.cell (i := j * 2 + 1) (by omega)
  unfold tcell at c1 c0
  rw [if_pos (by omega), show j * 2 / 2 = j by omega] at c1
  rw [if_neg (by omega), show (j * 2 + 1) / 2 = j by omega] at c0
  exact ⟨c1, c0, k.row.frozen _, k.row.frozen _⟩
theorem Tn.start {W w : World} {base N : Nat} (h : w.ownsRow base 24 2 (.slice (some ⟨W.heap.size, 0, none⟩) N N) N (madeCells (Value.agg #[.int .u64 0, .int .u64 0]).cells (N * 2)).toList) (hg : W.grownBy w none) (F : Nat → Nat × Nat) (hF : ∀ c, c < N → F c = (0, 0)) : Tn W w N F := by
  obtain ⟨f, ⟨cs, h1, h2, h3⟩, hz⟩ := own_zero h
  refine ⟨⟨cs, h1, h2, fun i hi => ?_⟩, (Below.refl _ _).grown hg (Nat.le_refl _) (fun k hk => by cases hk)⟩
  rw [h3 i hi, hz i hi]
  unfold tcell
  rw [hF (i / 2) (by omega)]
  split <;> rfl
theorem Tn.erow {W w : World} {N : Nat} {h : Nat → Nat × Nat} (k : Tn W w N h) {es : List (Nat × Nat)} (hl : es.length = N) (e : ∀ c, c < N → el es c = h c) : ERow w (some ⟨W.heap.size, 0, none⟩) es := row_tab hl k.row fun p hp => by
  unfold tcell
  rw [e (p / 2) (by omega)]
/-- The row that is turned, i elements done. -/
def tr (ps : List (Nat × Nat)) (i c : Nat) : Nat × Nat := xs i fun v => sl (hs (el ps v) c) (bv (v : Int))
theorem lt_tr (ps : List (Nat × Nat)) (i c : Nat) : lt2 (tr ps i c) := lt_xs (fun _ => lt_sl (bv_lt2 _)) _
def trj (ps : List (Nat × Nat)) (i j c : Nat) : Nat × Nat := if c < j then tr ps (i + 1) c else tr ps i c
end Go.Proofs.Ytjdfbjdbfncofaa

/- A region that draws its order, walked by what holds between its operations, whichever of them have come up: no order is laid out. -/
namespace Go
section
variable {P : Program} {md : Region.Mode} {Q : Exit → Act → World → Prop} {S : World → Prop}

/-- One more has come up. -/
def setL (L : Nat → Bool) (i : Nat) : Nat → Bool := fun j => if j = i then true else L j
theorem setL_same (L : Nat → Bool) (i : Nat) : setL L i i = true := by simp [setL]
theorem setL_other (L : Nat → Bool) {i j : Nat} (h : j ≠ i) : setL L i j = L j := by simp [setL, h]
theorem setL_true {L : Nat → Bool} {i j : Nat} (h : L j = true) : setL L i j = true := by
  unfold setL; split
  · rfl
  · exact h
/-- Each operation of a row, with its number. -/
def EachAt (f : Nat → Oper → Prop) : Nat → List Oper → Prop
  | _, [] => True
  | n, o :: l => f n o ∧ EachAt f (n + 1) l
theorem EachAt.at {f : Nat → Oper → Prop} : ∀ {l : List Oper} {n : Nat}, EachAt f n l → ∀ i o, l[i]? = some o → f (n + i) o
  | [], _, _, i, o, h => by simp at h
  | x :: l, n, ⟨h1, h2⟩, 0, o, h => by simp at h; subst h; exact h1
  | x :: l, n, ⟨h1, h2⟩, i + 1, o, h => by
    have := h2.at i o (by simpa using h)
    rwa [show n + 1 + i = n + (i + 1) by omega] at this
/-- Each waits for such as stand ahead of it. -/
def lowB (md : Region.Mode) : Nat → List Oper → Bool
  | _, [] => true
  | n, o :: l => (o.after.all fun e => !Region.binds md e || decide (e.on < n)) && lowB md (n + 1) l
theorem lowB_at : ∀ {l : List Oper} {n : Nat}, lowB md n l = true → ∀ i o, l[i]? = some o → ∀ e ∈ o.after, Region.binds md e = true → e.on < n + i
  | [], _, _, i, o, h => by simp at h
  | x :: l, n, hb, i, o, h => by
    simp only [lowB, Bool.and_eq_true] at hb
    cases i with
    | zero =>
      simp at h; subst h
      intro e he hbi
      have := (Array.all_eq_true'.1 hb.1) e he
      rw [hbi] at this
      simpa using this
    | succ i =>
      have := lowB_at hb.2 i o (by simpa using h)
      rwa [show n + 1 + i = n + (i + 1) by omega] at this
theorem getD_set_inv (l : Array Bool) (i j : Nat) : (l.setIfInBounds i true).getD j true = setL (fun j => l.getD j true) i j := by
  unfold setL
  by_cases h : j = i
  · subst h
    rw [if_pos rfl]
    simp only [Array.getD_eq_getD_getElem?, Array.getElem?_setIfInBounds]
    by_cases hj : j < l.size
    · simp [hj]
    · simp [hj]
  · rw [if_neg h]
    simp only [Array.getD_eq_getD_getElem?, Array.getElem?_setIfInBounds]
    rw [if_neg (fun e => h e.symm)]
theorem getD_true_false {l : Array Bool} {j : Nat} (h : j < l.size) : l.getD j true = l.getD j false := by
  simp [Array.getD_eq_getD_getElem?, h]
theorem all_listed {ops : Array Oper} {listed : Array Bool} (low : lowB md 0 ops.toList = true) (hz : listed.size = ops.size) (h : Region.ready md ops listed = []) : ∀ n i, i < n → i < ops.size → listed.getD i true = true := by
  intro n
  induction n with
  | zero => intro i hi; omega
  | succ n ih =>
    intro i hi hio
    by_cases hl : listed.getD i true = true
    · exact hl
    · exfalso
      have hm : i ∈ Region.ready md ops listed := by
        refine ready_iff.2 ⟨by simpa using hl, ops[i], by simp [hio], fun e he hb => ?_⟩
        have h1 := lowB_at low i ops[i] (by simp [hio]) e he hb
        have h2 := ih e.on (by omega) (by omega)
        rwa [getD_true_false (by omega)] at h2
      rw [h] at hm
      cases hm
/-- THE RULE: what holds at the start, and is kept by each operation that may come up, holds where all have come up. -/
theorem wpAnyH_inv {ops : Array Oper} (I : (Nat → Bool) → Act → World → Prop) (low : lowB md 0 ops.toList = true) (hIS : ∀ L a w, I L a w → S w)
    (step : ∀ L a w, I L a w → EachAt (fun i o => L i = false → (∀ e ∈ o.after, Region.binds md e = true → L e.on = true) → wpOp P ops Q i (fun a' w' => I (setL L i) a' w') a w) 0 ops.toList)
    (done : ∀ L a w, I L a w → (∀ i, i < ops.size → L i = true) → Q .normal a w) :
    ∀ (fuel : Nat) (listed : Array Bool) (a : Act) (w : World), listed.size = ops.size → listed.toList.count false ≤ fuel → I (fun j => listed.getD j true) a w → wpAnyH P md ops Q S fuel listed a w := by
  intro fuel
  induction fuel with
  | zero =>
    intro listed a w hz hc hI
    have hall : ∀ i, i < ops.size → listed.getD i true = true := fun i hi => by
      have h0 : ¬ false ∈ listed.toList := fun hm => by have := List.count_pos_iff.2 hm; omega
      have : listed[i]'(by omega) = true := by
        cases hb : listed[i]'(by omega) with
        | true => rfl
        | false => exact absurd (by rw [← hb]; exact Array.getElem_mem_toList (by omega)) h0
      simp [Array.getD_eq_getD_getElem?, show i < listed.size by omega, this]
    refine ⟨?_, done _ a w hI hall⟩
    rcases hr : Region.ready md ops listed with _ | ⟨i, rs⟩
    · rfl
    · exfalso
      have hm : i ∈ Region.ready md ops listed := by rw [hr]; exact List.mem_cons_self ..
      obtain ⟨h1, o, ho, _⟩ := ready_iff.1 hm
      have := hall i (Array.getElem?_eq_some_iff.1 ho).1
      rw [this] at h1
      cases h1
  | succ fuel ih =>
    intro listed a w hz hc hI
    refine ⟨fun hr => done _ a w hI fun i hi => all_listed low hz hr (i + 1) i (by omega) hi, fun i hi => ?_⟩
    obtain ⟨h1, o, ho, ha⟩ := ready_iff.1 hi
    have hio : i < ops.size := (Array.getElem?_eq_some_iff.1 ho).1
    have hst := (step _ a w hI).at i o (by rw [Array.getElem?_toList]; exact ho)
    rw [Nat.zero_add] at hst
    refine wpOp_mono (fun a' w' hI' => ?_) (hst h1 fun e he hb => by
      have := ha e he hb
      have hlt := lowB_at low i o (by rw [Array.getElem?_toList]; exact ho) e he hb
      show listed.getD e.on true = true
      rw [getD_true_false (by omega)]; exact this)
    refine ⟨hIS _ _ _ hI', ih _ a' w' (by simp [hz]) ?_ ?_⟩
    · have hlt : i < listed.toList.length := by simp; omega
      have hf : listed.toList[i] = false := by
        have h2 : listed.getD i true = listed[i]'(by omega) := by simp [Array.getD_eq_getD_getElem?, show i < listed.size by omega]
        rw [h2] at h1
        simpa using h1
      rw [Array.toList_setIfInBounds, List.count_set hlt, hf]
      have : 0 < listed.toList.count false := List.count_pos_iff.2 (by rw [← hf]; exact List.getElem_mem hlt)
      rw [if_pos (by rfl), if_neg (by decide)]
      omega
    · rw [show (fun j => (listed.setIfInBounds i true).getD j true) = setL (fun j => listed.getD j true) i from funext fun j => getD_set_inv listed i j]
      exact hI'
/-- What a bound operation waits for. -/
theorem waits {L : Nat → Bool} {es : Array Edge} (h : ∀ e ∈ es, Region.binds md e = true → L e.on = true) : ∀ j, ((es.toList.filter (Region.binds md)).map Edge.on).contains j = true → L j = true := by
  intro j hj
  rw [List.contains_iff_mem] at hj
  obtain ⟨e, he, rfl⟩ := List.mem_map.1 hj
  obtain ⟨h1, h2⟩ := List.mem_filter.1 he
  exact h e (Array.mem_def.2 h1) h2
theorem EachAt.cons {f : Nat → Oper → Prop} {n : Nat} {o : Oper} {l : List Oper} (h1 : f n o) (h2 : EachAt f (n + 1) l) : EachAt f n (o :: l) := ⟨h1, h2⟩
theorem EachAt.nil {f : Nat → Oper → Prop} {n : Nat} : EachAt f n [] := trivial
/-- One step of the rule: the way on is shut. -/
theorem wpOp_shut {ops : Array Oper} {i : Nat} {o : Oper} {K : Act → World → Prop} {a : Act} {w : World} (ho : ops[i]? = some o)
    (h : ∀ K' : Act → World → Prop, Shut (∀ a w, K a w → K' a w) → if Region.wanted o (yielded ops a.tmps) = true then Oper.wp P o a w K' Q else K' (a.put o.dst undef) w) : wpOp P ops Q i K a w :=
  wpOp_step ho (fun K' hK => h K' hK)
end
end Go
