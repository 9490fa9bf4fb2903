/- Spans of elements, no Go in sight: reduced rows, what is left, the rows with one more; reduced rows of one span that fall are one list. -/
import Derived.Test.YtjdfbjdbfncofaaPRgA
namespace Go.Proofs.Ytjdfbjdbfncofaa
namespace Sq
open Cb
open Rg

/-- The leading bit of what is not 0. -/
def ld (x : Nat × Nat) : Nat := lngE x - 1
theorem hs_ld {x : Nat × Nat} (hx : lt2 x) (h0 : x ≠ (0, 0)) : hs x (ld x) = true := (lngE_lead x hx.1 hx.2 h0).2.2
theorem ld_lt {x : Nat × Nat} (hx : lt2 x) (h0 : x ≠ (0, 0)) : ld x < 128 := by
  have := lngE_lead x hx.1 hx.2 h0
  unfold ld; omega
theorem lng_ld {x : Nat × Nat} (hx : lt2 x) (h0 : x ≠ (0, 0)) : lngE x = ld x + 1 := by
  have := lngE_lead x hx.1 hx.2 h0
  unfold ld; omega
theorem le_ld {x : Nat × Nat} (hx : lt2 x) {b : Nat} (h : hs x b = true) : b ≤ ld x := by
  rcases Nat.lt_or_ge b (lngE x) with h1 | h1
  · unfold ld; omega
  · rw [hs_long x hx b h1] at h; cases h
theorem hs_ne {x : Nat × Nat} {b : Nat} (h : hs x b = true) : x ≠ (0, 0) := fun e => by
  rw [e, hs_zero] at h; cases h
theorem ld_of {x : Nat × Nat} (hx : lt2 x) {b : Nat} (h : hs x b = true) (hb : ∀ c, b < c → hs x c = false) : ld x = b := by
  have h1 := le_ld hx h
  rcases Nat.lt_or_ge b (ld x) with h2 | h2
  · have h3 := hs_ld hx (hs_ne h)
    rw [hb _ h2] at h3; cases h3
  · omega
theorem hs_above {x : Nat × Nat} (hx : lt2 x) {c : Nat} (h : ld x < c) : hs x c = false := hs_long x hx c (by unfold ld at h; omega)
/-- No bit: 0. -/
theorem hs_none {x : Nat × Nat} (hx : lt2 x) (h : ∀ b, b < 128 → hs x b = false) : x = (0, 0) := by
  by_cases h0 : x = (0, 0)
  · exact h0
  · have := hs_ld hx h0
    rw [h _ (ld_lt hx h0)] at this; cases this
theorem ld_add {a b : Nat × Nat} (ha : lt2 a) (hb : lt2 b) (b0 : b ≠ (0, 0)) (h : a = (0, 0) ∨ ld a < ld b) : ld (xa a b) = ld b := by
  have h1 : ∀ c, ld b ≤ c → hs a c = false := fun c hc => by
    rcases h with rfl | h
    · exact hs_zero c
    · exact hs_above ha (by omega)
  refine ld_of (lt_xa ha hb) ?_ fun c hc => ?_
  · rw [hs_xa, h1 _ (Nat.le_refl _), hs_ld hb b0]; rfl
  · rw [hs_xa, h1 c (by omega), hs_above hb hc]; rfl

/-- The span of a list. -/
def Sp : List (Nat × Nat) → Nat × Nat → Prop
  | [], x => x = (0, 0)
  | a :: l, x => Sp l x ∨ Sp l (xa x a)
theorem sp_zero : ∀ l, Sp l (0, 0)
  | [] => rfl
  | _ :: l => .inl (sp_zero l)
theorem sp_add : ∀ (l : List (Nat × Nat)) {x y : Nat × Nat}, Sp l x → Sp l y → Sp l (xa x y)
  | [], x, y, hx, hy => by
    have h1 : x = (0, 0) := hx
    have h2 : y = (0, 0) := hy
    subst h1 h2; exact xa_zero _
  | a :: l, x, y, hx, hy => by
    rcases hx with hx | hx <;> rcases hy with hy | hy
    · exact .inl (sp_add l hx hy)
    · refine .inr ?_
      have := sp_add l hx hy
      rwa [← xa_assoc] at this
    · refine .inr ?_
      have := sp_add l hx hy
      rwa [xa_assoc, xa_comm a y, ← xa_assoc] at this
    · refine .inl ?_
      have := sp_add l hx hy
      rwa [xa_assoc, xa_left a y a, xa_self, xa_zero] at this
theorem sp_mem : ∀ {l : List (Nat × Nat)} {a : Nat × Nat}, a ∈ l → Sp l a
  | b :: l, a, h => by
    rcases List.mem_cons.1 h with rfl | h
    · exact .inr (by rw [xa_self]; exact sp_zero l)
    · exact .inl (sp_mem h)
theorem sp_sub : ∀ {l m : List (Nat × Nat)}, (∀ a ∈ l, Sp m a) → ∀ {x}, Sp l x → Sp m x
  | [], m, _, x, hx => by
    have h1 : x = (0, 0) := hx
    subst h1; exact sp_zero m
  | a :: l, m, h, x, hx => by
    have i : ∀ {x}, Sp l x → Sp m x := sp_sub fun b hb => h b (by simp [hb])
    rcases hx with hx | hx
    · exact i hx
    · have := sp_add m (i hx) (h a (by simp))
      rwa [xa_assoc, xa_self, xa_zero] at this
theorem sp_lt : ∀ {l : List (Nat × Nat)}, ltE l → ∀ {x}, Sp l x → lt2 x
  | [], _, x, hx => by
    have h1 : x = (0, 0) := hx
    subst h1; exact lt_zero
  | a :: l, h, x, hx => by
    have h' : ltE l := fun b hb => h b (by simp [hb])
    rcases hx with hx | hx
    · exact sp_lt h' hx
    · have := lt_xa (sp_lt h' hx) (h a (by simp))
      rwa [xa_assoc, xa_self, xa_zero] at this
/-- A bit that none of a list has none of its span has. -/
theorem sp_bit : ∀ {l : List (Nat × Nat)} {b : Nat}, (∀ a ∈ l, hs a b = false) → ∀ {x}, Sp l x → hs x b = false
  | [], b, _, x, hx => by
    have h1 : x = (0, 0) := hx
    subst h1; exact hs_zero b
  | a :: l, b, h, x, hx => by
    rcases hx with hx | hx
    · exact sp_bit (fun c hc => h c (by simp [hc])) hx
    · have := sp_bit (fun c hc => h c (by simp [hc])) hx
      rw [hs_xa, h a (by simp)] at this
      simpa using this
theorem sp_app {l m : List (Nat × Nat)} {x : Nat × Nat} (h : Sp l x) : Sp (l ++ m) x := sp_sub (fun a ha => sp_mem (by simp [ha])) h
theorem sp_app' {l m : List (Nat × Nat)} {x : Nat × Nat} (h : Sp m x) : Sp (l ++ m) x := sp_sub (fun a ha => sp_mem (by simp [ha])) h
theorem sp_snoc {l : List (Nat × Nat)} {a x : Nat × Nat} : Sp (l ++ [a]) x ↔ Sp l x ∨ Sp l (xa x a) := by
  constructor
  · intro h
    have : Sp (a :: l) x := sp_sub (fun b hb => sp_mem (by simp at hb ⊢; exact hb.symm)) h
    exact this
  · intro h
    have : Sp (a :: l) x := h
    exact sp_sub (fun b hb => sp_mem (by simp at hb ⊢; exact hb.symm)) this
/-- Two lists of one span. -/
def Eqs (l m : List (Nat × Nat)) : Prop := ∀ x, Sp l x ↔ Sp m x
theorem eqs_of {l m : List (Nat × Nat)} (h1 : ∀ a ∈ l, Sp m a) (h2 : ∀ a ∈ m, Sp l a) : Eqs l m := fun _ => ⟨sp_sub h1, sp_sub h2⟩

/-- Reduced rows: none is 0, and none has another one's leading bit. -/
def Apt (a b : Nat × Nat) : Prop := hs a (ld b) = false ∧ hs b (ld a) = false
structure RR (rs : List (Nat × Nat)) : Prop where
  lt : ltE rs
  ne : ∀ r ∈ rs, r ≠ (0, 0)
  apt : rs.Pairwise Apt
theorem RR.tail {r : Nat × Nat} {rs : List (Nat × Nat)} (h : RR (r :: rs)) : RR rs := ⟨fun a ha => h.lt a (by simp [ha]), fun a ha => h.ne a (by simp [ha]), (List.pairwise_cons.1 h.apt).2⟩
theorem RR.head {r : Nat × Nat} {rs : List (Nat × Nat)} (h : RR (r :: rs)) : ∀ a ∈ rs, Apt r a := (List.pairwise_cons.1 h.apt).1
theorem RR.nil : RR [] := ⟨fun _ h => by simp at h, fun _ h => by simp at h, List.Pairwise.nil⟩
/-- What is in the span and has no row's leading bit is 0. -/
theorem rr_zero : ∀ {rs : List (Nat × Nat)}, RR rs → ∀ {y}, Sp rs y → (∀ r ∈ rs, hs y (ld r) = false) → y = (0, 0)
  | [], _, y, hy, _ => hy
  | r :: rs, h, y, hy, hp => by
    rcases hy with hy | hy
    · exact rr_zero h.tail hy fun a ha => hp a (by simp [ha])
    · have h1 := sp_bit (b := ld r) (fun a ha => (h.head a ha).2) hy
      rw [hs_xa, hp r (by simp), hs_ld (h.lt r (by simp)) (h.ne r (by simp))] at h1
      cases h1
/-- The leading bit of what is in the span is a row's. -/
theorem rr_lead : ∀ {rs : List (Nat × Nat)}, RR rs → ∀ {x}, Sp rs x → x ≠ (0, 0) → ∃ r ∈ rs, ld x = ld r
  | [], _, x, hx, h0 => absurd hx h0
  | r :: rs, h, x, hx, h0 => by
    rcases hx with hx | hx
    · obtain ⟨a, ha, e⟩ := rr_lead h.tail hx h0
      exact ⟨a, by simp [ha], e⟩
    · have hr := h.lt r (by simp)
      have r0 := h.ne r (by simp)
      have hz : lt2 (xa x r) := sp_lt h.tail.lt hx
      have ex : xa (xa x r) r = x := by rw [xa_assoc, xa_self, xa_zero]
      by_cases z0 : xa x r = (0, 0)
      · exact ⟨r, by simp, by rw [← ex, z0, zero_xa]⟩
      · obtain ⟨a, ha, e⟩ := rr_lead h.tail hx z0
        have h1 := sp_bit (b := ld r) (fun a ha => (h.head a ha).2) hx
        have h2 := hs_ld hz z0
        rcases Nat.lt_trichotomy (ld (xa x r)) (ld r) with c | c | c
        · refine ⟨r, by simp, ?_⟩
          conv => lhs; rw [← ex]
          exact ld_add hz hr r0 (.inr c)
        · rw [c, h1] at h2; cases h2
        · refine ⟨a, by simp [ha], ?_⟩
          rw [← e]
          conv => lhs; rw [← ex, xa_comm]
          exact ld_add hr hz z0 (.inr c)
/-- What is left of an element. -/
def st (x r : Nat × Nat) : Nat × Nat := if hs x (ld r) = true then xa x r else x
def red : List (Nat × Nat) → Nat × Nat → Nat × Nat
  | [], x => x
  | r :: rs, x => red rs (st x r)
theorem red_snoc : ∀ (rs : List (Nat × Nat)) (r x : Nat × Nat), red (rs ++ [r]) x = st (red rs x) r
  | [], _, _ => rfl
  | _ :: rs, r, _ => red_snoc rs r _
theorem st_bit {x r : Nat × Nat} {b : Nat} (h : hs r b = false) : hs (st x r) b = hs x b := by
  unfold st; split
  · rw [hs_xa, h]; simp
  · rfl
theorem st_lead {x r : Nat × Nat} (hr : lt2 r) (r0 : r ≠ (0, 0)) : hs (st x r) (ld r) = false := by
  unfold st; split
  · rename_i h; rw [hs_xa, h, hs_ld hr r0]; rfl
  · rename_i h; simpa using h
theorem lt_st {x r : Nat × Nat} (hx : lt2 x) (hr : lt2 r) : lt2 (st x r) := by
  unfold st; split
  · exact lt_xa hx hr
  · exact hx
theorem red_keep : ∀ {rs : List (Nat × Nat)} {b : Nat}, (∀ r ∈ rs, hs r b = false) → ∀ x, hs (red rs x) b = hs x b
  | [], _, _, _ => rfl
  | r :: rs, b, h, x => (red_keep (fun a ha => h a (by simp [ha])) (st x r)).trans (st_bit (h r (by simp)))
theorem lt_red : ∀ {rs : List (Nat × Nat)}, ltE rs → ∀ {x}, lt2 x → lt2 (red rs x)
  | [], _, _, hx => hx
  | r :: rs, h, x, hx => lt_red (rs := rs) (x := st x r) (fun a ha => h a (by simp [ha])) (lt_st hx (h r (by simp)))
theorem red_bit : ∀ {rs : List (Nat × Nat)}, RR rs → ∀ x, ∀ r ∈ rs, hs (red rs x) (ld r) = false
  | r :: rs, h, x, a, ha => by
    rcases List.mem_cons.1 ha with rfl | ha
    · refine (red_keep (fun b hb => (h.head b hb).2) _).trans (st_lead (h.lt a (by simp)) (h.ne a (by simp)))
    · exact red_bit h.tail _ a ha
theorem red_sp : ∀ (rs : List (Nat × Nat)) (x : Nat × Nat), Sp rs (xa x (red rs x))
  | [], x => xa_self x
  | r :: rs, x => by
    have h := red_sp rs (st x r)
    show Sp rs (xa x (red rs (st x r))) ∨ Sp rs (xa (xa x (red rs (st x r))) r)
    by_cases c : hs x (ld r) = true
    · right
      rw [show st x r = xa x r from if_pos c] at h ⊢
      rwa [xa_assoc, xa_comm r, ← xa_assoc] at h
    · left
      rwa [show st x r = x from if_neg c] at h ⊢
theorem red_iff {rs : List (Nat × Nat)} (h : RR rs) (x : Nat × Nat) : Sp rs x ↔ red rs x = (0, 0) := by
  constructor
  · intro hx
    have := sp_add rs (red_sp rs x) hx
    rw [xa_assoc, xa_comm _ x, xa_back] at this
    exact rr_zero h this (red_bit h x)
  · intro e
    have := red_sp rs x
    rwa [e, xa_zero] at this
/-- A row less another one. -/
theorem ld_st {o r : Nat × Nat} (ho : lt2 o) (hr : lt2 r) (o0 : o ≠ (0, 0)) (r0 : r ≠ (0, 0)) (h : hs r (ld o) = false) : st o r ≠ (0, 0) ∧ ld (st o r) = ld o := by
  have e : ld (st o r) = ld o := by
    unfold st; split
    · rename_i c
      have h1 := le_ld ho c
      have h2 : ld r ≠ ld o := fun e => by rw [← e, hs_ld hr r0] at h; cases h
      rw [xa_comm]
      exact ld_add hr ho o0 (.inr (by omega))
    · rfl
  refine ⟨hs_ne (b := ld o) ?_, e⟩
  rw [st_bit h]; exact hs_ld ho o0
theorem rr_more {rs : List (Nat × Nat)} (h : RR rs) {r : Nat × Nat} (hr : lt2 r) (r0 : r ≠ (0, 0)) (hp : ∀ o ∈ rs, hs r (ld o) = false) : RR (rs.map (fun o => st o r) ++ [r]) := by
  have L : ∀ o ∈ rs, st o r ≠ (0, 0) ∧ ld (st o r) = ld o := fun o ho => ld_st (h.lt o ho) hr (h.ne o ho) r0 (hp o ho)
  refine ⟨fun a ha => ?_, fun a ha => ?_, ?_⟩
  · simp only [List.mem_append, List.mem_map, List.mem_singleton] at ha
    rcases ha with ⟨o, ho, rfl⟩ | rfl
    · exact lt_st (h.lt o ho) hr
    · exact hr
  · simp only [List.mem_append, List.mem_map, List.mem_singleton] at ha
    rcases ha with ⟨o, ho, rfl⟩ | rfl
    · exact (L o ho).1
    · exact r0
  · refine List.pairwise_append.2 ⟨?_, List.pairwise_singleton _ _, fun a ha b hb => ?_⟩
    · rw [List.pairwise_map]
      refine h.apt.imp_of_mem fun {a b} ha hb hab => ?_
      unfold Apt
      rw [(L a ha).2, (L b hb).2, st_bit (hp b hb), st_bit (hp a ha)]
      exact hab
    · simp only [List.mem_map, List.mem_singleton] at ha hb
      obtain ⟨o, ho, rfl⟩ := ha
      subst hb
      refine ⟨st_lead hr r0, ?_⟩
      rw [(L o ho).2]; exact hp o ho
theorem st_sp {m : List (Nat × Nat)} {o r : Nat × Nat} (ho : Sp m o) (hr : Sp m r) : Sp m (st o r) := by
  unfold st; split
  · exact sp_add m ho hr
  · exact ho
theorem st_st {o r : Nat × Nat} {m : List (Nat × Nat)} (h1 : Sp m (st o r)) (hr : Sp m r) : Sp m o := by
  unfold st at h1; split at h1
  · have := sp_add m h1 hr
    rwa [xa_assoc, xa_self, xa_zero] at this
  · exact h1
theorem sp_more (rs : List (Nat × Nat)) (r : Nat × Nat) : Eqs (rs.map (fun o => st o r) ++ [r]) (rs ++ [r]) := by
  refine eqs_of (fun a ha => ?_) (fun a ha => ?_)
  · simp only [List.mem_append, List.mem_map, List.mem_singleton] at ha
    rcases ha with ⟨o, ho, rfl⟩ | rfl
    · exact st_sp (sp_mem (by simp [ho])) (sp_mem (by simp))
    · exact sp_mem (by simp)
  · simp only [List.mem_append, List.mem_singleton] at ha
    rcases ha with ho | rfl
    · exact st_st (r := r) (sp_mem (by simp only [List.mem_append, List.mem_map]; exact .inl ⟨a, ho, rfl⟩)) (sp_mem (by simp))
    · exact sp_mem (by simp)
/-- What is left instead of an element: the same span. -/
theorem sp_left {l rs : List (Nat × Nat)} (h : Eqs rs l) (x : Nat × Nat) : Eqs (rs ++ [red rs x]) (l ++ [x]) := fun y => by
  have k := red_sp rs x
  rw [sp_snoc, sp_snoc, ← h y, ← h (xa y x)]
  constructor
  · rintro (c | c)
    · exact .inl c
    · refine .inr ?_
      have := sp_add rs c k
      rwa [xa_assoc, xa_left (red rs x) x (red rs x), xa_self, xa_zero] at this
  · rintro (c | c)
    · exact .inl c
    · refine .inr ?_
      have := sp_add rs c k
      rwa [xa_assoc, ← xa_assoc x x, xa_self, zero_xa] at this
theorem sp_in {l : List (Nat × Nat)} {x : Nat × Nat} (h : Sp l x) : Eqs (l ++ [x]) l := fun y => by
  rw [sp_snoc]
  constructor
  · rintro (c | c)
    · exact c
    · have := sp_add l c h
      rwa [xa_assoc, xa_self, xa_zero] at this
  · exact .inl
/-- Rows that fall. -/
def Fall (rs : List (Nat × Nat)) : Prop := rs.Pairwise fun a b => ld b < ld a
/-- Two lists of numbers that fall, one in the other. -/
theorem fall_sub : ∀ (a b : List Nat), a.Pairwise (fun x y => y < x) → b.Pairwise (fun x y => y < x) → (∀ x ∈ a, x ∈ b) → a.Sublist b
  | [], b, _, _, _ => List.nil_sublist b
  | x :: a, [], _, _, h => absurd (h x (by simp)) (by simp)
  | x :: a, y :: b, ha, hb, h => by
    have ha' := List.pairwise_cons.1 ha
    have hb' := List.pairwise_cons.1 hb
    rcases List.mem_cons.1 (h x (by simp)) with rfl | hx
    · refine List.Sublist.cons_cons _ (fall_sub a b ha'.2 hb'.2 fun z hz => ?_)
      have := ha'.1 z hz
      rcases List.mem_cons.1 (h z (by simp [hz])) with rfl | h1
      · omega
      · exact h1
    · refine List.Sublist.cons _ (fall_sub (x :: a) b ha hb'.2 fun z hz => ?_)
      have h1 := hb'.1 x hx
      rcases List.mem_cons.1 (h z hz) with rfl | h2
      · rcases List.mem_cons.1 hz with rfl | h3
        · omega
        · have := ha'.1 _ h3; omega
      · exact h2
theorem rr_leads {rs ss : List (Nat × Nat)} (hr : RR rs) (hs' : RR ss) (h : ∀ x, Sp rs x → Sp ss x) : ∀ d ∈ rs.map ld, d ∈ ss.map ld := fun d hd => by
  simp only [List.mem_map] at hd ⊢
  obtain ⟨r, h1, rfl⟩ := hd
  obtain ⟨s, h2, e⟩ := rr_lead hs' (h r (sp_mem h1)) (hr.ne r h1)
  exact ⟨s, h2, e.symm⟩
theorem Fall.lds {rs : List (Nat × Nat)} (h : Fall rs) : (rs.map ld).Pairwise (fun x y => y < x) := by
  rw [List.pairwise_map]; exact h
/-- A span within another one of as many rows is the other one. -/
theorem rr_same {rs ss : List (Nat × Nat)} (hr : RR rs) (hs' : RR ss) (fr : Fall rs) (fs : Fall ss) (h : ∀ x, Sp rs x → Sp ss x) (hl : ss.length ≤ rs.length) : Eqs rs ss := fun x => by
  refine ⟨h x, fun hx => ?_⟩
  have e := (fall_sub _ _ fr.lds fs.lds (rr_leads hr hs' h)).eq_of_length_le (by simpa using hl)
  rw [red_iff hr]
  have h1 : Sp ss (red rs x) := by
    have := sp_add ss (h _ (red_sp rs x)) hx
    rwa [xa_assoc, xa_comm _ x, xa_back] at this
  refine rr_zero hs' h1 fun s h2 => ?_
  have h3 : ld s ∈ rs.map ld := by rw [e]; exact List.mem_map.2 ⟨s, h2, rfl⟩
  obtain ⟨r, h4, e4⟩ := List.mem_map.1 h3
  rw [← e4]; exact red_bit hr x r h4
theorem rr_len {rs ss : List (Nat × Nat)} (hr : RR rs) (hs' : RR ss) (fr : Fall rs) (fs : Fall ss) (h : ∀ x, Sp rs x → Sp ss x) : rs.length ≤ ss.length := by
  have := (fall_sub _ _ fr.lds fs.lds (rr_leads hr hs' h)).length_le
  simpa using this
theorem apt_all : ∀ {rs : List (Nat × Nat)}, rs.Pairwise Apt → ∀ {a b}, a ∈ rs → b ∈ rs → a ≠ b → Apt a b
  | r :: rs, h, a, b, ha, hb, n => by
    have h' := List.pairwise_cons.1 h
    rcases List.mem_cons.1 ha with rfl | ka <;> rcases List.mem_cons.1 hb with rfl | kb
    · exact absurd rfl n
    · exact h'.1 b kb
    · exact ⟨(h'.1 a ka).2, (h'.1 a ka).1⟩
    · exact apt_all h'.2 ka kb n
theorem apt_ne {a b : Nat × Nat} (ha : lt2 a) (a0 : a ≠ (0, 0)) (h : Apt a b) : ld a ≠ ld b := fun e => by
  have := h.1
  rw [← e, hs_ld ha a0] at this; cases this
theorem rr_mem {rs ss : List (Nat × Nat)} (hr : RR rs) (hs' : RR ss) (h : Eqs rs ss) : ∀ r ∈ rs, r ∈ ss := fun r h1 => by
  obtain ⟨s, h2, e⟩ := rr_lead hs' ((h r).1 (sp_mem h1)) (hr.ne r h1)
  have k : xa r s = (0, 0) := by
    refine rr_zero hr (sp_add rs (sp_mem h1) ((h s).2 (sp_mem h2))) fun o h3 => ?_
    rw [hs_xa]
    by_cases c : o = r
    · subst c
      rw [hs_ld (hr.lt o h1) (hr.ne o h1), e, hs_ld (hs'.lt s h2) (hs'.ne s h2)]; rfl
    · have a2 : Apt r o := apt_all hr.apt h1 h3 fun e => c e.symm
      obtain ⟨t, h4, e4⟩ := rr_lead hs' ((h o).1 (sp_mem h3)) (hr.ne o h3)
      have n1 : ld r ≠ ld o := apt_ne (hr.lt r h1) (hr.ne r h1) a2
      have n2 : s ≠ t := fun q => n1 (by rw [e, e4, q])
      have b2 : Apt s t := apt_all hs'.apt h2 h4 n2
      rw [a2.1, e4, b2.1]; rfl
  have : r = s := by
    have h5 : xa r (xa r s) = s := xa_back r s
    rw [k, xa_zero] at h5; exact h5
  rw [this]; exact h2
theorem fall_same : ∀ (a b : List (Nat × Nat)), Fall a → Fall b → (∀ x ∈ a, x ∈ b) → (∀ x ∈ b, x ∈ a) → a = b
  | [], [], _, _, _, _ => rfl
  | [], y :: b, _, _, _, h => absurd (h y (by simp)) (by simp)
  | x :: a, [], _, _, h, _ => absurd (h x (by simp)) (by simp)
  | x :: a, y :: b, ha, hb, h1, h2 => by
    have ha' := List.pairwise_cons.1 ha
    have hb' := List.pairwise_cons.1 hb
    have e : x = y := by
      rcases List.mem_cons.1 (h1 x (by simp)) with e | k1
      · exact e
      · rcases List.mem_cons.1 (h2 y (by simp)) with e | k2
        · exact e.symm
        · have := ha'.1 y k2; have := hb'.1 x k1; omega
    subst e
    congr 1
    refine fall_same a b ha'.2 hb'.2 (fun z hz => ?_) (fun z hz => ?_)
    · rcases List.mem_cons.1 (h1 z (by simp [hz])) with rfl | k
      · have := ha'.1 z hz; omega
      · exact k
    · rcases List.mem_cons.1 (h2 z (by simp [hz])) with rfl | k
      · have := hb'.1 z hz; omega
      · exact k
/-- ONE LIST: reduced rows of one span that fall. -/
theorem rr_one {rs ss : List (Nat × Nat)} (hr : RR rs) (hs' : RR ss) (fr : Fall rs) (fs : Fall ss) (h : Eqs rs ss) : rs = ss := fall_same rs ss fr fs (rr_mem hr hs' h) (rr_mem hs' hr fun x => (h x).symm)
end Sq
end Go.Proofs.Ytjdfbjdbfncofaa
