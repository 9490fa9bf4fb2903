/- The way back of a map, no Go in sight: where the rank is whole, what each bit is of; forth and back. -/
import Derived.Test.YtkllihomdlibgaaSqX
import Derived.Test.YtkllihomdlibgaaSqT
namespace Go.Proofs.Ytkllihomdlibgaa
namespace Sq
open Cb
open Rg

/-- Numbers that fall and are as many as can be are all. -/
theorem fall_all : ∀ (n : Nat) (L : List Nat), L.Pairwise (fun a b => b < a) → (∀ a ∈ L, a < n) → L.length = n → ∀ b, b < n → b ∈ L
  | 0, _, _, _, _, b, hb => absurd hb (Nat.not_lt_zero b)
  | n + 1, [], _, _, hl, _, _ => by simp at hl
  | n + 1, a :: L, hp, ha, hl, b, hb => by
    obtain ⟨h1, h2⟩ := List.pairwise_cons.1 hp
    have han := ha a (by simp)
    have ih := fall_all n L h2 (fun c hc => by have := h1 c hc; omega) (by simpa using hl)
    by_cases e : b < n
    · exact List.mem_cons_of_mem _ (ih b e)
    · obtain rfl : b = n := by omega
      have : a = b := by
        rcases b with _ | k
        · omega
        · have := h1 k (ih k (by omega)); omega
      rw [this]; simp
theorem lng_le {x : Nat × Nat} (hx : lt2 x) {n : Nat} (h : ∀ b, n ≤ b → hs x b = false) : lngE x ≤ n := by
  by_cases h0 : x = (0, 0)
  · subst h0; exact Nat.zero_le _
  · rw [lng_ld hx h0]
    rcases Nat.lt_or_ge (ld x) n with k | k
    · exact k
    · have := hs_ld hx h0
      rw [h _ k] at this; cases this
/-- A map that has a way back: it fits, and its rank is whole. -/
structure Wh (m : List (Nat × Nat)) : Prop where
  lt : ltE m
  le : m.length ≤ 128
  fit : ∀ i, lngE (el m i) ≤ m.length
  rank : (rb m).length = m.length
theorem Wh.fresh {m : List (Nat × Nat)} (w : Wh m) : ∀ i, i < m.length → old? m i = false := by
  have h := elm_ei w.lt m.length (Nat.le_refl _)
  have hlen : (elm m m.length).2.length = m.length := by rw [← h.len, elm_len w.lt, w.rank]
  have hd : ∀ d i, i + d = m.length → i ≤ (elm m i).2.length := fun d => by
    induction d with
    | zero => intro i hi; obtain rfl : i = m.length := by omega
              omega
    | succ d ih =>
      intro i hi
      have h1 := ih (i + 1) (by omega)
      rw [elm_succ] at h1
      cases e : old? m i
      · rw [e, if_neg (by decide), List.length_append, List.length_singleton] at h1; omega
      · rw [e, if_pos rfl] at h1; omega
  intro i hi
  cases e : old? m i
  · rfl
  · have h1 := hd (m.length - (i + 1)) (i + 1) (by omega)
    rw [elm_succ, e, if_pos rfl] at h1
    have := (elm_ei w.lt i (by omega)).le
    omega
theorem Wh.frs {m : List (Nat × Nat)} (w : Wh m) : ∀ i, i ≤ m.length → (elm m i).2 = List.range i
  | 0, _ => rfl
  | i + 1, h => by
    rw [elm_succ, w.fresh i (by omega), if_neg (by decide), w.frs i (by omega), List.range_succ]
theorem Wh.wch {m : List (Nat × Nat)} (w : Wh m) (o : Nat × Nat) {i : Nat} (h : i < m.length) : wch m o i = hs o i := by
  unfold Sq.wch
  rw [w.fresh i h, w.frs i (by omega), List.length_range]; rfl
theorem Wh.ups {m : List (Nat × Nat)} (w : Wh m) (o : Nat × Nat) : ∀ i, i ≤ m.length → ups m o i = mdv i m o
  | 0, _ => rfl
  | i + 1, h => by
    rw [ups_succ, w.ups o i (by omega), w.wch o (by omega)]; rfl
theorem Wh.bits {m : List (Nat × Nat)} (w : Wh m) {i b : Nat} (h : m.length ≤ b) : hs (el m i) b = false := hs_long _ (ltE_el w.lt i) b (Nat.le_trans (w.fit i) h)
theorem Wh.all {m : List (Nat × Nat)} (w : Wh m) {x : Nat × Nat} (hx : lt2 x) (hl : lngE x ≤ m.length) : Sp m x := by
  obtain ⟨hR, hF, hQ⟩ := rb_rr w.lt
  have hb : ∀ r ∈ rb m, ∀ b, m.length ≤ b → hs r b = false := fun r hr b hb => sp_bit (fun a ha => by
    obtain ⟨i, _, rfl⟩ := mem_el ha
    exact w.bits hb) ((hQ r).1 (sp_mem hr))
  have hld : ∀ a ∈ (rb m).map ld, a < m.length := fun a ha => by
    obtain ⟨r, hr, rfl⟩ := List.mem_map.1 ha
    rcases Nat.lt_or_ge (ld r) m.length with k | k
    · exact k
    · have := hs_ld (hR.lt r hr) (hR.ne r hr)
      rw [hb r hr _ k] at this; cases this
  have hall := fall_all m.length ((rb m).map ld) (List.pairwise_map.2 hF) hld (by rw [List.length_map, w.rank])
  refine (hQ x).1 ((red_iff hR x).2 (hs_none (lt_red hR.lt hx) fun b _ => ?_))
  rcases Nat.lt_or_ge b m.length with k | k
  · obtain ⟨r, hr, rfl⟩ := List.mem_map.1 (hall b k)
    exact red_bit hR x r hr
  · rw [red_keep (fun r hr => hb r hr b k)]
    exact hs_long x hx b (Nat.le_trans hl k)
theorem bv_lng {i n : Nat} (h : i < n) (hn : n ≤ 128) : lngE (bv (i : Int)) ≤ n := lng_le (bv_lt2 _) fun b hb => bv_high i b (by omega) (by omega)
/-- What each bit is of. -/
def bk (m : List (Nat × Nat)) (i : Nat) : Nat × Nat := ofv m (bv (i : Int))
def bkL (m : List (Nat × Nat)) : List (Nat × Nat) := (List.range m.length).map (bk m)
theorem bkL_len (m : List (Nat × Nat)) : (bkL m).length = m.length := by simp [bkL]
theorem bkL_at (m : List (Nat × Nat)) {i : Nat} (h : i < m.length) : el (bkL m) i = bk m i := by simp [el, bkL, List.getD, h]
theorem lt_ofv' {l : List (Nat × Nat)} (hl : ltE l) {x : Nat × Nat} (hx : lt2 x) : lt2 (ofv l x) := by
  have h := elm_ei hl l.length (Nat.le_refl _)
  exact (redv_lt (ltR_of h.rr h.of) x hx.1 hx.2 _ (Nat.le_refl _)).2
theorem lt_bk {m : List (Nat × Nat)} (hm : ltE m) (i : Nat) : lt2 (bk m i) := lt_ofv' hm (bv_lt2 _)
theorem lt_bkL {m : List (Nat × Nat)} (hm : ltE m) : ltE (bkL m) := fun e he => by
  obtain ⟨i, _, rfl⟩ := List.mem_map.1 he
  exact lt_bk hm i
theorem Wh.inn {m : List (Nat × Nat)} (w : Wh m) {i : Nat} (h : i < m.length) : in? m (bv (i : Int)) = true := (in?_iff w.lt (bv_lt2 _)).2 (w.all (bv_lt2 _) (bv_lng h w.le))
theorem Wh.to {m : List (Nat × Nat)} (w : Wh m) {i : Nat} (h : i < m.length) : mdv m.length m (bk m i) = bv (i : Int) := by
  rw [← w.ups _ _ (Nat.le_refl _)]
  exact ups_all w.lt w.le (bv_lt2 _) (w.inn h)
theorem Wh.long {m : List (Nat × Nat)} (w : Wh m) (i : Nat) : lngE (bk m i) ≤ m.length := lng_le (lt_bk w.lt i) fun b hb => by
  have h := (redv_of (elm_eo w.lt w.le m.length (Nat.le_refl _)) (bv (i : Int)) _ (Nat.le_refl _)).2 b
  rw [w.frs _ (Nat.le_refl _), List.length_range] at h
  exact h hb
theorem Wh.inj {m : List (Nat × Nat)} (w : Wh m) {z : Nat × Nat} (hz : lt2 z) (hl : lngE z ≤ m.length) (h : mdv m.length m z = (0, 0)) : z = (0, 0) := by
  by_cases h0 : z = (0, 0)
  · exact h0
  · exfalso
    have hk : ld z < m.length := by have := lng_ld hz h0; omega
    have up : ∀ d, ld z + 1 + d ≤ m.length → mdv (ld z + 1 + d) m z = mdv (ld z + 1) m z := fun d => by
      induction d with
      | zero => intro _; rfl
      | succ d ih =>
        intro hd
        have e : mdv (ld z + 1 + (d + 1)) m z = xa (mdv (ld z + 1 + d) m z) (sl (hs z (ld z + 1 + d)) (el m (ld z + 1 + d))) := rfl
        rw [e, hs_above hz (show ld z < ld z + 1 + d by omega), ih (by omega)]
        exact xa_zero _
    have e1 := up (m.length - (ld z + 1)) (by omega)
    rw [show ld z + 1 + (m.length - (ld z + 1)) = m.length by omega, h] at e1
    have e2 : mdv (ld z + 1) m z = xa (mdv (ld z) m z) (sl (hs z (ld z)) (el m (ld z))) := rfl
    rw [← e1, hs_ld hz h0] at e2
    have e3 := xa_eq_zero e2.symm
    have s := ups_sp (l := m) z (ld z) (by omega)
    rw [w.ups z _ (by omega), e3] at s
    have := (old_iff w.lt (by omega)).2 s
    rw [w.fresh _ hk] at this; cases this
theorem xs_bit {f : Nat → Nat × Nat} {b : Nat} (h : ∀ i, hs (f i) b = false) : ∀ n, hs (xs n f) b = false
  | 0 => hs_zero b
  | n + 1 => by simp only [xs]; rw [hs_xa, xs_bit h n, h n]; rfl
theorem xs_pick (f : Nat → Nat × Nat) (i : Nat) : ∀ n, (xs n fun k => sl (decide (k = i)) (f k)) = if i < n then f i else (0, 0)
  | 0 => rfl
  | n + 1 => by
    simp only [xs]
    rw [xs_pick f i n]
    by_cases e : n = i
    · subst e
      rw [if_neg (by omega), if_pos (by omega), decide_eq_true rfl, xa_comm]
      exact xa_zero _
    · rw [decide_eq_false e]
      show xa _ (0, 0) = _
      rw [xa_zero]
      by_cases h : i < n
      · rw [if_pos h, if_pos (by omega)]
      · rw [if_neg h, if_neg (by omega)]
theorem mdv_bv (m : List (Nat × Nat)) {i n : Nat} (h : i < n) (hn : n ≤ 128) : mdv n m (bv (i : Int)) = el m i := by
  have := xs_pick (el m) i n
  rw [if_pos h] at this
  rw [← this]
  exact xs_congr _ fun k hk => by rw [bv_at i k (by omega) (by omega)]
/-- Back and forth. -/
theorem Wh.forth {m : List (Nat × Nat)} (w : Wh m) {y : Nat × Nat} (hy : lt2 y) (hl : lngE y ≤ m.length) : mdv m.length m (mdv m.length (bkL m) y) = y := by
  have e : mdv m.length m (mdv m.length (bkL m) y) = xs m.length fun i => sl (hs y i) (bv (i : Int)) := by
    show mdv m.length m (xs m.length fun i => sl (hs y i) (el (bkL m) i)) = _
    rw [mdv_xs]
    refine xs_congr _ fun i hi => ?_
    rw [mdv_sl, bkL_at m hi, w.to hi]
  rw [e]
  refine hs_ext (lt_xs (fun i => lt_sl (bv_lt2 _)) _) hy fun b hb => ?_
  rw [hs_bits (hs y) m.length b w.le hb]
  rcases Nat.lt_or_ge b m.length with k | k
  · rw [decide_eq_true k]; rfl
  · rw [hs_long y hy b (Nat.le_trans hl k)]; simp
theorem Wh.back {m : List (Nat × Nat)} (w : Wh m) {i : Nat} (h : i < m.length) : mdv m.length (bkL m) (el m i) = bv (i : Int) := by
  have h1 := w.forth (ltE_el w.lt i) (w.fit i)
  have l1 : lt2 (mdv m.length (bkL m) (el m i)) := lt_mdv _ (lt_bkL w.lt) _
  have h2 : mdv m.length m (xa (mdv m.length (bkL m) (el m i)) (bv (i : Int))) = (0, 0) := by
    rw [mdv_xa, h1, mdv_bv m h w.le, xa_self]
  refine xa_eq_zero (w.inj (lt_xa l1 (bv_lt2 _)) (lng_le (lt_xa l1 (bv_lt2 _)) fun b hb => ?_) h2)
  rw [hs_xa, bv_high i b (by have := w.le; omega) (by omega)]
  have : hs (mdv m.length (bkL m) (el m i)) b = false := xs_bit (fun j => by
    rw [hs_sl]
    by_cases hj : j < m.length
    · rw [bkL_at m hj, hs_long _ (lt_bk w.lt j) b (Nat.le_trans (w.long j) hb)]; simp
    · rw [el_ge (l := bkL m) (i := j) (by rw [bkL_len]; omega), hs_zero]; simp) _
  rw [this]; rfl
/-- What hinders the way back. -/
def bkE (m : List (Nat × Nat)) : Int := if 128 < m.length then 1 else if fitL m m.length = false then 6 else if (rb m).length = m.length then 0 else 7
theorem bkE_zero {m : List (Nat × Nat)} (hm : ltE m) (h : bkE m = 0) : Wh m := by
  unfold bkE at h
  by_cases h1 : 128 < m.length
  · rw [if_pos h1] at h; cases h
  · rw [if_neg h1] at h
    cases h2 : fitL m m.length
    · rw [h2, if_pos rfl] at h; cases h
    · rw [h2, if_neg (by decide)] at h
      by_cases h3 : (rb m).length = m.length
      · refine ⟨hm, by omega, fun i => ?_, h3⟩
        by_cases hi : i < m.length
        · exact (fitL_iff _ _).1 h2 _ (el_lt hi)
        · rw [el_ge (by omega)]; exact Nat.zero_le _
      · rw [if_neg h3] at h; cases h
end Sq
end Go.Proofs.Ytkllihomdlibgaa
