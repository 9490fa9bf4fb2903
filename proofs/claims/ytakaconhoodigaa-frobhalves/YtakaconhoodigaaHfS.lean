/- span.Solve over the seat's translation, where neither sorting nor Basis is in it: cut out of SqQ, SqH, SqI, SqW and SqX. -/
import Derived.Test.YtakaconhoodigaaSqD
import Derived.Test.YtakaconhoodigaaSqG
import Derived.Test.YtakaconhoodigaaPIvA
import Derived.Test.YtakaconhoodigaaIvB
namespace Go.Proofs.Ytakaconhoodigaa
open Go.RowKit
open Cb Rg Sq

theorem hs_ext {x y : Nat × Nat} (hx : lt2 x) (hy : lt2 y) (h : ∀ b, b < 128 → hs x b = hs y b) : x = y := by
  have e := hs_none (lt_xa hx hy) fun b hb => by rw [hs_xa, h b hb]; simp
  have := xa_back x y
  rw [e, xa_zero] at this
  exact this
theorem bx_pick (c : Nat → Bool) (b : Nat) : ∀ n, bx n (fun v => c v && decide (b = v)) = (decide (b < n) && c b)
  | 0 => by simp [bx]
  | n + 1 => by
    unfold bx
    rw [bx_pick c b n]
    by_cases h : b = n
    · subst h; simp
    · by_cases h2 : b < n
      · simp [h, h2, show b < n + 1 by omega]
      · simp [h, h2, show ¬ b < n + 1 by omega]
theorem bx_congr {f g : Nat → Bool} : ∀ n, (∀ i, i < n → f i = g i) → bx n f = bx n g
  | 0, _ => rfl
  | n + 1, h => by unfold bx; rw [bx_congr n (fun i hi => h i (by omega)), h n (by omega)]
/-- A sum of bits has these bits. -/
theorem hs_bits (c : Nat → Bool) (n b : Nat) (hn : n ≤ 128) (hb : b < 128) : hs (xs n fun v => sl (c v) (bv (v : Int))) b = (decide (b < n) && c b) := by
  rw [hs_xs, bx_congr n (g := fun v => c v && decide (b = v)) fun v hv => ?_, bx_pick]
  rw [hs_sl]
  congr 1
  exact bv_has v b (by omega) hb
/-- eliminate, and what its rows leave. -/
theorem elim_red (a : Option Addr) (cap : Nat) (l : List (Nat × Nat)) (hl : ltE l) (h128 : l.length ≤ 128) (W : World) (hr : ERow W a l) :
    Calls Try.prog 54 #[.slice a l.length cap] W fun e w' => ∃ a0 n0 a1 n1, e = .returned (.agg #[.slice a0 (elm l l.length).1.length n0, .slice a1 (elm l l.length).2.length n1]) ∧ w'.ownsRow W.heap.size 95 4 (.slice a0 (elm l l.length).1.length n0) (elm l l.length).1.length (flatR (elm l l.length).1) ∧ w'.ownsRow W.heap.size 3 1 (.slice a1 (elm l l.length).2.length n1) (elm l l.length).2.length (ints (elm l l.length).2) ∧
      (∀ w2, Below w'.heap.size w' w2 → ∀ x : Nat × Nat, lt2 x → Calls Try.prog 55 #[.agg #[.slice a0 (elm l l.length).1.length n0, .slice a1 (elm l l.length).2.length n1], .agg #[.int .u64 (x.1 : Int), .int .u64 (x.2 : Int)]] w2 fun e w3 => e = .returned (.tuple #[.agg #[.int .u64 ((redv (elm l l.length).1 x (elm l l.length).1.length).1.1 : Int), .int .u64 ((redv (elm l l.length).1 x (elm l l.length).1.length).1.2 : Int)], .agg #[.int .u64 ((redv (elm l l.length).1 x (elm l l.length).1.length).2.1 : Int), .int .u64 ((redv (elm l l.length).1 x (elm l l.length).1.length).2.2 : Int)]]) ∧ Below w2.heap.size w2 w3) ∧ Below W.heap.size W w' := by
  refine (eliminate_any a cap l hl h128 W hr).mono ?_
  rintro e w' ⟨v0, v1, rfl, o0, o1, hb⟩
  obtain ⟨a0, n0, rfl⟩ := own_slc o0
  obtain ⟨a1, n1, rfl⟩ := own_slc o1
  have h := elm_ei hl l.length (Nat.le_refl _)
  refine ⟨a0, n0, a1, n1, rfl, o0, o1, fun w2 h2 x hx => ?_, hb⟩
  exact reduce_any a0 n0 _ _ x w2 (own_rr (own_below o0 h2)) (by have := h.len; have := h.le; omega) (ltR_of h.rr h.of) hx.1 hx.2
structure IRow (w : World) (a : Option Addr) (fr : List Nat) : Prop where
  cells : ∀ i, i < fr.length → ∃ b off, a = some ⟨b, off, none⟩ ∧ b < w.heap.size ∧ w.cell? ⟨b, off + i, none⟩ = some (.int .i64 ((fr.getD i 0 : Nat) : Int))
theorem ints_at (fr : List Nat) {i : Nat} (h : i < fr.length) : (ints fr)[i]? = some (.int .i64 ((fr.getD i 0 : Nat) : Int)) := by
  simp [ints, List.getD, h]
theorem own_irow {w : World} {base : Nat} {a : Option Addr} {c : Nat} {fr : List Nat} (h : w.ownsRow base 3 1 (.slice a fr.length c) fr.length (ints fr)) : IRow w a fr := by
  rcases h.2 with ⟨h1, h0⟩ | ⟨g, cap, cur, e, _⟩
  · exact ⟨fun i hi => by omega⟩
  · have e1 : a = some ⟨g, 0, none⟩ := by injection e
    have e2 : c = cap := by injection e
    subst e1 e2
    refine ⟨fun i hi => ?_⟩
    have c0 := (own_cell h i (by omega)).1
    rw [ints_at fr hi] at c0
    exact ⟨g, 0, rfl, cell_lt c0, by rw [Nat.zero_add]; exact c0⟩
theorem IRow.below {w w' : World} {a : Option Addr} {fr : List Nat} (h : IRow w a fr) (hb : Below w.heap.size w w') : IRow w' a fr := ⟨fun i hi => by
  obtain ⟨b, off, e, hl, c⟩ := h.cells i hi
  exact ⟨b, off, e, Nat.lt_of_lt_of_le hl hb.size, keepc hb c⟩⟩
namespace Sq
/-- The sum of those of the new elements that a number's bits name. -/
def cmb (l : List (Nat × Nat)) (fr : List Nat) (o : Nat × Nat) : Nat × Nat := xs fr.length fun k => sl (hs o k) (el l (fr.getD k 0))
theorem cmb_xa (l : List (Nat × Nat)) (fr : List Nat) (a b : Nat × Nat) : cmb l fr (xa a b) = xa (cmb l fr a) (cmb l fr b) := by
  unfold cmb
  rw [← xs_two]
  exact xs_congr _ fun k _ => by rw [hs_xa, sl_xor]
theorem cmb_zero (l : List (Nat × Nat)) (fr : List Nat) : cmb l fr (0, 0) = (0, 0) := xs_none _ fun k _ => by rw [hs_zero]; rfl
theorem cmb_snoc (l : List (Nat × Nat)) (fr : List Nat) (i : Nat) (o : Nat × Nat) : cmb l (fr ++ [i]) o = xa (cmb l fr o) (sl (hs o fr.length) (el l i)) := by
  unfold cmb
  rw [List.length_append, List.length_singleton]
  simp only [xs]
  congr 1
  · refine xs_congr _ fun k hk => ?_
    congr 2
    simp [List.getD, List.getElem?_append_left hk]
  · congr 2
    simp [List.getD]
theorem lt_cmb {l : List (Nat × Nat)} (hl : ltE l) (fr : List Nat) (o : Nat × Nat) : lt2 (cmb l fr o) := lt_xs (fun _ => lt_sl (ltE_el hl _)) _
/-- What each row is of. -/
structure EO (l : List (Nat × Nat)) (s : List Row × List Nat) : Prop where
  sum : ∀ r ∈ s.1, r.1 = cmb l s.2 r.2
  top : ∀ r ∈ s.1, ∀ k, s.2.length ≤ k → hs r.2 k = false
theorem getR {rs : List Row} {m : Nat} (h : m < rs.length) : rs.getD m ((0, 0), (0, 0)) ∈ rs := by
  have : rs.getD m ((0, 0), (0, 0)) = rs[m] := by simp [List.getD, h]
  rw [this]; exact List.getElem_mem h
theorem redv_of {l : List (Nat × Nat)} {s : List Row × List Nat} (h : EO l s) (x : Nat × Nat) : ∀ m, m ≤ s.1.length → (redv s.1 x m).1 = xa x (cmb l s.2 (redv s.1 x m).2) ∧ ∀ k, s.2.length ≤ k → hs (redv s.1 x m).2 k = false
  | 0, _ => ⟨by show x = xa x (cmb l s.2 (0, 0)); rw [cmb_zero, xa_zero], fun k _ => hs_zero k⟩
  | m + 1, hm => by
    obtain ⟨i1, i2⟩ := redv_of h x m (by omega)
    have mem := getR (rs := s.1) (m := m) (by omega)
    have r1 := h.sum _ mem
    have r2 := h.top _ mem
    unfold redv
    split
    · refine ⟨?_, fun k hk => ?_⟩
      · show xa (redv s.1 x m).1 (s.1.getD m ((0, 0), (0, 0))).1 = xa x (cmb l s.2 (xa (redv s.1 x m).2 (s.1.getD m ((0, 0), (0, 0))).2))
        rw [cmb_xa, ← r1, ← xa_assoc, ← i1]
      · show hs (xa (redv s.1 x m).2 (s.1.getD m ((0, 0), (0, 0))).2) k = false
        rw [hs_xa, i2 k hk, r2 k hk]; rfl
    · exact ⟨i1, i2⟩
theorem bv_at (n k : Nat) (hn : n < 128) (hk : k < 128) : hs (bv (n : Int)) k = decide (k = n) := bv_has n k hn hk
theorem bv_high (n k : Nat) (hn : n < 128) (hk : n < k) : hs (bv (n : Int)) k = false := by
  by_cases h : k < 128
  · rw [bv_at n k hn h]; simp; omega
  · have l0 := bv_lt2 (n : Int)
    have h1 : hs (bv (n : Int)) n = true := by rw [bv_at n n hn hn]; simp
    have n0 := hs_ne h1
    have := ld_lt l0 n0
    exact hs_above l0 (by omega)
theorem EO.step {l : List (Nat × Nat)} {s : List Row × List Nat} (h : EO l s) (hn : s.2.length < 128) (i : Nat) : EO l (stp s i (el l i)) := by
  obtain ⟨q1, q2⟩ := redv_of h (el l i) s.1.length (Nat.le_refl _)
  unfold stp
  simp only
  generalize redv s.1 (el l i) s.1.length = q at *
  split
  · exact h
  · have hb : hs (bv (s.2.length : Int)) s.2.length = true := by rw [bv_at _ _ hn hn]; simp
    have new1 : q.1 = cmb l (s.2 ++ [i]) (xa q.2 (bv (s.2.length : Int))) := by
      rw [cmb_snoc, cmb_xa, hs_xa, q2 _ (Nat.le_refl _), hb, q1]
      have : cmb l s.2 (bv (s.2.length : Int)) = (0, 0) := xs_none _ fun k hk => by
        rw [bv_at _ k hn (by omega)]
        simp [show ¬ k = s.2.length by omega, sl]
      rw [this, xa_zero]
      show _ = xa (cmb l s.2 q.2) (el l i)
      rw [xa_comm]
    have new2 : ∀ k, s.2.length + 1 ≤ k → hs (xa q.2 (bv (s.2.length : Int))) k = false := fun k hk => by
      rw [hs_xa, q2 k (by omega), bv_high _ k hn (by omega)]; rfl
    have old : ∀ r ∈ s.1, r.1 = cmb l (s.2 ++ [i]) r.2 := fun r hr => by
      rw [cmb_snoc, h.top r hr _ (Nat.le_refl _), ← h.sum r hr]
      exact (xa_zero _).symm
    refine ⟨fun r hr => ?_, fun r hr k hk => ?_⟩
    · simp only [more, List.mem_append, List.mem_map, List.mem_singleton] at hr
      rcases hr with ⟨o, ho, rfl⟩ | rfl
      · unfold outv
        split
        · show xa o.1 q.1 = cmb l (s.2 ++ [i]) (xa o.2 (xa q.2 (bv (s.2.length : Int))))
          rw [cmb_xa, ← new1, ← old o ho]
        · exact old o ho
      · exact new1
    · have hk' : s.2.length + 1 ≤ k := by simpa using hk
      simp only [more, List.mem_append, List.mem_map, List.mem_singleton] at hr
      rcases hr with ⟨o, ho, rfl⟩ | rfl
      · unfold outv
        split
        · show hs (xa o.2 (xa q.2 (bv (s.2.length : Int)))) k = false
          rw [hs_xa, h.top o ho k (by omega), new2 k hk']; rfl
        · exact h.top o ho k (by omega)
      · exact new2 k hk'
theorem elm_eo {l : List (Nat × Nat)} (hl : ltE l) (h128 : l.length ≤ 128) : ∀ i, i ≤ l.length → EO l (elm l i)
  | 0, _ => ⟨fun r hr => by simp [elm] at hr, fun r hr => by simp [elm] at hr⟩
  | i + 1, h => (elm_eo hl h128 i (by omega)).step (by have := (elm_ei hl i (by omega)).le; omega) i
/-- Is it in the span of those ahead? -/
def old? (l : List (Nat × Nat)) (i : Nat) : Bool := decide (red (sms (elm l i).1) (el l i) = (0, 0))
theorem elm_succ (l : List (Nat × Nat)) (i : Nat) : (elm l (i + 1)).2 = if old? l i = true then (elm l i).2 else (elm l i).2 ++ [i] := by
  show (stp (elm l i) i (el l i)).2 = _
  unfold stp old?
  simp only [redv_all]
  by_cases h : red (sms (elm l i).1) (el l i) = (0, 0)
  · rw [if_pos h, if_pos (by simp [h])]
  · rw [if_neg h, if_neg (by simp [h])]
theorem old_iff {l : List (Nat × Nat)} (hl : ltE l) {i : Nat} (hi : i ≤ l.length) : old? l i = true ↔ Sp (l.take i) (el l i) := by
  have h := elm_ei hl i hi
  unfold old?
  rw [decide_eq_true_iff, ← red_iff h.rr, h.eqs]
/-- Is the element i among them? -/
def wch (l : List (Nat × Nat)) (o : Nat × Nat) (i : Nat) : Bool := !old? l i && hs o (elm l i).2.length
/-- The sum of them up to i. -/
def ups (l : List (Nat × Nat)) (o : Nat × Nat) (i : Nat) : Nat × Nat := cmb l (elm l i).2 o
theorem ups_zero (l : List (Nat × Nat)) (o : Nat × Nat) : ups l o 0 = (0, 0) := rfl
theorem ups_succ (l : List (Nat × Nat)) (o : Nat × Nat) (i : Nat) : ups l o (i + 1) = xa (ups l o i) (sl (wch l o i) (el l i)) := by
  unfold ups wch
  rw [elm_succ]
  cases old? l i
  · rw [if_neg (by decide), cmb_snoc]; rfl
  · rw [if_pos rfl]; exact (xa_zero _).symm
theorem ups_xs (l : List (Nat × Nat)) (o : Nat × Nat) : ∀ i, ups l o i = xs i fun j => sl (wch l o j) (el l j)
  | 0 => rfl
  | i + 1 => by rw [ups_succ, ups_xs l o i]; rfl
theorem ups_sp {l : List (Nat × Nat)} (o : Nat × Nat) : ∀ i, i ≤ l.length → Sp (l.take i) (ups l o i)
  | 0, _ => by rw [ups_zero]; exact sp_zero _
  | i + 1, h => by
    rw [ups_succ, take_el (by omega)]
    refine sp_add _ (sp_app (ups_sp o i (by omega))) ?_
    cases wch l o i
    · exact sp_zero _
    · exact sp_app' (sp_mem (show el l i ∈ [el l i] by simp))
theorem lt_ups {l : List (Nat × Nat)} (hl : ltE l) (o : Nat × Nat) (i : Nat) : lt2 (ups l o i) := lt_cmb hl _ o
theorem ltE_take {l : List (Nat × Nat)} (hl : ltE l) (i : Nat) : ltE (l.take i) := fun e he => hl e (List.mem_of_mem_take he)
/-- Has one more no more rows? -/
def in? (l : List (Nat × Nat)) (x : Nat × Nat) : Bool := decide ((rb (l ++ [x])).length = (rb l).length)
theorem in?_iff {l : List (Nat × Nat)} (hl : ltE l) {x : Nat × Nat} (hx : lt2 x) : in? l x = true ↔ Sp l x := by
  unfold in?
  rw [decide_eq_true_iff]
  exact (rb_in hl hx).symm
theorem old_in {l : List (Nat × Nat)} (hl : ltE l) {i : Nat} (hi : i ≤ l.length) : old? l i = in? (l.take i) (el l i) := by
  rw [Bool.eq_iff_iff, old_iff hl hi, in?_iff (ltE_take hl i) (ltE_el hl i)]
/-- From the last one down: it is in the sum if it is new and what is left is not in the span of those ahead. -/
theorem wch_iff {l : List (Nat × Nat)} (hl : ltE l) (o : Nat × Nat) {i : Nat} (hi : i < l.length) : wch l o i = (!in? (l.take i) (el l i) && !in? (l.take i) (ups l o (i + 1))) := by
  rw [← old_in hl (Nat.le_of_lt hi)]
  have e : wch l o i = (!old? l i && hs o (elm l i).2.length) := rfl
  cases h : old? l i
  · rw [h] at e
    rw [ups_succ]
    have s1 := ups_sp (l := l) o i (Nat.le_of_lt hi)
    have n1 : ¬ Sp (l.take i) (el l i) := fun k => by
      rw [(old_iff hl (Nat.le_of_lt hi)).2 k] at h; cases h
    cases hb : wch l o i
    · have : in? (l.take i) (xa (ups l o i) (sl false (el l i))) = true := (in?_iff (ltE_take hl i) (lt_xa (lt_ups hl o i) (lt_sl (ltE_el hl i)))).2 (by show Sp _ (xa (ups l o i) (0, 0)); rw [xa_zero]; exact s1)
      rw [this]; rfl
    · have : in? (l.take i) (xa (ups l o i) (sl true (el l i))) = false := by
        cases q : in? (l.take i) (xa (ups l o i) (sl true (el l i)))
        · rfl
        · refine absurd ?_ n1
          have k := (in?_iff (ltE_take hl i) (lt_xa (lt_ups hl o i) (lt_sl (ltE_el hl i)))).1 q
          have k2 := sp_add _ s1 k
          rw [← xa_assoc, xa_self, xa_comm, xa_zero] at k2
          exact k2
      rw [this]; rfl
  · rw [h] at e; rw [e]; rfl
end Sq
theorem elm_mem (l : List (Nat × Nat)) (p : Nat) : ∀ i, p ∈ (elm l i).2 ↔ p < i ∧ old? l p = false
  | 0 => by simp [elm]
  | i + 1 => by
    rw [elm_succ]
    cases h : old? l i
    · rw [if_neg (by decide), List.mem_append, elm_mem l p i, List.mem_singleton]
      constructor
      · rintro (⟨h1, h2⟩ | rfl)
        · exact ⟨by omega, h2⟩
        · exact ⟨by omega, h⟩
      · rintro ⟨h1, h2⟩
        by_cases e : p = i
        · exact .inr e
        · exact .inl ⟨by omega, h2⟩
    · rw [if_pos rfl, elm_mem l p i]
      constructor
      · rintro ⟨h1, h2⟩; exact ⟨by omega, h2⟩
      · rintro ⟨h1, h2⟩
        by_cases e : p = i
        · subst e; rw [h] at h2; cases h2
        · exact ⟨by omega, h2⟩
theorem elm_at (l : List (Nat × Nat)) (o : Nat × Nat) (k : Nat) : ∀ i, k < (elm l i).2.length → wch l o ((elm l i).2.getD k 0) = hs o k
  | 0, h => by simp [elm] at h
  | i + 1, h => by
    rw [elm_succ] at h ⊢
    cases hi : old? l i
    · rw [hi, if_neg (by decide)] at h
      rw [if_neg (by decide)]
      by_cases e : k < (elm l i).2.length
      · have := elm_at l o k i e
        rw [show ((elm l i).2 ++ [i]).getD k 0 = (elm l i).2.getD k 0 by simp [List.getD, List.getElem?_append_left e]]
        exact this
      · obtain rfl : k = (elm l i).2.length := by simp at h; omega
        rw [show ((elm l i).2 ++ [i]).getD (elm l i).2.length 0 = i by simp [List.getD]]
        unfold wch
        rw [hi]; rfl
    · rw [hi, if_pos rfl] at h
      rw [if_pos rfl]
      exact elm_at l o k i h
theorem wch_old {l : List (Nat × Nat)} {o : Nat × Nat} {p : Nat} (hp : p < l.length) (h : p ∉ (elm l l.length).2) : wch l o p = false := by
  unfold wch
  cases e : old? l p
  · exact absurd ((elm_mem l p l.length).2 ⟨hp, e⟩) h
  · rfl
/-- Of what x is the sum. -/
def ofv (l : List (Nat × Nat)) (x : Nat × Nat) : Nat × Nat := (redv (elm l l.length).1 x (elm l l.length).1.length).2
def wchs (l : List (Nat × Nat)) (x : Nat × Nat) : List Bool := (List.range l.length).map (wch l (ofv l x))
theorem wchs_len (l : List (Nat × Nat)) (x : Nat × Nat) : (wchs l x).length = l.length := by simp [wchs]
theorem wchs_at (l : List (Nat × Nat)) (x : Nat × Nat) {p : Nat} (h : p < l.length) : (wchs l x).getD p false = wch l (ofv l x) p := by simp [wchs, List.getD, h]
theorem in?_red {l : List (Nat × Nat)} (hl : ltE l) {x : Nat × Nat} (hx : lt2 x) : in? l x = decide ((redv (elm l l.length).1 x (elm l l.length).1.length).1 = (0, 0)) := by
  rw [redv_all, Bool.eq_iff_iff, decide_eq_true_iff, in?_iff hl hx, elm_in hl x]
theorem take_ns (fr : List Nat) (k : Nat) (h : k < fr.length) : fr.take (k + 1) = fr.take k ++ [fr.getD k 0] := by
  rw [List.take_succ_eq_append_getElem h]; simp [h]
theorem xa_eq_zero {a b : Nat × Nat} (h : xa a b = (0, 0)) : a = b := by
  have h2 : xa (xa a b) b = xa (0, 0) b := by rw [h]
  rwa [xa_assoc, xa_self, xa_zero, xa_comm, xa_zero] at h2
/-- In the span, it is the sum of those that are told. -/
theorem ups_all {l : List (Nat × Nat)} (hl : ltE l) (h128 : l.length ≤ 128) {x : Nat × Nat} (hx : lt2 x) (h : in? l x = true) : ups l (ofv l x) l.length = x := by
  rw [in?_red hl hx, decide_eq_true_iff] at h
  have := (redv_of (elm_eo hl h128 l.length (Nat.le_refl _)) x _ (Nat.le_refl _)).1
  rw [h] at this
  exact (xa_eq_zero this.symm).symm

/-- Bools in memory. -/
structure QRow (w : World) (a : Option Addr) (bs : List Bool) : Prop where
  cells : ∀ i, i < bs.length → ∃ b off : Nat, a = some ⟨b, off, none⟩ ∧ b < w.heap.size ∧ w.cell? ⟨b, off + i, none⟩ = some (.bool (bs.getD i false))
theorem QRow.below {w w' : World} {a : Option Addr} {bs : List Bool} (h : QRow w a bs) (hb : Below w.heap.size w w') : QRow w' a bs := ⟨fun i hi => by
  obtain ⟨b, off, h1, h2, h3⟩ := h.cells i hi
  exact ⟨b, off, h1, Nat.lt_of_lt_of_le h2 hb.size, keepc hb h3⟩⟩
theorem row_q {w : World} {g : Nat} {T : TypeId} {f : Nat → Value} {bs : List Bool} (R : w.rowIs g T bs.length f) (F : ∀ p, p < bs.length → f p = .bool (bs.getD p false)) : QRow w (some ⟨g, 0, none⟩) bs := ⟨fun i hi => by
  have c := R.cell hi
  rw [F i hi] at c
  exact ⟨g, 0, rfl, R.lt, by rw [Nat.zero_add]; exact c⟩⟩
theorem own_rowQ {w : World} {base : Nat} {T : TypeId} {g n : Nat} {z : Value} (h : w.ownsRow base T 1 (.slice (some ⟨g, 0, none⟩) n n) n (List.replicate n z)) : ∃ f, w.rowIs g T n f ∧ ∀ p, p < n → f p = z := by
  have hc := h
  rcases h.2 with ⟨h1, _⟩ | ⟨g', cap, cur, e, _, hg, _, _, hs, _⟩
  · injection h1 with h2; cases h2
  · injection e with e1 e2 e3
    obtain rfl : g = g' := by injection e1 with e4; injection e4
    subst e3
    have R : w.rowIs g T n (fun i => cur.getD i undef) := ⟨cur, hg, by omega, fun i hi => by
      show cur[i]? = some (cur.getD i undef)
      rw [Array.getD_eq_getD_getElem?, Array.getElem?_eq_getElem (by omega)]; rfl⟩
    refine ⟨_, R, fun p hp => ?_⟩
    have c1 := R.cell hp
    have c2 := hc.cellAt p (by omega)
    rw [c1, List.getElem?_replicate, if_pos hp] at c2
    exact Option.some.inj c2
theorem info_qbool : ∃ i, Try.prog.info? 4 = some i ∧ i.zero = some (.bool false) ∧ i.size = 1 ∧ i.bytes = 1 := by
  have h : (Try.prog.info? 4).map (fun i => (i.zero, i.size, i.bytes)) = some (some (.bool false), 1, 1) := by kernel_rfl
  obtain ⟨i, hi, he⟩ := Option.map_eq_some_iff.1 h
  simp only [Prod.mk.injEq] at he
  exact ⟨i, hi, he.1, he.2.1, he.2.2⟩
/-- What Solve holds when the row is made. -/
structure Sv (W w : World) (g8 g : Nat) (a1 : Option Addr) (fr : List Nat) (o : Nat × Nat) (n : Nat) (f : Nat → Value) : Prop where
  i : IRow w a1 fr
  x1 : w.cell? ⟨g8, 0, none⟩ = some (.int .u64 (o.1 : Int))
  x0 : w.cell? ⟨g8, 1, none⟩ = some (.int .u64 (o.2 : Int))
  R : w.rowIs g 4 n f
  d : Below W.heap.size W w
  b8 : g8 < g
  bg : W.heap.size ≤ g
  bi : ∀ b off, a1 = some ⟨b, off, none⟩ → 0 < fr.length → b < g
theorem Sv.below {W w w' : World} {g8 g : Nat} {a1 : Option Addr} {fr : List Nat} {o : Nat × Nat} {n : Nat} {f : Nat → Value} (h : Sv W w g8 g a1 fr o n f) (hb : Below w.heap.size w w') : Sv W w' g8 g a1 fr o n f :=
  ⟨h.i.below hb, keepc hb h.x1, keepc hb h.x0, h.R.of_block (hb.block _ h.R.lt), h.d.trans (hb.mono h.d.size), h.b8, h.bg, h.bi⟩
theorem Sv.put {W w : World} {g8 g : Nat} {a1 : Option Addr} {fr : List Nat} {o : Nat × Nat} {n : Nat} {f : Nat → Value} (h : Sv W w g8 g a1 fr o n f) (j : Nat) (v : Value) : Sv W (w.setCell ⟨g, j, none⟩ v) g8 g a1 fr o n (fun p => if p = j then v else f p) :=
  ⟨⟨fun k hk => by
      obtain ⟨b, off, e, hb, c⟩ := h.i.cells k hk
      have n1 := h.bi b off e (by omega)
      exact ⟨b, off, e, by simpa using hb, by rw [World.cell?_setCell_other _ _ _ _ (fun e => by injection e with e; omega)]; exact c⟩⟩,
    by rw [World.cell?_setCell_other _ _ _ _ (fun e => by injection e with e; have := h.b8; omega)]; exact h.x1,
    by rw [World.cell?_setCell_other _ _ _ _ (fun e => by injection e with e; have := h.b8; omega)]; exact h.x0,
    h.R.set j _, h.d.setCell h.bg _, h.b8, h.bg, h.bi⟩
set_option maxRecDepth 100000 in
set_option maxHeartbeats 4000000 in
theorem solve_yes (a : Option Addr) (cap : Nat) (l : List (Nat × Nat)) (hl : ltE l) (h128 : l.length ≤ 128) (x : Nat × Nat) (hx : lt2 x) (hin : in? l x = true) (W : World) (hr : ERow W a l) :
    Calls Try.prog 44 #[.slice a l.length cap, .agg #[.int .u64 (x.1 : Int), .int .u64 (x.2 : Int)]] W fun e w' => ∃ g, e = .returned (.tuple #[.slice (some ⟨g, 0, none⟩) l.length l.length, .bool true]) ∧ QRow w' (some ⟨g, 0, none⟩) (wchs l x) ∧ W.heap.size ≤ g ∧ Below W.heap.size W w' := by
  have HE : Hid (∀ w, Below W.heap.size W w → Calls Try.prog 54 #[.slice a l.length cap] w fun e w' => ∃ a0 n0 a1 n1, e = .returned (.agg #[.slice a0 (elm l l.length).1.length n0, .slice a1 (elm l l.length).2.length n1]) ∧ IRow w' a1 (elm l l.length).2 ∧
      (∀ w2, Below w'.heap.size w' w2 → Calls Try.prog 55 #[.agg #[.slice a0 (elm l l.length).1.length n0, .slice a1 (elm l l.length).2.length n1], .agg #[.int .u64 (x.1 : Int), .int .u64 (x.2 : Int)]] w2 fun e w3 => e = .returned (.tuple #[.agg #[.int .u64 0, .int .u64 0], .agg #[.int .u64 ((ofv l x).1 : Int), .int .u64 ((ofv l x).2 : Int)]]) ∧ Below w2.heap.size w2 w3) ∧ Below w.heap.size w w') := fun w hw => by
    refine (elim_red a cap l hl h128 w (hr.below hw)).mono ?_
    rintro e w' ⟨a0, n0, a1, n1, rfl, _, o1, h, hb⟩
    refine ⟨a0, n0, a1, n1, rfl, own_irow o1, fun w2 h2 => ?_, hb⟩
    have k := h w2 h2 x hx
    rw [in?_red hl hx, decide_eq_true_iff] at hin
    rwa [hin] at k
  have hO : lt2 (ofv l x) := by
    have h := elm_ei hl l.length (Nat.le_refl _)
    exact (redv_lt (ltR_of h.rr h.of) x hx.1 hx.2 _ (Nat.le_refl _)).2
  have HH : Hid (∀ k, k < (elm l l.length).2.length → Ret 56 #[.agg #[.int .u64 ((ofv l x).1 : Int), .int .u64 ((ofv l x).2 : Int)], .int .i64 (k : Int)] (.bool (wch l (ofv l x) ((elm l l.length).2.getD k 0)))) := fun k hk => by
    have h := elm_ei hl l.length (Nat.le_refl _)
    rw [elm_at l _ k _ hk]
    exact shas_any _ k hO.1 hO.2 (by have := h.le; omega)
  have HM : Hid (∀ k, k < (elm l l.length).2.length → (elm l l.length).2.getD k 0 < l.length) := fun k hk => by
    have : (elm l l.length).2.getD k 0 ∈ (elm l l.length).2 := by
      rw [show (elm l l.length).2.getD k 0 = (elm l l.length).2[k] by simp [List.getD, hk]]; exact List.getElem_mem hk
    exact ((elm_mem l _ _).1 this).1
  have HZ : Hid (∀ p, p < l.length → p ∉ (elm l l.length).2 → wch l (ofv l x) p = false) := fun p hp h => wch_old hp h
  have HQ : Hid (∀ p, p < l.length → (wchs l x).getD p false = wch l (ofv l x) p) := fun p hp => wchs_at l x hp
  have HQL : Hid ((wchs l x).length = l.length) := wchs_len l x
  have hfl : (elm l l.length).2.length ≤ 128 := by
    have h := elm_ei hl l.length (Nat.le_refl _)
    have := h.le; omega
  obtain ⟨i0, hi0, hz0, hz1, hz2⟩ := info_qbool
  have HI : Hid (Try.prog.info? 4 = some i0 ∧ i0.zero = some (.bool false) ∧ i0.size = 1 ∧ i0.bytes = 1) := ⟨hi0, hz0, hz1, hz2⟩
  clear hl hr hin hO hi0 hz0 hz1 hz2 hx
  generalize wchs l x = bs at *
  generalize wch l (ofv l x) = wc at *
  generalize ofv l x = o at *
  generalize (elm l l.length).1.length = N1 at *
  generalize (elm l l.length).2 = fr at *
  generalize hNF : fr.length = NF at *
  have HNF : Hid (fr.length = NF) := hNF
  clear hNF
  generalize hN : l.length = N at *
  clear hN
  have B0 : Below W.heap.size W (W.alloc (Obj.cells #[.int .u64 (x.1 : Int), .int .u64 (x.2 : Int)] 24)) := by go_grown
  have H0 := hidT (HE.out _ B0)
  have B0 := hidT B0
  clear HE
  go_enter Try.func44, Try.ntmps44
  go_upto_region 2 with (go_at_call 54; refine H0.out.mono ?_; rintro e w1 ⟨a0, n0, a1, n1, rfl, hi1, hred, hb1⟩; have K1 : Hid (IRow w1 a1 fr ∧ Below W.heap.size W w1 ∧ w1.cell? ⟨W.heap.size, 0, none⟩ = some (.int .u64 (x.1 : Int)) ∧ w1.cell? ⟨W.heap.size, 1, none⟩ = some (.int .u64 (x.2 : Int))) := ⟨hi1, B0.out.trans (hb1.mono B0.out.size), keepc hb1 (by simp [go_sem]), keepc hb1 (by simp [go_sem])⟩; have K2 := hidT hred; clear hi1 hred hb1 H0)
  have B1 : Below w1.heap.size w1 (w1.alloc (Obj.cells #[.slice a0 N1 n0, .slice a1 NF n1] 81)) := by go_grown
  have L0 : Hid ((w1.alloc (Obj.cells #[.slice a0 N1 n0, .slice a1 NF n1] 81)).cell? ⟨w1.heap.size, 0, none⟩ = some (.slice a0 N1 n0) ∧ (w1.alloc (Obj.cells #[.slice a0 N1 n0, .slice a1 NF n1] 81)).cell? ⟨w1.heap.size, 1, none⟩ = some (.slice a1 NF n1) ∧ Below W.heap.size W (w1.alloc (Obj.cells #[.slice a0 N1 n0, .slice a1 NF n1] 81)) ∧ IRow (w1.alloc (Obj.cells #[.slice a0 N1 n0, .slice a1 NF n1] 81)) a1 fr) := ⟨by simp [go_sem], by simp [go_sem], K1.out.2.1.trans (B1.mono K1.out.2.1.size), K1.out.1.below B1⟩
  have x1 := keepc B1 K1.out.2.2.1
  have x0 := keepc B1 K1.out.2.2.2
  have K3 := hidT (K2.out _ B1)
  clear K1 K2 B1 B0
  generalize w1.alloc (Obj.cells #[.slice a0 N1 n0, .slice a1 NF n1] 81) = w3 at *
  generalize w1.heap.size = g6 at *
  have r0 := L0.out.1
  have r1 := L0.out.2.1
  go_upto_region 3 with (go_at_call 55; refine K3.out.mono ?_; rintro e w4 ⟨rfl, hb4⟩; have K4 : Hid (w4.cell? ⟨g6, 1, none⟩ = some (.slice a1 NF n1) ∧ IRow w4 a1 fr ∧ Below W.heap.size W w4) := ⟨keepc hb4 L0.out.2.1, L0.out.2.2.2.below hb4, L0.out.2.2.1.trans (hb4.mono L0.out.2.2.1.size)⟩; clear hb4 L0 K3 r0 r1 x1 x0)
  have W5 : Hid (∀ w5, w5 = (w4.alloc (Obj.cells #[.int .u64 0, .int .u64 0] 24)).alloc (Obj.cells #[.int .u64 (o.1 : Int), .int .u64 (o.2 : Int)] 24) → w5.cell? ⟨w4.heap.size, 0, none⟩ = some (.int .u64 0) ∧ w5.cell? ⟨w4.heap.size, 1, none⟩ = some (.int .u64 0) ∧ w5.cell? ⟨w4.heap.size + 1, 0, none⟩ = some (.int .u64 (o.1 : Int)) ∧ w5.cell? ⟨w4.heap.size + 1, 1, none⟩ = some (.int .u64 (o.2 : Int)) ∧ w5.heap.size = w4.heap.size + 2 ∧ Below w4.heap.size w4 w5) := fun w5 e => by
    subst e
    exact ⟨by simp [go_sem], by simp [go_sem], by simp [go_sem], by simp [go_sem], by simp [go_sem], ((Below.refl _ _).alloc (Nat.le_refl _) _).alloc (by simp) _⟩
  obtain ⟨w5, hw5⟩ : ∃ w5, w5 = (w4.alloc (Obj.cells #[.int .u64 0, .int .u64 0] 24)).alloc (Obj.cells #[.int .u64 (o.1 : Int), .int .u64 (o.2 : Int)] 24) := ⟨_, rfl⟩
  rw [← hw5]
  obtain ⟨l1, l0, o1, o0, hsz, hb5⟩ := W5.out w5 hw5
  have K5 : Hid (w5.cell? ⟨g6, 1, none⟩ = some (.slice a1 NF n1) ∧ IRow w5 a1 fr ∧ Below W.heap.size W w5 ∧ (∀ b off, a1 = some ⟨b, off, none⟩ → 0 < fr.length → b < w4.heap.size)) := ⟨keepc hb5 K4.out.1, K4.out.2.1.below hb5, K4.out.2.2.trans (hb5.mono K4.out.2.2.size), fun b off e h0 => by
    obtain ⟨b', off', e', hb', _⟩ := K4.out.2.1.cells 0 h0
    rw [e] at e'; injection e' with e'; injection e' with e1 _; omega⟩
  have O5 : Hid (w5.cell? ⟨w4.heap.size + 1, 0, none⟩ = some (.int .u64 (o.1 : Int)) ∧ w5.cell? ⟨w4.heap.size + 1, 1, none⟩ = some (.int .u64 (o.2 : Int)) ∧ W.heap.size ≤ w4.heap.size ∧ w5.heap.size = w4.heap.size + 2) := ⟨o1, o0, K4.out.2.2.size, hsz⟩
  have r1 := K5.out.1
  clear W5 hw5 hb5 K4 hsz o1 o0
  generalize w4.heap.size = g7 at *
  go_wp2_with (at_make; refine wpList_make_full _ rfl _ _ 53 rfl 0 4 i0 (.bool false) 1 Try.underlying53 HI.out.1 HI.out.2.1 HI.out.2.2.1 .i64 .i64 _ _ N rfl rfl rfl rfl (by rw [HI.out.2.2.2]; omega) (by simp only [maxLen]; omega) (Nat.zero_le _) ?_; intro w6 own6 hgr6; have b6 : Below w5.heap.size w5 w6 := (Below.refl _ _).grown hgr6 (Nat.le_refl _) (fun k hk => by cases hk); have r2 := keepc b6 r1; have P6 := hidT (And.intro b6 own6); clear hgr6 b6 own6 r1 l1 l0)
  obtain ⟨b6, own6⟩ := P6.out
  rw [Nat.mul_one, show (Value.bool false).cells = #[Value.bool false] from rfl, toList_madeCells_one] at own6
  obtain ⟨f0, R0, Z0⟩ := own_rowQ own6
  have S0 : Hid (Sv W w6 (g7 + 1) w5.heap.size a1 fr o N f0) := ⟨K5.out.2.1.below b6, keepc b6 O5.out.1, keepc b6 O5.out.2.1, R0, K5.out.2.2.1.trans (b6.mono K5.out.2.2.1.size), by have := O5.out.2.2.2; omega, K5.out.2.2.1.size, fun b off e h0 => by have := K5.out.2.2.2 b off e h0; have := O5.out.2.2.2; omega⟩
  have Z0 := hidT Z0
  clear P6 b6 own6 R0 K5 O5 HI r2
  generalize w5.heap.size = g at *
  go_loopw [29] (fun u wr => ∃ (k : Nat) (f : Nat → Value), k ≤ NF ∧ u = .int .i64 k ∧ Hid (Sv W wr (g7 + 1) g a1 fr o N f ∧ ∀ p, p < N → f p = .bool (if p ∈ fr.take k then wc p else false))) (fun u _ => NF - (intOf u).toNat)
  case atStart => exact ⟨0, f0, Nat.zero_le _, rfl, S0.out, fun p hp => by rw [Z0.out p hp]; simp⟩
  case round =>
    obtain ⟨k, f, hk, rfl, HK⟩ := hrel
    clear S0 Z0
    by_cases hlt : k < NF
    · obtain ⟨b, off, rfl, hb, c0⟩ := HK.out.1.i.cells k (by rw [HNF.out]; exact hlt)
      have y1 := HK.out.1.x1
      have y0 := HK.out.1.x0
      have hj := HM.out k hlt
      have H1 := hidT (HH.out k hlt)
      have HT : Hid (fr.take (k + 1) = fr.take k ++ [fr.getD k 0]) := take_ns fr k (by rw [HNF.out]; exact hlt)
      have k1 : (k : Int) < (NF : Int) := by omega
      clear hb HH HM HZ HQ
      generalize fr.getD k 0 = j at *
      have j1 : (j : Int) < (N : Int) := by omega
      generalize hv : wc j = v at *
      have HV : Hid (wc j = v) := hv
      clear hv
      go_wp2_with (go_at_call 56; refine (H1.out.go _).mono ?_; rintro e w7 ⟨rfl, hb7⟩; have K7 := hidT (And.intro (HK.out.1.below hb7) HK.out.2); have z1 := K7.out.1.R.cell (i := j) hj; have z0 := K7.out.1.R.frozen j; clear hb7 HK c0 y1 y0)
      refine ⟨⟨k + 1, _, hlt, by simp, K7.out.1.put j (.bool v), fun p hp => ?_⟩, by simp [intOf]; omega⟩
      rw [HT.out]
      by_cases hpj : p = j
      · subst hpj; simp [HV.out]
      · rw [if_neg hpj, K7.out.2 p hp]; simp [hpj]
    · obtain rfl : k = NF := by omega
      have hb := HK.out.1.bg
      have HE : Hid (QRow wr (some ⟨g, 0, none⟩) bs ∧ W.heap.size ≤ g ∧ Below W.heap.size W wr) := ⟨row_q (by rw [HQL.out]; exact HK.out.1.R) fun p hp => by
        rw [HQL.out] at hp
        rw [HK.out.2 p hp, HQ.out p hp, List.take_of_length_le (by rw [HNF.out]; exact Nat.le_refl _)]
        by_cases h : p ∈ fr
        · rw [if_pos h]
        · rw [if_neg h, HZ.out p hp h], hb, HK.out.1.d⟩
      clear HK HH HM HZ HQ
      go_wp2
      refine bodyPost_ret (v := .tuple #[.slice (some ⟨g, 0, none⟩) N N, .bool true]) (by simp [results, Try.results44, go_sem, *]) rfl ⟨g, rfl, HE.out⟩
set_option maxRecDepth 100000 in
set_option maxHeartbeats 4000000 in
theorem solve_no (a : Option Addr) (cap : Nat) (l : List (Nat × Nat)) (hl : ltE l) (h128 : l.length ≤ 128) (x : Nat × Nat) (hx : lt2 x) (hin : in? l x = false) (W : World) (hr : ERow W a l) :
    Calls Try.prog 44 #[.slice a l.length cap, .agg #[.int .u64 (x.1 : Int), .int .u64 (x.2 : Int)]] W fun e w' => e = .returned (.tuple #[.slice none 0 0, .bool false]) ∧ Below W.heap.size W w' := by
  have HE : Hid (∀ w, Below W.heap.size W w → Calls Try.prog 54 #[.slice a l.length cap] w fun e w' => ∃ a0 n0 a1 n1, e = .returned (.agg #[.slice a0 (elm l l.length).1.length n0, .slice a1 (elm l l.length).2.length n1]) ∧
      (∀ w2, Below w'.heap.size w' w2 → Calls Try.prog 55 #[.agg #[.slice a0 (elm l l.length).1.length n0, .slice a1 (elm l l.length).2.length n1], .agg #[.int .u64 (x.1 : Int), .int .u64 (x.2 : Int)]] w2 fun e w3 => e = .returned (.tuple #[.agg #[.int .u64 ((redv (elm l l.length).1 x (elm l l.length).1.length).1.1 : Int), .int .u64 ((redv (elm l l.length).1 x (elm l l.length).1.length).1.2 : Int)], .agg #[.int .u64 ((redv (elm l l.length).1 x (elm l l.length).1.length).2.1 : Int), .int .u64 ((redv (elm l l.length).1 x (elm l l.length).1.length).2.2 : Int)]]) ∧ Below w2.heap.size w2 w3) ∧ Below w.heap.size w w') := fun w hw => by
    refine (elim_red a cap l hl h128 w (hr.below hw)).mono ?_
    rintro e w' ⟨a0, n0, a1, n1, rfl, _, o1, h, hb⟩
    exact ⟨a0, n0, a1, n1, rfl, fun w2 h2 => h w2 h2 x hx, hb⟩
  have hne : ¬ (redv (elm l l.length).1 x (elm l l.length).1.length).1 = (0, 0) := by
    rw [in?_red hl hx, decide_eq_false_iff_not] at hin; exact hin
  clear hl hr hin hx h128
  generalize redv (elm l l.length).1 x (elm l l.length).1.length = q at *
  obtain ⟨⟨lh, ll⟩, o⟩ := q
  have hne : ¬ (lh = 0 ∧ ll = 0) := fun h => hne (by rw [h.1, h.2])
  simp only at HE
  generalize (elm l l.length).1.length = N1 at *
  generalize (elm l l.length).2.length = NF at *
  generalize l.length = N at *
  have B0 : Below W.heap.size W (W.alloc (Obj.cells #[.int .u64 (x.1 : Int), .int .u64 (x.2 : Int)] 24)) := by go_grown
  have H0 := hidT (HE.out _ B0)
  have B0 := hidT B0
  clear HE
  go_enter Try.func44, Try.ntmps44
  go_upto_region 2 with (go_at_call 54; refine H0.out.mono ?_; rintro e w1 ⟨a0, n0, a1, n1, rfl, hred, hb1⟩; have K1 : Hid (Below W.heap.size W w1 ∧ w1.cell? ⟨W.heap.size, 0, none⟩ = some (.int .u64 (x.1 : Int)) ∧ w1.cell? ⟨W.heap.size, 1, none⟩ = some (.int .u64 (x.2 : Int))) := ⟨B0.out.trans (hb1.mono B0.out.size), keepc hb1 (by simp [go_sem]), keepc hb1 (by simp [go_sem])⟩; have K2 := hidT hred; clear hred hb1 H0)
  have B1 : Below w1.heap.size w1 (w1.alloc (Obj.cells #[.slice a0 N1 n0, .slice a1 NF n1] 81)) := by go_grown
  have L0 : Hid ((w1.alloc (Obj.cells #[.slice a0 N1 n0, .slice a1 NF n1] 81)).cell? ⟨w1.heap.size, 0, none⟩ = some (.slice a0 N1 n0) ∧ (w1.alloc (Obj.cells #[.slice a0 N1 n0, .slice a1 NF n1] 81)).cell? ⟨w1.heap.size, 1, none⟩ = some (.slice a1 NF n1) ∧ Below W.heap.size W (w1.alloc (Obj.cells #[.slice a0 N1 n0, .slice a1 NF n1] 81))) := ⟨by simp [go_sem], by simp [go_sem], K1.out.1.trans (B1.mono K1.out.1.size)⟩
  have x1 := keepc B1 K1.out.2.1
  have x0 := keepc B1 K1.out.2.2
  have K3 := hidT (K2.out _ B1)
  clear K1 K2 B1 B0
  generalize w1.alloc (Obj.cells #[.slice a0 N1 n0, .slice a1 NF n1] 81) = w3 at *
  generalize w1.heap.size = g6 at *
  have r0 := L0.out.1
  have r1 := L0.out.2.1
  go_upto_region 3 with (go_at_call 55; refine K3.out.mono ?_; rintro e w4 ⟨rfl, hb4⟩; have K4 : Hid (Below W.heap.size W w4) := L0.out.2.2.trans (hb4.mono L0.out.2.2.size); clear hb4 L0 K3 r0 r1 x1 x0)
  have W5 : Hid (∀ w5, w5 = (w4.alloc (Obj.cells #[.int .u64 (lh : Int), .int .u64 (ll : Int)] 24)).alloc (Obj.cells #[.int .u64 (o.1 : Int), .int .u64 (o.2 : Int)] 24) → w5.cell? ⟨w4.heap.size, 0, none⟩ = some (.int .u64 (lh : Int)) ∧ w5.cell? ⟨w4.heap.size, 1, none⟩ = some (.int .u64 (ll : Int)) ∧ Below w4.heap.size w4 w5) := fun w5 e => by
    subst e
    exact ⟨by simp [go_sem], by simp [go_sem], ((Below.refl _ _).alloc (Nat.le_refl _) _).alloc (by simp) _⟩
  obtain ⟨w5, hw5⟩ : ∃ w5, w5 = (w4.alloc (Obj.cells #[.int .u64 (lh : Int), .int .u64 (ll : Int)] 24)).alloc (Obj.cells #[.int .u64 (o.1 : Int), .int .u64 (o.2 : Int)] 24) := ⟨_, rfl⟩
  rw [← hw5]
  obtain ⟨l1, l0, hb5⟩ := W5.out w5 hw5
  have K5 : Hid (Below W.heap.size W w5) := K4.out.trans (hb5.mono K4.out.size)
  clear W5 hw5 hb5 K4
  generalize w4.heap.size = g7 at *
  by_cases hz : lh = 0
  · subst hz
    have hne2 : ¬ ll = 0 := fun h => hne ⟨rfl, h⟩
    clear hne
    go_wp2
    refine bodyPost_ret (v := .tuple #[.slice none 0 0, .bool false]) (by simp [results, Try.results44, go_sem, *]) rfl ⟨rfl, K5.out⟩
  · clear hne
    go_wp2
    refine bodyPost_ret (v := .tuple #[.slice none 0 0, .bool false]) (by simp [results, Try.results44, go_sem, *]) rfl ⟨rfl, K5.out⟩
end Go.Proofs.Ytakaconhoodigaa
