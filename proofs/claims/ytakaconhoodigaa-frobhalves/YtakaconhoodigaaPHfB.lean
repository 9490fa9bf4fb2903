/- Halves, no Go in sight: x x + x goes over sums; the trace of it is 0; an element of trace 0 is a sum of what the bits make. -/
import Derived.Test.YtakaconhoodigaaHfS
import Derived.Test.YtakaconhoodigaaFyA
namespace Go.Proofs.Ytakaconhoodigaa
open Cb Rg Sq Fr
open Tw (pm)
namespace Hf

theorem fall_all : ∀ (n : Nat) (L : List Nat), L.Pairwise (fun a b => b < a) → (∀ a ∈ L, a < n) → L.length = n → ∀ b, b < n → b ∈ L
  | 0, _, _, _, _, b, hb => absurd hb (Nat.not_lt_zero b)
  | n + 1, [], _, _, hl, _, _ => by simp at hl
  | n + 1, a :: L, hp, ha, hl, b, hb => by
    obtain ⟨h1, h2⟩ := List.pairwise_cons.1 hp
    have han := ha a (by simp)
    have ih := fall_all n L h2 (fun c hc => by have := h1 c hc; omega) (by simpa using hl)
    by_cases e : b < n
    · exact List.mem_cons_of_mem _ (ih b e)
    · obtain rfl : b = n := by omega
      have : a = b := by
        rcases b with _ | k
        · omega
        · have := h1 k (ih k (by omega)); omega
      rw [this]; simp
/-- One less than can be: all but one. -/
theorem fall_but : ∀ (n : Nat) (L : List Nat), L.Pairwise (fun a b => b < a) → (∀ a ∈ L, a < n + 1) → L.length = n → ∃ q, q < n + 1 ∧ ∀ b, b < n + 1 → b = q ∨ b ∈ L
  | 0, _, _, _, _ => ⟨0, by omega, fun b hb => .inl (by omega)⟩
  | n + 1, [], _, _, hl => by simp at hl
  | n + 1, a :: L, hp, ha, hl => by
    obtain ⟨h1, h2⟩ := List.pairwise_cons.1 hp
    have han := ha a (by simp)
    by_cases e : a = n + 1
    · subst e
      obtain ⟨q, hq, h⟩ := fall_but n L h2 (fun c hc => h1 c hc) (by simpa using hl)
      refine ⟨q, by omega, fun b hb => ?_⟩
      by_cases eb : b = n + 1
      · right; rw [eb]; simp
      · rcases h b (by omega) with k | k
        · exact .inl k
        · exact .inr (List.mem_cons_of_mem _ k)
    · have h := fall_all (n + 1) (a :: L) hp (fun c hc => by
        rcases List.mem_cons.1 hc with rfl | hc
        · omega
        · have := h1 c hc; omega) hl
      exact ⟨n + 1, by omega, fun b hb => by
        by_cases eb : b = n + 1
        · exact .inl eb
        · exact .inr (h b (by omega))⟩
theorem lng_le {x : Nat × Nat} (hx : lt2 x) {n : Nat} (h : ∀ b, n ≤ b → hs x b = false) : lngE x ≤ n := by
  by_cases h0 : x = (0, 0)
  · subst h0; exact Nat.zero_le _
  · rw [lng_ld hx h0]
    rcases Nat.lt_or_ge (ld x) n with k | k
    · exact k
    · have := hs_ld hx h0
      rw [h _ k] at this; cases this
/-- An element's square and itself. -/
def fi (x : Nat × Nat) : Nat × Nat := xa (sq x) x
theorem lt_fi {x : Nat × Nat} (h : lt2 x) : lt2 (fi x) := lt_xa (lt_sqv h 1) h
theorem fi_xa {a b : Nat × Nat} (ha : lt2 a) (hb : lt2 b) : fi (xa a b) = xa (fi a) (fi b) := by
  unfold fi
  rw [sq_xa ha hb, xa_assoc, xa_assoc]
  congr 1
  rw [xa_left (sq b) a b]
theorem fi_zero : fi (0, 0) = (0, 0) := by
  unfold fi
  rw [sq_zero]; exact xa_self _
theorem fi_one : fi (0, 1) = (0, 0) := by
  unfold fi
  rw [sq_one]; exact xa_self _
theorem fi_sl (b : Bool) (x : Nat × Nat) : fi (sl b x) = sl b (fi x) := by
  cases b
  · exact fi_zero
  · rfl
theorem fi_xs {f : Nat → Nat × Nat} (hf : ∀ i, lt2 (f i)) : ∀ n, fi (xs n f) = xs n fun i => fi (f i)
  | 0 => fi_zero
  | n + 1 => by
    simp only [xs]
    rw [fi_xa (lt_xs hf n) (hf n), fi_xs hf n]
theorem fi_none {x : Nat × Nat} (hx : lt2 x) (h : fi x = (0, 0)) : x = (0, 0) ∨ x = (0, 1) := by
  have e : sq x = x := xa_eq_zero h
  have o := fixed_of (j := 0) (by decide) hx e
  have o' := (ofB_iff 0 x.1 x.2 (by decide)).1 o
  rcases o' with h7 | ⟨h0, hl⟩
  · cases h7
  · have h2 : x.2 < 2 := by simpa using hl
    have : x.2 = 0 ∨ x.2 = 1 := by omega
    rcases this with h3 | h3
    · exact .inl (Prod.ext (by exact_mod_cast h0) h3)
    · exact .inr (Prod.ext (by exact_mod_cast h0) h3)
/-- The trace over level 0. -/
def tr (k : Nat) (a : Nat × Nat) : Nat × Nat := tn xa (0, 0) k 0 a
theorem tr_xa (k : Nat) {a b : Nat × Nat} (la : lt2 a) (lb : lt2 b) : tr k (xa a b) = xa (tr k a) (tr k b) := by
  unfold tr tn
  rw [← fo_op mon_add]
  exact fo_congr _ fun i _ => goes_add.2 a b _ la lb
theorem tr_zero (k : Nat) : tr k (0, 0) = (0, 0) := by
  have h := tr_xa k lt_zero lt_zero
  rw [xa_self, xa_self] at h
  exact h
theorem lt_tr {k : Nat} {a : Nat × Nat} (la : lt2 a) : lt2 (tr k a) := lt_tn mon_add la k 0
theorem tr_sq {k : Nat} (hk : k < 8) {a : Nat × Nat} (la : lt2 a) (oa : ofE k a) : tr k (sq a) = tr k a := by
  have h1 : tr k (sq a) = sq (tr k a) := by
    show fo xa (0, 0) (2 ^ (k - 0)) (fun i => sqv (sqv a 1) (2 ^ 0 * i)) = sqv (fo xa (0, 0) (2 ^ (k - 0)) fun i => sqv a (2 ^ 0 * i)) 1
    rw [sqv_fo mon_add goes_add (fun _ => lt_sqv la _)]
    refine fo_congr _ fun i _ => ?_
    rw [sqv_sqv la, sqv_sqv la, Nat.add_comm]
  rw [h1]
  exact tn_fixed mon_add goes_add hk (Nat.zero_le k) la oa
theorem tr_fi {k : Nat} (hk : k < 8) {a : Nat × Nat} (la : lt2 a) (oa : ofE k a) : tr k (fi a) = (0, 0) := by
  show tr k (xa (sqv a 1) a) = _
  rw [tr_xa k (lt_sqv la 1) la, show tr k (sqv a 1) = tr k a from tr_sq hk la oa]; exact xa_self _
theorem tr_sp {k : Nat} : ∀ {l : List (Nat × Nat)} {x : Nat × Nat}, lt2 x → (∀ e ∈ l, lt2 e ∧ tr k e = (0, 0)) → Sp l x → tr k x = (0, 0)
  | [], x, _, _, h => by
    have e : x = (0, 0) := h
    subst e; exact tr_zero k
  | a :: l, x, lx, hl, h => by
    have h' : ∀ e ∈ l, lt2 e ∧ tr k e = (0, 0) := fun e he => hl e (by simp [he])
    rcases h with h | h
    · exact tr_sp lx h' h
    · have ha := hl a (by simp)
      have := tr_sp (lt_xa lx ha.1) h' h
      rw [tr_xa k lx ha.1, ha.2, xa_zero] at this
      exact this
/-- Some element of each level has the trace 1. -/
theorem d7_fo (g : Nat × Nat) : ∀ n, Tw.d7 (fo xa (0, 0) n fun i => sqv g (2 ^ 0 * i)).1 (fo xa (0, 0) n fun i => sqv g (2 ^ 0 * i)).2 = Tw.trs 7 n (Tw.d7 g.1 g.2)
  | 0 => Tw.d7_zero
  | n + 1 => by
    show Tw.d7 ((fo xa (0, 0) n fun i => sqv g (2 ^ 0 * i)).1 ^^^ (sqv g (2 ^ 0 * n)).1) ((fo xa (0, 0) n fun i => sqv g (2 ^ 0 * i)).2 ^^^ (sqv g (2 ^ 0 * n)).2) = _
    rw [Tw.d7_add, d7_fo g n, d7_sqv, Nat.pow_zero, Nat.one_mul]
    rfl
theorem tr_one {k : Nat} (hk : k < 8) : ∃ y, lt2 y ∧ ofE k y ∧ tr k y = (0, 1) := by
  have g0 : Tw.d7 1 0 = Tw.gen 7 := by
    unfold Tw.d7
    rw [Tw.dec_one, Tw.dec_zero]; rfl
  have lg : lt2 ((1, 0) : Nat × Nat) := ⟨by decide, by decide⟩
  have og : ofE 7 ((1, 0) : Nat × Nat) := (ofB_iff 7 1 0 (by decide)).2 (.inl rfl)
  have e : tn xa (0, 0) 7 0 (1, 0) = (0, 1) := by
    refine d7_ext (lt_tn mon_add lg 7 0) lt_one ?_
    have h := d7_fo (1, 0) (2 ^ (7 - 0))
    have h2 := (Tw.gen_traces 7).1
    rw [show Tw.d7 ((1, 0) : Nat × Nat).1 ((1, 0) : Nat × Nat).2 = Tw.gen 7 from g0] at h
    rw [d7_one'', ← h2]
    exact h
  refine ⟨tn xa (0, 0) 7 k (1, 0), lt_tn mon_add lg 7 k, of_tn mon_add goes_add (by decide) (by omega) lg og, ?_⟩
  show tn xa (0, 0) k 0 _ = _
  rw [← tn_through mon_add goes_add (by decide) (by omega) (Nat.zero_le k) lg, e]
end Hf
end Go.Proofs.Ytakaconhoodigaa

/- There is a half just where the trace is 0, no Go in sight; and what it is. -/
namespace Go.Proofs.Ytakaconhoodigaa
open Cb Rg Sq Fr
open Tw (pm)
namespace Hf

theorem pow_128 {k : Nat} (hk : k < 8) : 2 ^ k ≤ 128 := Nat.le_trans (Nat.pow_le_pow_right (by decide) (show k ≤ 7 by omega)) (by decide)
/-- What the bits make. -/
def mk (k : Nat) : List (Nat × Nat) := (List.range (2 ^ k)).map fun i : Nat => fi (bv (i : Int))
theorem mk_len (k : Nat) : (mk k).length = 2 ^ k := by simp [mk]
theorem mk_at (k : Nat) {i : Nat} (h : i < 2 ^ k) : el (mk k) i = fi (bv (i : Int)) := by simp [el, mk, List.getD, h]
theorem lt_mk (k : Nat) : ltE (mk k) := fun e he => by
  obtain ⟨i, _, rfl⟩ := List.mem_map.1 he
  exact lt_fi (bv_lt2 _)
theorem mk_take (k : Nat) {i : Nat} (h : i ≤ 2 ^ k) : (mk k).take i = (List.range i).map fun i : Nat => fi (bv (i : Int)) := by
  unfold mk
  rw [← List.map_take, List.take_range, Nat.min_eq_left h]
theorem pre_sp : ∀ (i : Nat), i ≤ 128 → ∀ {y : Nat × Nat}, Sp ((List.range i).map fun j : Nat => fi (bv (j : Int))) y → ∃ z, y = fi z ∧ lt2 z ∧ ∀ b, i ≤ b → hs z b = false
  | 0, _, y, h => ⟨(0, 0), by have e : y = (0, 0) := h
                              rw [e, fi_zero], lt_zero, fun b _ => hs_zero b⟩
  | i + 1, hi, y, h => by
    rw [List.range_succ, List.map_append] at h
    rcases sp_snoc.1 h with h | h
    · obtain ⟨z, e, l, hb⟩ := pre_sp i (by omega) h
      exact ⟨z, e, l, fun b k => hb b (by omega)⟩
    · obtain ⟨z, e, l, hb⟩ := pre_sp i (by omega) h
      refine ⟨xa z (bv (i : Int)), ?_, lt_xa l (bv_lt2 _), fun b k => ?_⟩
      · rw [fi_xa l (bv_lt2 _), ← e, xa_assoc, xa_self, xa_zero]
      · rw [hs_xa, hb b (by omega), bv_high i b (by omega) (by omega)]; rfl
theorem one_bv : ((0, 1) : Nat × Nat) = bv ((0 : Nat) : Int) := rfl
theorem mk_new {k : Nat} (hk : k < 8) {i : Nat} (h1 : 1 ≤ i) (hi : i < 2 ^ k) : old? (mk k) i = false := by
  have h128 := pow_128 hk
  cases e : old? (mk k) i
  · rfl
  · exfalso
    have s := (old_iff (lt_mk k) (by rw [mk_len]; omega)).1 e
    rw [mk_take k (by omega), mk_at k hi] at s
    obtain ⟨z, ez, lz, hb⟩ := pre_sp i (by omega) s
    have h0 : fi (xa (bv (i : Int)) z) = (0, 0) := by rw [fi_xa (bv_lt2 _) lz, ez, xa_self]
    have hbit : hs (xa (bv (i : Int)) z) i = true := by
      rw [hs_xa, bv_at i i (by omega) (by omega), hb i (Nat.le_refl _)]; simp
    rcases fi_none (lt_xa (bv_lt2 _) lz) h0 with k0 | k0
    · rw [k0, hs_zero] at hbit; cases hbit
    · rw [k0, one_bv, bv_at 0 i (by omega) (by omega)] at hbit
      simp at hbit; omega
theorem mk_old (k : Nat) : old? (mk k) 0 = true := (old_iff (lt_mk k) (Nat.zero_le _)).2 (by
  rw [mk_at k (Nat.two_pow_pos _), ← one_bv, fi_one]
  exact sp_zero _)
theorem mk_rank {k : Nat} (hk : k < 8) : (rb (mk k)).length + 1 = 2 ^ k := by
  have hl : ∀ i, i + 1 ≤ 2 ^ k → (elm (mk k) (i + 1)).2.length = i := fun i => by
    induction i with
    | zero => intro _; rw [elm_succ, mk_old, if_pos rfl]; rfl
    | succ i ih =>
      intro h
      rw [elm_succ, mk_new hk (by omega) (by omega), if_neg (by decide), List.length_append, ih (by omega)]; rfl
  have h := elm_ei (lt_mk k) (mk k).length (Nat.le_refl _)
  have e := elm_len (lt_mk k)
  have p := Nat.two_pow_pos k
  obtain ⟨n, hn⟩ : ∃ n, 2 ^ k = n + 1 := ⟨2 ^ k - 1, by omega⟩
  rw [← e, h.len, mk_len, hn, hl n (by omega)]
theorem mk_bits {k : Nat} (hk : k < 8) {e : Nat × Nat} (he : e ∈ mk k) {b : Nat} (hb : 2 ^ k ≤ b) : hs e b = false := by
  obtain ⟨i, hi, rfl⟩ := List.mem_map.1 he
  have o := of_bv hk (List.mem_range.1 hi)
  have l := bv_lt2 (i : Int)
  show hs (xa (sqv (bv (i : Int)) 1) (bv (i : Int))) b = false
  rw [hs_xa, hs_long _ (lt_sqv l 1) b (Nat.le_trans (lng_of hk (lt_sqv l 1) (of_sqv hk o 1)) hb), hs_long _ l b (Nat.le_trans (lng_of hk l o) hb)]; rfl
theorem mk_tr {k : Nat} (hk : k < 8) : ∀ e ∈ mk k, lt2 e ∧ tr k e = (0, 0) := fun e he => by
  obtain ⟨i, hi, rfl⟩ := List.mem_map.1 he
  exact ⟨lt_fi (bv_lt2 _), tr_fi hk (bv_lt2 _) (of_bv hk (List.mem_range.1 hi))⟩
theorem half_in {k : Nat} (hk : k < 8) {a : Nat × Nat} (la : lt2 a) (oa : ofE k a) (ht : tr k a = (0, 0)) : Sp (mk k) a := by
  obtain ⟨hR, hF, hQ⟩ := rb_rr (lt_mk k)
  have h128 := pow_128 hk
  have hrk := mk_rank hk
  have hb : ∀ r ∈ rb (mk k), ∀ b, 2 ^ k ≤ b → hs r b = false := fun r hr b hb => sp_bit (fun e he => mk_bits hk he hb) ((hQ r).1 (sp_mem hr))
  have hld : ∀ c ∈ (rb (mk k)).map ld, c < (rb (mk k)).length + 1 := fun c hc => by
    obtain ⟨r, hr, rfl⟩ := List.mem_map.1 hc
    rw [hrk]
    rcases Nat.lt_or_ge (ld r) (2 ^ k) with j | j
    · exact j
    · have := hs_ld (hR.lt r hr) (hR.ne r hr)
      rw [hb r hr _ j] at this; cases this
  obtain ⟨q, hq, hall⟩ := fall_but (rb (mk k)).length ((rb (mk k)).map ld) (List.pairwise_map.2 hF) hld (by rw [List.length_map])
  rw [hrk] at hq hall
  have two : ∀ x, lt2 x → ofE k x → Sp (mk k) x ∨ Sp (mk k) (xa x (bv (q : Int))) := fun x lx ox => by
    have lu := lt_red hR.lt lx
    have bits : ∀ b, b ≠ q → hs (red (rb (mk k)) x) b = false := fun b hbq => by
      rcases Nat.lt_or_ge b (2 ^ k) with j | j
      · rcases hall b j with h | h
        · exact absurd h hbq
        · obtain ⟨r, hr, rfl⟩ := List.mem_map.1 h
          exact red_bit hR x r hr
      · rw [red_keep (fun r hr => hb r hr b j)]
        exact hs_long x lx b (Nat.le_trans (lng_of hk lx ox) j)
    cases hu : hs (red (rb (mk k)) x) q
    · left
      refine (hQ x).1 ((red_iff hR x).2 (hs_none lu fun b _ => ?_))
      by_cases e : b = q
      · rw [e]; exact hu
      · exact bits b e
    · right
      have e : red (rb (mk k)) x = bv (q : Int) := hs_ext lu (bv_lt2 _) fun b hb => by
        rw [bv_at q b (by omega) hb]
        by_cases e : b = q
        · rw [e, hu]; simp
        · rw [bits b e]; simp [e]
      have s := red_sp (rb (mk k)) x
      rw [e] at s
      first
        | exact (hQ _).1 s
        | (rw [xa_comm] at s; exact (hQ _).1 s)
  have oq : ofE k (bv (q : Int)) := of_bv hk hq
  rcases two a la oa with h | h
  · exact h
  · exfalso
    have t1 := tr_sp (lt_xa la (bv_lt2 _)) (mk_tr hk) h
    rw [tr_xa k la (bv_lt2 _), ht, xa_comm, xa_zero] at t1
    obtain ⟨y, ly, oy, ty⟩ := tr_one hk
    have t2 : tr k y = (0, 0) := by
      rcases two y ly oy with h | h
      · exact tr_sp ly (mk_tr hk) h
      · have := tr_sp (lt_xa ly (bv_lt2 _)) (mk_tr hk) h
        rw [tr_xa k ly (bv_lt2 _), t1, xa_zero] at this
        exact this
    rw [ty] at t2; cases t2
theorem half_iff {k : Nat} (hk : k < 8) {a : Nat × Nat} (la : lt2 a) (oa : ofE k a) : in? (mk k) a = decide (tr k a = (0, 0)) := by
  rw [Bool.eq_iff_iff, in?_iff (lt_mk k) la, decide_eq_true_iff]
  exact ⟨fun h => tr_sp la (mk_tr hk) h, fun h => half_in hk la oa h⟩
/-- The half. -/
def hv (k : Nat) (a : Nat × Nat) : Nat × Nat := xs (2 ^ k) fun i : Nat => sl (wch (mk k) (ofv (mk k) a) i) (bv (i : Int))
theorem lt_hv (k : Nat) (a : Nat × Nat) : lt2 (hv k a) := lt_xs (fun _ => lt_sl (bv_lt2 _)) _
theorem of_hv {k : Nat} (hk : k < 8) (a : Nat × Nat) : ofE k (hv k a) := of_xs hk _ fun _ hi => of_sl hk (of_bv hk hi)
theorem hv_fi {k : Nat} (hk : k < 8) {a : Nat × Nat} (la : lt2 a) (h : in? (mk k) a = true) : fi (hv k a) = a := by
  have e := ups_all (lt_mk k) (by rw [mk_len]; exact pow_128 hk) la h
  rw [ups_xs, mk_len] at e
  unfold hv
  rw [fi_xs (fun _ => lt_sl (bv_lt2 _))]
  refine Eq.trans (xs_congr _ fun i hi => ?_) e
  rw [fi_sl, mk_at k hi]
theorem hv_low {k : Nat} (hk : k < 8) (a : Nat × Nat) : (hv k a).2 % 2 = 0 := by
  have h : hs (hv k a) 0 = false := by
    unfold hv
    rw [hs_bits (fun i => wch (mk k) (ofv (mk k) a) i) _ 0 (pow_128 hk) (by decide)]
    have : wch (mk k) (ofv (mk k) a) 0 = false := by unfold wch; rw [mk_old]; rfl
    rw [this]; simp
  unfold hs hasB at h
  rw [if_pos (by decide)] at h
  rw [Nat.testBit_zero] at h
  simp at h
  omega
end Hf
end Go.Proofs.Ytakaconhoodigaa
