/- There is a half just where the trace is 0, no Go in sight; and what it is. -/
import Derived.Test.YtjdfbjdbfncofaaPHfA
import Derived.Test.YtjdfbjdbfncofaaPFrL
import Derived.Test.YtjdfbjdbfncofaaPWvP
namespace Go.Proofs.Ytjdfbjdbfncofaa
open Cb Rg Sq Fr
open Tw (pm)
namespace Hf

theorem pow_128 {k : Nat} (hk : k < 8) : 2 ^ k ≤ 128 := Nat.le_trans (Nat.pow_le_pow_right (by decide) (show k ≤ 7 by omega)) (by decide)
/-- What the bits make. -/
def mk (k : Nat) : List (Nat × Nat) := (List.range (2 ^ k)).map fun i : Nat => fi (bv (i : Int))
theorem mk_len (k : Nat) : (mk k).length = 2 ^ k := by simp [mk]
theorem mk_at (k : Nat) {i : Nat} (h : i < 2 ^ k) : el (mk k) i = fi (bv (i : Int)) := by simp [el, mk, List.getD, h]
theorem lt_mk (k : Nat) : ltE (mk k) := fun e he => by
  obtain ⟨i, _, rfl⟩ := List.mem_map.1 he
  exact lt_fi (bv_lt2 _)
theorem mk_take (k : Nat) {i : Nat} (h : i ≤ 2 ^ k) : (mk k).take i = (List.range i).map fun i : Nat => fi (bv (i : Int)) := by
  unfold mk
  rw [← List.map_take, List.take_range, Nat.min_eq_left h]
theorem pre_sp : ∀ (i : Nat), i ≤ 128 → ∀ {y : Nat × Nat}, Sp ((List.range i).map fun j : Nat => fi (bv (j : Int))) y → ∃ z, y = fi z ∧ lt2 z ∧ ∀ b, i ≤ b → hs z b = false
  | 0, _, y, h => ⟨(0, 0), by have e : y = (0, 0) := h
                              rw [e, fi_zero], lt_zero, fun b _ => hs_zero b⟩
  | i + 1, hi, y, h => by
    rw [List.range_succ, List.map_append] at h
    rcases sp_snoc.1 h with h | h
    · obtain ⟨z, e, l, hb⟩ := pre_sp i (by omega) h
      exact ⟨z, e, l, fun b k => hb b (by omega)⟩
    · obtain ⟨z, e, l, hb⟩ := pre_sp i (by omega) h
      refine ⟨xa z (bv (i : Int)), ?_, lt_xa l (bv_lt2 _), fun b k => ?_⟩
      · rw [fi_xa l (bv_lt2 _), ← e, xa_assoc, xa_self, xa_zero]
      · rw [hs_xa, hb b (by omega), bv_high i b (by omega) (by omega)]; rfl
theorem one_bv : ((0, 1) : Nat × Nat) = bv ((0 : Nat) : Int) := rfl
theorem mk_new {k : Nat} (hk : k < 8) {i : Nat} (h1 : 1 ≤ i) (hi : i < 2 ^ k) : old? (mk k) i = false := by
  have h128 := pow_128 hk
  cases e : old? (mk k) i
  · rfl
  · exfalso
    have s := (old_iff (lt_mk k) (by rw [mk_len]; omega)).1 e
    rw [mk_take k (by omega), mk_at k hi] at s
    obtain ⟨z, ez, lz, hb⟩ := pre_sp i (by omega) s
    have h0 : fi (xa (bv (i : Int)) z) = (0, 0) := by rw [fi_xa (bv_lt2 _) lz, ez, xa_self]
    have hbit : hs (xa (bv (i : Int)) z) i = true := by
      rw [hs_xa, bv_at i i (by omega) (by omega), hb i (Nat.le_refl _)]; simp
    rcases fi_none (lt_xa (bv_lt2 _) lz) h0 with k0 | k0
    · rw [k0, hs_zero] at hbit; cases hbit
    · rw [k0, one_bv, bv_at 0 i (by omega) (by omega)] at hbit
      simp at hbit; omega
theorem mk_old (k : Nat) : old? (mk k) 0 = true := (old_iff (lt_mk k) (Nat.zero_le _)).2 (by
  rw [mk_at k (Nat.two_pow_pos _), ← one_bv, fi_one]
  exact sp_zero _)
theorem mk_rank {k : Nat} (hk : k < 8) : (rb (mk k)).length + 1 = 2 ^ k := by
  have hl : ∀ i, i + 1 ≤ 2 ^ k → (elm (mk k) (i + 1)).2.length = i := fun i => by
    induction i with
    | zero => intro _; rw [elm_succ, mk_old, if_pos rfl]; rfl
    | succ i ih =>
      intro h
      rw [elm_succ, mk_new hk (by omega) (by omega), if_neg (by decide), List.length_append, ih (by omega)]; rfl
  have h := elm_ei (lt_mk k) (mk k).length (Nat.le_refl _)
  have e := elm_len (lt_mk k)
  have p := Nat.two_pow_pos k
  obtain ⟨n, hn⟩ : ∃ n, 2 ^ k = n + 1 := ⟨2 ^ k - 1, by omega⟩
  rw [← e, h.len, mk_len, hn, hl n (by omega)]
theorem mk_bits {k : Nat} (hk : k < 8) {e : Nat × Nat} (he : e ∈ mk k) {b : Nat} (hb : 2 ^ k ≤ b) : hs e b = false := by
  obtain ⟨i, hi, rfl⟩ := List.mem_map.1 he
  have o := of_bv hk (List.mem_range.1 hi)
  have l := bv_lt2 (i : Int)
  show hs (xa (sqv (bv (i : Int)) 1) (bv (i : Int))) b = false
  rw [hs_xa, hs_long _ (lt_sqv l 1) b (Nat.le_trans (lng_of hk (lt_sqv l 1) (of_sqv hk o 1)) hb), hs_long _ l b (Nat.le_trans (lng_of hk l o) hb)]; rfl
theorem mk_tr {k : Nat} (hk : k < 8) : ∀ e ∈ mk k, lt2 e ∧ tr k e = (0, 0) := fun e he => by
  obtain ⟨i, hi, rfl⟩ := List.mem_map.1 he
  exact ⟨lt_fi (bv_lt2 _), tr_fi hk (bv_lt2 _) (of_bv hk (List.mem_range.1 hi))⟩
theorem half_in {k : Nat} (hk : k < 8) {a : Nat × Nat} (la : lt2 a) (oa : ofE k a) (ht : tr k a = (0, 0)) : Sp (mk k) a := by
  obtain ⟨hR, hF, hQ⟩ := rb_rr (lt_mk k)
  have h128 := pow_128 hk
  have hrk := mk_rank hk
  have hb : ∀ r ∈ rb (mk k), ∀ b, 2 ^ k ≤ b → hs r b = false := fun r hr b hb => sp_bit (fun e he => mk_bits hk he hb) ((hQ r).1 (sp_mem hr))
  have hld : ∀ c ∈ (rb (mk k)).map ld, c < (rb (mk k)).length + 1 := fun c hc => by
    obtain ⟨r, hr, rfl⟩ := List.mem_map.1 hc
    rw [hrk]
    rcases Nat.lt_or_ge (ld r) (2 ^ k) with j | j
    · exact j
    · have := hs_ld (hR.lt r hr) (hR.ne r hr)
      rw [hb r hr _ j] at this; cases this
  obtain ⟨q, hq, hall⟩ := fall_but (rb (mk k)).length ((rb (mk k)).map ld) (List.pairwise_map.2 hF) hld (by rw [List.length_map])
  rw [hrk] at hq hall
  have two : ∀ x, lt2 x → ofE k x → Sp (mk k) x ∨ Sp (mk k) (xa x (bv (q : Int))) := fun x lx ox => by
    have lu := lt_red hR.lt lx
    have bits : ∀ b, b ≠ q → hs (red (rb (mk k)) x) b = false := fun b hbq => by
      rcases Nat.lt_or_ge b (2 ^ k) with j | j
      · rcases hall b j with h | h
        · exact absurd h hbq
        · obtain ⟨r, hr, rfl⟩ := List.mem_map.1 h
          exact red_bit hR x r hr
      · rw [red_keep (fun r hr => hb r hr b j)]
        exact hs_long x lx b (Nat.le_trans (lng_of hk lx ox) j)
    cases hu : hs (red (rb (mk k)) x) q
    · left
      refine (hQ x).1 ((red_iff hR x).2 (hs_none lu fun b _ => ?_))
      by_cases e : b = q
      · rw [e]; exact hu
      · exact bits b e
    · right
      have e : red (rb (mk k)) x = bv (q : Int) := hs_ext lu (bv_lt2 _) fun b hb => by
        rw [bv_at q b (by omega) hb]
        by_cases e : b = q
        · rw [e, hu]; simp
        · rw [bits b e]; simp [e]
      have s := red_sp (rb (mk k)) x
      rw [e] at s
      first
        | exact (hQ _).1 s
        | (rw [xa_comm] at s; exact (hQ _).1 s)
  have oq : ofE k (bv (q : Int)) := of_bv hk hq
  rcases two a la oa with h | h
  · exact h
  · exfalso
    have t1 := tr_sp (lt_xa la (bv_lt2 _)) (mk_tr hk) h
    rw [tr_xa k la (bv_lt2 _), ht, xa_comm, xa_zero] at t1
    obtain ⟨y, ly, oy, ty⟩ := tr_one hk
    have t2 : tr k y = (0, 0) := by
      rcases two y ly oy with h | h
      · exact tr_sp ly (mk_tr hk) h
      · have := tr_sp (lt_xa ly (bv_lt2 _)) (mk_tr hk) h
        rw [tr_xa k ly (bv_lt2 _), t1, xa_zero] at this
        exact this
    rw [ty] at t2; cases t2
theorem half_iff {k : Nat} (hk : k < 8) {a : Nat × Nat} (la : lt2 a) (oa : ofE k a) : in? (mk k) a = decide (tr k a = (0, 0)) := by
  rw [Bool.eq_iff_iff, in?_iff (lt_mk k) la, decide_eq_true_iff]
  exact ⟨fun h => tr_sp la (mk_tr hk) h, fun h => half_in hk la oa h⟩
/-- The half. -/
def hv (k : Nat) (a : Nat × Nat) : Nat × Nat := xs (2 ^ k) fun i : Nat => sl (wch (mk k) (ofv (mk k) a) i) (bv (i : Int))
theorem lt_hv (k : Nat) (a : Nat × Nat) : lt2 (hv k a) := lt_xs (fun _ => lt_sl (bv_lt2 _)) _
theorem of_hv {k : Nat} (hk : k < 8) (a : Nat × Nat) : ofE k (hv k a) := of_xs hk _ fun _ hi => of_sl hk (of_bv hk hi)
theorem hv_fi {k : Nat} (hk : k < 8) {a : Nat × Nat} (la : lt2 a) (h : in? (mk k) a = true) : fi (hv k a) = a := by
  have e := ups_all (lt_mk k) (by rw [mk_len]; exact pow_128 hk) la h
  rw [ups_xs, mk_len] at e
  unfold hv
  rw [fi_xs (fun _ => lt_sl (bv_lt2 _))]
  refine Eq.trans (xs_congr _ fun i hi => ?_) e
  rw [fi_sl, mk_at k hi]
theorem hv_low {k : Nat} (hk : k < 8) (a : Nat × Nat) : (hv k a).2 % 2 = 0 := by
  have h : hs (hv k a) 0 = false := by
    unfold hv
    rw [hs_bits (fun i => wch (mk k) (ofv (mk k) a) i) _ 0 (pow_128 hk) (by decide)]
    have : wch (mk k) (ofv (mk k) a) 0 = false := by unfold wch; rw [mk_old]; rfl
    rw [this]; simp
  unfold hs hasB at h
  rw [if_pos (by decide)] at h
  rw [Nat.testBit_zero] at h
  simp at h
  omega
end Hf
end Go.Proofs.Ytjdfbjdbfncofaa

/- Duals, no Go in sight: the traces of the products with the bits lead back, and what leads back to a bit is its dual. -/
namespace Go.Proofs.Ytjdfbjdbfncofaa
open Cb Rg Sq Fr
open Tw (pm)
namespace Hf

/-- A sum of the first so many is made from bits below. -/
theorem sp_mdv {m : List (Nat × Nat)} (h128 : m.length ≤ 128) : ∀ i, i ≤ m.length → ∀ {y : Nat × Nat}, Sp (m.take i) y → ∃ z, lt2 z ∧ (∀ b, i ≤ b → hs z b = false) ∧ mdv i m z = y
  | 0, _, y, h => ⟨(0, 0), lt_zero, fun b _ => hs_zero b, by
      have e : y = (0, 0) := h
      rw [e]; rfl⟩
  | i + 1, hi, y, h => by
    rw [take_el (by omega)] at h
    rcases sp_snoc.1 h with h | h
    · obtain ⟨z, lz, hz, e⟩ := sp_mdv h128 i (by omega) h
      refine ⟨z, lz, fun b hb => hz b (by omega), ?_⟩
      show xa (mdv i m z) (sl (hs z i) (el m i)) = y
      rw [hz i (Nat.le_refl _), e]; exact xa_zero _
    · obtain ⟨z, lz, hz, e⟩ := sp_mdv h128 i (by omega) h
      refine ⟨xa z (bv (i : Int)), lt_xa lz (bv_lt2 _), fun b hb => ?_, ?_⟩
      · rw [hs_xa, hz b (by omega), bv_high i b (by omega) (by omega)]; rfl
      · have e2 : mdv i m (bv (i : Int)) = (0, 0) := by
          unfold mdv
          exact xs_none _ fun k hk => by
            rw [bv_at i k (by omega) (by omega), decide_eq_false (show ¬ k = i by omega)]; rfl
        show xa (mdv i m (xa z (bv (i : Int)))) (sl (hs (xa z (bv (i : Int))) i) (el m i)) = y
        rw [mdv_xa, e, e2, xa_zero, hs_xa, hz i (Nat.le_refl _), bv_at i i (by omega) (by omega)]
        simp only [decide_true, Bool.false_xor]
        show xa (xa y (el m i)) (el m i) = y
        rw [xa_assoc, xa_self, xa_zero]
/-- A map that leads no two to one has a whole rank. -/
theorem wh_of {m : List (Nat × Nat)} (lm : ltE m) (h128 : m.length ≤ 128) (fit : ∀ i, lngE (el m i) ≤ m.length) (inj : ∀ z, lt2 z → lngE z ≤ m.length → mdv m.length m z = (0, 0) → z = (0, 0)) : Wh m := by
  have fresh : ∀ i, i < m.length → old? m i = false := fun i hi => by
    cases e : old? m i
    · rfl
    · exfalso
      obtain ⟨z, lz, hz, ez⟩ := sp_mdv h128 i (by omega) ((old_iff lm (by omega)).1 e)
      have lzb := lt_xa lz (bv_lt2 (i : Int))
      have hb : ∀ b, i + 1 ≤ b → hs (xa z (bv (i : Int))) b = false := fun b hb => by
        rw [hs_xa, hz b (by omega), bv_high i b (by omega) (by omega)]; rfl
      have up : ∀ d, mdv (i + 1 + d) m (xa z (bv (i : Int))) = mdv (i + 1) m (xa z (bv (i : Int))) := fun d => by
        induction d with
        | zero => rfl
        | succ d ih =>
          have e : mdv (i + 1 + (d + 1)) m (xa z (bv (i : Int))) = xa (mdv (i + 1 + d) m (xa z (bv (i : Int)))) (sl (hs (xa z (bv (i : Int))) (i + 1 + d)) (el m (i + 1 + d))) := rfl
          rw [e, hb _ (by omega), ih]; exact xa_zero _
      have e2 : mdv i m (bv (i : Int)) = (0, 0) := by
        unfold mdv
        exact xs_none _ fun k hk => by
          rw [bv_at i k (by omega) (by omega), decide_eq_false (show ¬ k = i by omega)]; rfl
      have hbit : hs (xa z (bv (i : Int))) i = true := by
        rw [hs_xa, hz i (Nat.le_refl _), bv_at i i (by omega) (by omega)]; simp
      have e3 : mdv (i + 1) m (xa z (bv (i : Int))) = (0, 0) := by
        show xa (mdv i m (xa z (bv (i : Int)))) (sl (hs (xa z (bv (i : Int))) i) (el m i)) = _
        rw [hbit, mdv_xa, ez, e2, xa_zero]; exact xa_self _
      have e4 := up (m.length - (i + 1))
      rw [show i + 1 + (m.length - (i + 1)) = m.length by omega, e3] at e4
      have z0 := inj _ lzb (Sq.lng_le lzb fun b k => hb b (by omega)) e4
      rw [z0, hs_zero] at hbit; cases hbit
  have hl : ∀ i, i ≤ m.length → (elm m i).2.length = i := fun i => by
    induction i with
    | zero => intro _; rfl
    | succ i ih =>
      intro h
      rw [elm_succ, fresh i (by omega), if_neg (by decide), List.length_append, ih (by omega)]; rfl
  have h := elm_ei lm m.length (Nat.le_refl _)
  exact ⟨lm, h128, fit, by rw [← elm_len lm, h.len, hl _ (Nat.le_refl _)]⟩
/-- The traces of the products with all bits. -/
def fm (k : Nat) (x : Nat × Nat) : Nat × Nat := xs (2 ^ k) fun j : Nat => sl (decide (tr k (pm x (bv (j : Int))) = (0, 1))) (bv (j : Int))
def fms (k : Nat) : List (Nat × Nat) := (List.range (2 ^ k)).map fun i : Nat => fm k (bv (i : Int))
theorem fms_len (k : Nat) : (fms k).length = 2 ^ k := by simp [fms]
theorem fms_at (k : Nat) {i : Nat} (h : i < 2 ^ k) : el (fms k) i = fm k (bv (i : Int)) := by simp [el, fms, List.getD, h]
theorem lt_fm (k : Nat) (x : Nat × Nat) : lt2 (fm k x) := lt_xs (fun _ => lt_sl (bv_lt2 _)) _
theorem lt_fms (k : Nat) : ltE (fms k) := fun e he => by
  obtain ⟨i, _, rfl⟩ := List.mem_map.1 he
  exact lt_fm _ _
theorem of_fm {k : Nat} (hk : k < 8) (x : Nat × Nat) : ofE k (fm k x) := of_xs hk _ fun _ hi => of_sl hk (of_bv hk hi)
/-- A trace is 0 or 1. -/
theorem tr_bit {k : Nat} (hk : k < 8) {a : Nat × Nat} (la : lt2 a) (oa : ofE k a) : tr k a = (0, 0) ∨ tr k a = (0, 1) := by
  have o := of_tn mon_add goes_add hk (Nat.zero_le k) la oa
  have o' := (ofB_iff 0 _ _ (by decide)).1 o
  rcases o' with h7 | ⟨h0, hl⟩
  · cases h7
  · have h2 : (tr k a).2 < 2 := by simpa [tr] using hl
    have h1 : (tr k a).1 = 0 := by exact_mod_cast h0
    have : (tr k a).2 = 0 ∨ (tr k a).2 = 1 := by omega
    rcases this with h3 | h3
    · exact .inl (Prod.ext h1 h3)
    · exact .inr (Prod.ext h1 h3)
end Hf
end Go.Proofs.Ytjdfbjdbfncofaa

/- Duals, no Go in sight: the traces of the products with the bits lead no two elements to one; what leads to a bit is its dual. -/
namespace Go.Proofs.Ytjdfbjdbfncofaa
open Cb Rg Sq Fr
open Tw (pm)
namespace Hf

theorem pm_none {z y : Nat × Nat} (lz : lt2 z) (ly : lt2 y) (hz : ¬ z = (0, 0)) (h : pm z y = (0, 0)) : y = (0, 0) := by
  have hz' : Tw.d7 z.1 z.2 ≠ Tw.zero 7 := fun e => hz (d7_ext lz lt_zero (e.trans Tw.d7_zero.symm))
  have e : Tw.mul 7 (Tw.d7 z.1 z.2) (Tw.d7 y.1 y.2) = Tw.mul 7 (Tw.d7 z.1 z.2) (Tw.zero 7) := by
    rw [Tw.mul_zero, ← Tw.d7_mul]
    have : Tw.d7 (pm z y).1 (pm z y).2 = Tw.zero 7 := by rw [h]; exact Tw.d7_zero
    exact this
  exact d7_ext ly lt_zero ((Tw.cancel hz' e).trans Tw.d7_zero.symm)
theorem pm_xs (z : Nat × Nat) (f : Nat → Nat × Nat) : ∀ n, pm z (xs n f) = xs n fun i => pm z (f i)
  | 0 => pm_zero z
  | n + 1 => by simp only [xs]; rw [pm_xa, pm_xs z f n]
theorem pm_sl (z : Nat × Nat) (b : Bool) (e : Nat × Nat) : pm z (sl b e) = sl b (pm z e) := by
  cases b
  · exact pm_zero z
  · rfl
theorem tr_sl (k : Nat) (b : Bool) (e : Nat × Nat) : tr k (sl b e) = sl b (tr k e) := by
  cases b
  · exact tr_zero k
  · rfl
theorem tr_xs (k : Nat) {f : Nat → Nat × Nat} (hf : ∀ i, lt2 (f i)) : ∀ n, tr k (xs n f) = xs n fun i => tr k (f i)
  | 0 => tr_zero k
  | n + 1 => by simp only [xs]; rw [tr_xa k (lt_xs hf n) (hf n), tr_xs k hf n]
/-- An element is the sum of its bits. -/
theorem bits_of {n : Nat} (hn : n ≤ 128) {y : Nat × Nat} (ly : lt2 y) (hl : lngE y ≤ n) : (xs n fun i : Nat => sl (hs y i) (bv (i : Int))) = y := by
  refine hs_ext (lt_xs (fun i => lt_sl (bv_lt2 _)) _) ly fun b hb => ?_
  rw [hs_bits (hs y) n b hn hb]
  rcases Nat.lt_or_ge b n with k | k
  · rw [decide_eq_true k]; rfl
  · rw [hs_long y ly b (Nat.le_trans hl k)]; simp
theorem of_lng {k : Nat} (hk : k < 8) {y : Nat × Nat} (ly : lt2 y) (hl : lngE y ≤ 2 ^ k) : ofE k y := by
  rw [← bits_of (pow_128 hk) ly hl]
  exact of_xs hk _ fun _ hi => of_sl hk (of_bv hk hi)
theorem of_pmE {k : Nat} (hk : k < 8) {a b : Nat × Nat} (ha : ofE k a) (hb : ofE k b) : ofE k (pm a b) := of_pm hk ha hb
/-- Each element is a product with one that is not 0. -/
theorem div_of {k : Nat} (hk : k < 8) {z y0 : Nat × Nat} (lz : lt2 z) (oz : ofE k z) (hz : ¬ z = (0, 0)) (ly : lt2 y0) (oy : ofE k y0) : ∃ y, lt2 y ∧ ofE k y ∧ pm z y = y0 := by
  have h128 := pow_128 hk
  have hml : ((List.range (2 ^ k)).map fun i : Nat => pm z (bv (i : Int))).length = 2 ^ k := by simp
  have hma : ∀ i, i < 2 ^ k → el ((List.range (2 ^ k)).map fun i : Nat => pm z (bv (i : Int))) i = pm z (bv (i : Int)) := fun i h => by simp [el, List.getD, h]
  have hmd : ∀ x, lt2 x → lngE x ≤ 2 ^ k → mdv (2 ^ k) ((List.range (2 ^ k)).map fun i : Nat => pm z (bv (i : Int))) x = pm z x := fun x lx hx => by
    rw [← bits_of h128 lx hx, pm_xs]
    unfold mdv
    refine xs_congr _ fun i hi => ?_
    rw [pm_sl, hma i hi, bits_of h128 lx hx]
  have hlt : ltE ((List.range (2 ^ k)).map fun i : Nat => pm z (bv (i : Int))) := fun e he => by
    obtain ⟨i, _, rfl⟩ := List.mem_map.1 he
    exact lt_pm _ _
  generalize (List.range (2 ^ k)).map (fun i : Nat => pm z (bv (i : Int))) = m at *
  have w : Wh m := wh_of hlt (by rw [hml]; exact h128) (fun i => by
      rw [hml]
      by_cases h : i < 2 ^ k
      · rw [hma i h]; exact lng_of hk (lt_pm _ _) (of_pmE hk oz (of_bv hk h))
      · rw [el_ge (by omega)]; exact Nat.zero_le _) fun x lx hx h => by
    rw [hml] at hx h
    rw [hmd x lx hx] at h
    exact pm_none lz lx hz h
  have f := w.forth ly (by rw [hml]; exact lng_of hk ly oy)
  have ll : lt2 (mdv m.length (bkL m) y0) := lt_mdv _ (lt_bkL hlt) _
  have hb : lngE (mdv m.length (bkL m) y0) ≤ 2 ^ k := Sq.lng_le ll fun b hb => xs_bit (fun j => by
    rw [hs_sl]
    by_cases hj : j < m.length
    · rw [bkL_at m hj, hs_long _ (lt_bk w.lt j) b (Nat.le_trans (w.long j) (by rw [hml]; exact hb))]; simp
    · rw [el_ge (l := bkL m) (i := j) (by rw [bkL_len]; omega), hs_zero]; simp) _
  refine ⟨_, ll, of_lng hk ll hb, ?_⟩
  rw [← hmd _ ll hb, ← hml]
  exact f
/-- Is the trace of the product with the bit j 1? -/
def tb (k : Nat) (x : Nat × Nat) (j : Nat) : Bool := decide (tr k (pm x (bv (j : Int))) = (0, 1))
theorem tr_tb {k : Nat} (hk : k < 8) {x : Nat × Nat} (ox : ofE k x) {j : Nat} (hj : j < 2 ^ k) : tr k (pm x (bv (j : Int))) = sl (tb k x j) (0, 1) := by
  unfold tb
  rcases tr_bit hk (lt_pm x (bv (j : Int))) (of_pmE hk ox (of_bv hk hj)) with h | h
  · rw [h]; rfl
  · rw [h]; rfl
theorem sl_xor1 (a b : Bool) : xa (sl a (0, 1)) (sl b (0, 1)) = sl (a ^^ b) (0, 1) := by cases a <;> cases b <;> decide
theorem sl_inj {a b : Bool} (h : sl a (0, 1) = sl b (0, 1)) : a = b := by
  cases a <;> cases b <;> first | rfl | (exact absurd h (by decide))
theorem tb_xa {k : Nat} (hk : k < 8) {x y : Nat × Nat} (ox : ofE k x) (oy : ofE k y) (oxy : ofE k (xa x y)) {j : Nat} (hj : j < 2 ^ k) : tb k (xa x y) j = (tb k x j ^^ tb k y j) := by
  have h := tr_tb hk oxy hj
  rw [xa_pm, tr_xa k (lt_pm _ _) (lt_pm _ _), tr_tb hk ox hj, tr_tb hk oy hj, sl_xor1] at h
  exact (sl_inj h).symm
/-- What is led by the forms. -/
theorem fm_bit {k : Nat} (hk : k < 8) (x : Nat × Nat) {j : Nat} (hj : j < 128) : hs (fm k x) j = (decide (j < 2 ^ k) && tb k x j) := hs_bits (tb k x) _ j (pow_128 hk) hj
theorem tr_sum {k : Nat} (hk : k < 8) {x y : Nat × Nat} (ox : ofE k x) (ly : lt2 y) (oy : ofE k y) : tr k (pm x y) = xs (2 ^ k) fun j : Nat => sl (hs y j) (sl (tb k x j) (0, 1)) := by
  have e := bits_of (pow_128 hk) ly (lng_of hk ly oy)
  have h : tr k (pm x (xs (2 ^ k) fun i : Nat => sl (hs y i) (bv (i : Int)))) = xs (2 ^ k) fun j : Nat => sl (hs y j) (sl (tb k x j) (0, 1)) := by
    rw [pm_xs, tr_xs k fun _ => lt_pm _ _]
    refine xs_congr _ fun j hj => ?_
    rw [pm_sl, tr_sl, tr_tb hk ox hj]
  rw [e] at h
  exact h
theorem fms_mdv {k : Nat} (hk : k < 8) {z : Nat × Nat} (lz : lt2 z) (oz : ofE k z) : mdv (2 ^ k) (fms k) z = fm k z := by
  have h128 := pow_128 hk
  refine hs_ext (lt_mdv _ (lt_fms k) _) (lt_fm k z) fun b hb => ?_
  rw [fm_bit hk z hb]
  rcases Nat.lt_or_ge b (2 ^ k) with hbk | hbk
  · rw [decide_eq_true hbk, Bool.true_and]
    have h1 : tr k (pm (bv (b : Int)) z) = xs (2 ^ k) fun j : Nat => sl (hs z j) (sl (tb k (bv (b : Int)) j) (0, 1)) := tr_sum hk (of_bv hk hbk) lz oz
    have h2 : tr k (pm (bv (b : Int)) z) = sl (tb k z b) (0, 1) := by rw [Tw.pm_comm']; exact tr_tb hk oz hbk
    rw [h2] at h1
    have h3 : (xs (2 ^ k) fun j : Nat => sl (hs z j) (sl (tb k (bv (b : Int)) j) (0, 1))) = sl (hs (mdv (2 ^ k) (fms k) z) b) (0, 1) := by
      unfold mdv
      rw [hs_xs]
      have gen : ∀ n, n ≤ 2 ^ k → (xs n fun j : Nat => sl (hs z j) (sl (tb k (bv (b : Int)) j) (0, 1))) = sl (bx n fun i => hs (sl (hs z i) (el (fms k) i)) b) (0, 1) := fun n => by
        induction n with
        | zero => intro _; rfl
        | succ n ih =>
          intro hn
          simp only [xs, bx]
          rw [ih (by omega), ← sl_xor1]
          congr 1
          rw [hs_sl, fms_at k (by omega), fm_bit hk _ hb, decide_eq_true hbk, Bool.true_and]
          have : tb k (bv (b : Int)) n = tb k (bv (n : Int)) b := by
            unfold tb
            rw [Tw.pm_comm']
          rw [this]
          cases hs z n <;> cases tb k (bv (n : Int)) b <;> rfl
      exact gen _ (Nat.le_refl _)
    rw [h3] at h1
    exact (sl_inj h1).symm
  · rw [decide_eq_false (by omega), Bool.false_and]
    exact xs_bit (fun j => by
      rw [hs_sl]
      by_cases hj : j < 2 ^ k
      · rw [fms_at k hj, fm_bit hk _ hb, decide_eq_false (by omega)]; simp
      · rw [el_ge (by rw [fms_len]; omega), hs_zero]; simp) _
theorem fms_wh {k : Nat} (hk : k < 8) : Wh (fms k) := wh_of (lt_fms k) (by rw [fms_len]; exact pow_128 hk) (fun i => by
    rw [fms_len]
    by_cases h : i < 2 ^ k
    · rw [fms_at k h]; exact lng_of hk (lt_fm _ _) (of_fm hk _)
    · rw [el_ge (by rw [fms_len]; omega)]; exact Nat.zero_le _) fun z lz hl h => by
  rw [fms_len] at hl h
  have oz := of_lng hk lz hl
  rw [fms_mdv hk lz oz] at h
  by_cases hz : z = (0, 0)
  · exact hz
  · exfalso
    obtain ⟨y0, ly0, oy0, ty0⟩ := tr_one hk
    obtain ⟨y, ly, oy, e⟩ := div_of hk lz oz hz ly0 oy0
    have t := tr_sum hk oz ly oy
    rw [e, ty0] at t
    have n : (xs (2 ^ k) fun j : Nat => sl (hs y j) (sl (tb k z j) (0, 1))) = (0, 0) := xs_none _ fun j hj => by
      have hb : tb k z j = false := by
        have q := fm_bit hk z (j := j) (by have := pow_128 hk; omega)
        rw [h, hs_zero, decide_eq_true hj, Bool.true_and] at q
        exact q.symm
      rw [hb]
      cases hs y j <;> rfl
    rw [n] at t; cases t
/-- The dual. -/
def dl (k i : Nat) : Nat × Nat := bk (fms k) i
theorem lt_dl (k i : Nat) : lt2 (dl k i) := lt_bk (lt_fms k) i
theorem of_dl {k : Nat} (hk : k < 8) (i : Nat) : ofE k (dl k i) := of_lng hk (lt_dl k i) (by have := (fms_wh hk).long i; rw [fms_len] at this; exact this)
theorem dl_tb {k : Nat} (hk : k < 8) {i : Nat} (hi : i < 2 ^ k) {j : Nat} (hj : j < 2 ^ k) : tb k (dl k i) j = decide (j = i) := by
  have h128 := pow_128 hk
  have h := (fms_wh hk).to (i := i) (by rw [fms_len]; exact hi)
  rw [fms_len] at h
  have h2 := fms_mdv hk (lt_dl k i) (of_dl hk i)
  have h3 : fm k (dl k i) = bv (i : Int) := h2.symm.trans h
  have q := fm_bit hk (dl k i) (j := j) (by omega)
  rw [h3, decide_eq_true hj, Bool.true_and, bv_at i j (by omega) (by omega)] at q
  exact q.symm
/-- The trace of an element's product with the dual is the element's bit. -/
theorem dl_tr {k : Nat} (hk : k < 8) {a : Nat × Nat} (la : lt2 a) (oa : ofE k a) {i : Nat} (hi : i < 2 ^ k) : tr k (pm a (dl k i)) = sl (hs a i) (0, 1) := by
  rw [Tw.pm_comm', tr_sum hk (of_dl hk i) la oa]
  have p := xs_pick (fun j => sl (hs a j) (0, 1)) i (2 ^ k)
  rw [if_pos hi] at p
  rw [← p]
  refine xs_congr _ fun j hj => ?_
  rw [dl_tb hk hi hj]
  cases hs a j <;> cases decide (j = i) <;> rfl
end Hf
end Go.Proofs.Ytjdfbjdbfncofaa

/- span.Back where there is a way back, over the seat's translation, where neither sorting nor Basis is in it: cut out of SqO and SrC. -/
namespace Go.Proofs.Ytjdfbjdbfncofaa
open Go.RowKit
open Cb Rg Sq

set_option maxHeartbeats 2000000 in
theorem within_any (a : Option Addr) (cap n : Nat) (es : List (Nat × Nat)) (hes : ltE es) (h10 : es.length ≤ 1000) (W : World) (hr : ERow W a es) :
    Calls Try.prog 42 #[.slice a es.length cap, .int .i64 (n : Int)] W fun e w' => e = .returned (.bool (fitL es n)) ∧ Below W.heap.size W w' := by
  have HR : Hid (ERow W a es) := hr
  have HO : Hid (∀ j : Nat, Ret 40 #[.agg #[.int .u64 ((el es j).1 : Int), .int .u64 ((el es j).2 : Int)]] (.int .i64 (lngE (el es j) : Int))) := fun j => long_any _ (ltE_el hes j).1 (ltE_el hes j).2
  clear hr hes
  go_enter Try.func42, Try.ntmps42
  go_wp2_with fail
  go_loopw [9] (fun u wr => ∃ j : Nat, j ≤ es.length ∧ u = .int .i64 j ∧ Hid (∀ i, i < j → lngE (el es i) ≤ n) ∧ Below W.heap.size W wr) (fun u _ => es.length - (intOf u).toNat)
  case atStart => exact ⟨0, Nat.zero_le _, rfl, (by show ∀ _, _; omega), Below.refl _ _⟩
  case round =>
    obtain ⟨j, hj, rfl, HN, hD⟩ := hrel
    by_cases hlt : j < es.length
    · obtain ⟨b, off, rfl, hb, c1, c0⟩ := HR.out.cells j hlt
      have d1 : wr.cell? ⟨b, off + j * 2, none⟩ = some (.int .u64 ((el es j).1 : Int)) := keepc hD c1
      have d0 : wr.cell? ⟨b, off + j * 2 + 1, none⟩ = some (.int .u64 ((el es j).2 : Int)) := keepc hD c0
      have H1 := hidT (HO.out j)
      have HD : Hid (Below W.heap.size W wr) := hD
      have HX : Hid (¬ lngE (el es j) ≤ n → fitL es n = false) := fun h => by
        rw [Bool.eq_false_iff]
        intro h2
        exact h ((fitL_iff _ _).1 h2 _ (el_lt hlt))
      have HM : Hid (lngE (el es j) ≤ n → ∀ i, i < j + 1 → lngE (el es i) ≤ n) := fun h i hi => by
        by_cases e : i = j
        · rw [e]; exact h
        · exact HN.out i (by omega)
      have j1 : (j : Int) < (es.length : Int) := by omega
      clear hD c1 c0 HR HO HN
      generalize el es j = x at *
      generalize lngE x = L at *
      by_cases hL : L ≤ n
      · have hL2 : ¬ (n : Int) < (L : Int) := by omega
        have h3 := hidT (HM.out hL)
        clear HM HX hL
        go_wp2_with fail
        refine (H1.out.go _).mono ?_
        rintro e w4 ⟨rfl, hb4⟩
        have HD4 : Hid (Below W.heap.size W w4) := (HD.out.alloc HD.out.size _).trans (hb4.mono (by have := HD.out.size; simp; omega))
        clear hb4 d1 d0 HD
        go_wp2
        exact ⟨⟨j + 1, hlt, by simp, h3, HD4.out⟩, by simp [intOf]; omega⟩
      · have hL2 : (n : Int) < (L : Int) := by omega
        have h3 := hidT (HX.out hL)
        clear HM HX hL
        go_wp2_with fail
        refine (H1.out.go _).mono ?_
        rintro e w4 ⟨rfl, hb4⟩
        have HD4 : Hid (Below W.heap.size W w4) := (HD.out.alloc HD.out.size _).trans (hb4.mono (by have := HD.out.size; simp; omega))
        clear hb4 d1 d0 HD
        go_wp2
        go_ret
        exact ⟨by rw [h3.out]; rfl, HD4.out⟩
    · have HD : Hid (Below W.heap.size W wr) := hD
      obtain rfl : j = es.length := by omega
      have h3 : Hid (fitL es n = true) := by
        show _ = _
        rw [fitL_iff]
        intro e he
        obtain ⟨i, hi, rfl⟩ := mem_el he
        exact HN.out i hi
      clear hD
      go_wp2
      go_ret
      exact ⟨by rw [h3.out]; rfl, HD.out⟩
set_option maxHeartbeats 8000000 in
set_option maxRecDepth 100000 in
theorem back_ok (a : Option Addr) (cap : Nat) (m : List (Nat × Nat)) (hw : Wh m) (W : World) (hr : ERow W a m) :
    Calls Try.prog 24 #[.slice a m.length cap] W fun e w' => ∃ g, e = .returned (.tuple #[.slice (some ⟨g, 0, none⟩) m.length m.length, .int .i64 0]) ∧ ERow w' (some ⟨g, 0, none⟩) (bkL m) ∧ Below W.heap.size W w' := by
  have HM := hidT (smap_yes a m.length cap hw.le)
  have hfit : fitL m m.length = true := (fitL_iff _ _).2 fun e he => by
    obtain ⟨i, _, rfl⟩ := mem_el he
    exact hw.fit i
  have HF : Hid (∀ w, Below W.heap.size W w → Calls Try.prog 42 #[.slice a m.length cap, .int .i64 (m.length : Int)] w fun e w' => e = .returned (.bool true) ∧ Below w.heap.size w w') := fun w hb => by
    have := within_any a cap m.length m hw.lt (by have := hw.le; omega) w (hr.below hb)
    rwa [hfit] at this
  have HE : Hid (∀ w, Below W.heap.size W w → Calls Try.prog 43 #[.slice a m.length cap] w fun e w' => ∃ a0 n0 a1 n1, e = .returned (.agg #[.slice a0 (elm m m.length).1.length n0, .slice a1 (elm m m.length).2.length n1]) ∧
      (∀ i : Nat, ∀ w2, Below w'.heap.size w' w2 → Calls Try.prog 44 #[.agg #[.slice a0 (elm m m.length).1.length n0, .slice a1 (elm m m.length).2.length n1], .agg #[.int .u64 ((bv (i : Int)).1 : Int), .int .u64 ((bv (i : Int)).2 : Int)]] w2 fun e w3 => e = .returned (.tuple #[.agg #[.int .u64 (((redv (elm m m.length).1 (bv (i : Int)) (elm m m.length).1.length).1.1 : Nat) : Int), .int .u64 (((redv (elm m m.length).1 (bv (i : Int)) (elm m m.length).1.length).1.2 : Nat) : Int)], .agg #[.int .u64 ((bk m i).1 : Int), .int .u64 ((bk m i).2 : Int)]]) ∧ Below w2.heap.size w2 w3) ∧ Below w.heap.size w w') := fun w hb => by
    refine (elim_red a cap m hw.lt hw.le w (hr.below hb)).mono ?_
    rintro e w' ⟨a0, n0, a1, n1, rfl, _, _, h, hb⟩
    exact ⟨a0, n0, a1, n1, rfl, fun i w2 h2 => h w2 h2 (bv (i : Int)) (bv_lt2 _), hb⟩
  have e1 : (elm m m.length).1.length = m.length := by rw [elm_len hw.lt, hw.rank]
  have HBt : Hid (∀ i : Nat, Ret 21 #[.int .i64 (i : Int)] (.agg #[.int .u64 ((bv (i : Int)).1 : Int), .int .u64 ((bv (i : Int)).2 : Int)])) := fun i => bit_any (i : Int)
  have hle := hw.le
  have HL : Hid ((bkL m).length = m.length ∧ ∀ i, i < m.length → el (bkL m) i = bk m i) := ⟨bkL_len m, fun i hi => bkL_at m hi⟩
  obtain ⟨i0, hi0, hz0, hz1, hz2⟩ := info_elem
  have HI : Hid (Try.prog.info? 24 = some i0 ∧ i0.zero = some (.agg #[.int .u64 0, .int .u64 0]) ∧ i0.size = 2 ∧ i0.bytes = 16) := ⟨hi0, hz0, hz1, hz2⟩
  clear hr hw hfit hi0 hz0 hz1 hz2
  generalize (elm m m.length).2.length = N2 at *
  generalize bkL m = L at *
  generalize bk m = f at *
  obtain ⟨lf, hlf⟩ : ∃ lf : Nat → Nat × Nat, lf = fun i : Nat => (redv (elm m m.length).1 (bv (i : Int)) (elm m m.length).1.length).1 := ⟨_, rfl⟩
  replace HE : Hid (∀ w, Below W.heap.size W w → Calls Try.prog 43 #[.slice a m.length cap] w fun e w' => ∃ a0 n0 a1 n1, e = .returned (.agg #[.slice a0 (elm m m.length).1.length n0, .slice a1 N2 n1]) ∧
      (∀ i : Nat, ∀ w2, Below w'.heap.size w' w2 → Calls Try.prog 44 #[.agg #[.slice a0 (elm m m.length).1.length n0, .slice a1 N2 n1], .agg #[.int .u64 ((bv (i : Int)).1 : Int), .int .u64 ((bv (i : Int)).2 : Int)]] w2 fun e w3 => e = .returned (.tuple #[.agg #[.int .u64 ((lf i).1 : Int), .int .u64 ((lf i).2 : Int)], .agg #[.int .u64 ((f i).1 : Int), .int .u64 ((f i).2 : Int)]]) ∧ Below w2.heap.size w2 w3) ∧ Below w.heap.size w w') := by rw [hlf]; exact HE
  clear hlf
  rw [e1] at HE
  clear e1
  generalize m.length = N at *
  go_enter Try.func24, Try.ntmps24
  go_upto_region 6 with (first
    | (go_at_call 39; refine (HM.out.go _).mono ?_; rintro e w1 ⟨rfl, hb1⟩; have D1 := hidT hb1; clear hb1 HM)
    | (go_at_call 42; refine (HF.out _ D1.out).mono ?_; rintro e w2 ⟨rfl, hb2⟩; have D2 := hidT (D1.out.trans (hb2.mono D1.out.size)); clear hb2 HF D1)
    | (go_at_call 43; refine (HE.out _ D2.out).mono ?_; rintro e w3 ⟨a0, n0, a1, n1, rfl, hred, hb3⟩; have D3 := hidT (And.intro (D2.out.trans (hb3.mono D2.out.size)) hred); clear hb3 hred D2 HE))
  have B1 : Below w3.heap.size w3 (w3.alloc (Obj.cells #[.slice a0 N n0, .slice a1 N2 n1] 75)) := by go_grown
  have HB : Hid ((w3.alloc (Obj.cells #[.slice a0 N n0, .slice a1 N2 n1] 75)).cell? ⟨w3.heap.size, 0, none⟩ = some (.slice a0 N n0) ∧ (w3.alloc (Obj.cells #[.slice a0 N n0, .slice a1 N2 n1] 75)).cell? ⟨w3.heap.size, 1, none⟩ = some (.slice a1 N2 n1) ∧ Below W.heap.size W (w3.alloc (Obj.cells #[.slice a0 N n0, .slice a1 N2 n1] 75)) ∧ (∀ i : Nat, ∀ w2, Below (w3.alloc (Obj.cells #[.slice a0 N n0, .slice a1 N2 n1] 75)).heap.size (w3.alloc (Obj.cells #[.slice a0 N n0, .slice a1 N2 n1] 75)) w2 → Calls Try.prog 44 #[.agg #[.slice a0 N n0, .slice a1 N2 n1], .agg #[.int .u64 ((bv (i : Int)).1 : Int), .int .u64 ((bv (i : Int)).2 : Int)]] w2 fun e w3 => e = .returned (.tuple #[.agg #[.int .u64 ((lf i).1 : Int), .int .u64 ((lf i).2 : Int)], .agg #[.int .u64 ((f i).1 : Int), .int .u64 ((f i).2 : Int)]]) ∧ Below w2.heap.size w2 w3)) := ⟨by simp [go_sem], by simp [go_sem], D3.out.1.trans (B1.mono D3.out.1.size), fun i w2 h2 => D3.out.2 i w2 (B1.trans (h2.mono B1.size))⟩
  clear B1 D3
  generalize w3.alloc (Obj.cells #[.slice a0 N n0, .slice a1 N2 n1] 75) = Wb at *
  generalize w3.heap.size = g4 at *
  have c0 := HB.out.1
  go_wp2_with (at_make; refine wpList_make_full _ rfl _ _ 26 rfl 0 24 i0 (.agg #[.int .u64 0, .int .u64 0]) 2 Try.underlying26 HI.out.1 HI.out.2.1 HI.out.2.2.1 .i64 .i64 _ _ N rfl rfl rfl rfl (by rw [HI.out.2.2.2]; omega) (by simp only [maxLen]; omega) (Nat.zero_le _) ?_; intro w5 own5 hgr5; have K0 : Hid (Tn Wb w5 N (fun j => if j < 0 then f j else (0, 0))) := Tn.start own5 hgr5 _ (fun c _ => if_neg (by omega)); clear own5 hgr5)
  clear HI c0
  go_loopw [28] (fun u wr => ∃ i : Nat, i ≤ N ∧ u = .int .i64 i ∧ Hid (Tn Wb wr N (fun j => if j < i then f j else (0, 0)))) (fun u _ => N - (intOf u).toNat)
  case atStart => exact ⟨0, Nat.zero_le _, rfl, K0⟩
  case round =>
    obtain ⟨i, hi, rfl, HK⟩ := hrel
    clear K0
    by_cases hlt : i < N
    · have HBi := hidT (HBt.out i)
      have HRd := hidT (HB.out.2.2.2 i)
      have i1 : (i : Int) < (N : Int) := by omega
      have i0' : (0 : Int) ≤ (i : Int) := by omega
      have hgr := HK.out.row.lt
      clear HBt
      generalize hx : f i = x at *
      have HX := hidT hx
      clear hx
      generalize lf i = q at *
      generalize bv (i : Int) = y at *
      go_upto_region 12 with fail
      have K := hidT HK.out.drew
      clear HK
      refine wp_region_noPanic ?_
      refine wp_region_peel (S := fun w => w.cell? ⟨g4, 0, none⟩ = some (.slice a0 N n0) ∧ w.cell? ⟨g4, 1, none⟩ = some (.slice a1 N2 n1)) 10 (by kernel_rfl) rfl (by kernel_rfl) ?_ (fun hHeld => ?_)
      · exact ⟨keepc K.out.d HB.out.1, keepc K.out.d HB.out.2.1⟩
      refine wpAnyH_take (i := 0) (oi := _) (v := ?_) rfl (by kernel_rfl) (by kernel_rfl) (by kernel_rfl) (fun _ _ _ h => h) (Or.inl ⟨by rfl, ?_⟩) (by assumption) ?_
      rotate_left
      · ((intro w hSw; (try dsimp only at hSw); go_simp) <;> (try with_reducible rfl))
      show wpAnyH _ _ _ _ _ _ _ (Act.put _ (some 32) _) _
      simp only [Act.put, List.setIfInBounds_toArray, List.set_cons_succ, List.set_cons_zero]
      refine wpAnyH_take (i := 1) (oi := _) (v := ?_) rfl (by kernel_rfl) (by kernel_rfl) (by kernel_rfl) (fun _ _ _ h => h) (Or.inl ⟨by rfl, ?_⟩) (by assumption) ?_
      rotate_left
      · ((intro w hSw; (try dsimp only at hSw); go_simp) <;> (try with_reducible rfl))
      show wpAnyH _ _ _ _ _ _ _ (Act.put _ (some 33) _) _
      simp only [Act.put, List.setIfInBounds_toArray, List.set_cons_succ, List.set_cons_zero]
      refine wpAnyH_take (i := 2) (oi := _) (v := ?_) rfl (by kernel_rfl) (by kernel_rfl) (by kernel_rfl) (fun _ _ _ h => h) (Or.inl ⟨by rfl, ?_⟩) (by assumption) ?_
      rotate_left
      · ((intro w hSw; (try dsimp only at hSw); go_simp) <;> (try with_reducible rfl))
      show wpAnyH _ _ _ _ _ _ _ (Act.put _ (some 34) _) _
      simp only [Act.put, List.setIfInBounds_toArray, List.set_cons_succ, List.set_cons_zero]
      refine wpAnyH_take (i := 3) (oi := _) (v := ?_) rfl (by kernel_rfl) (by kernel_rfl) (by kernel_rfl) (fun _ _ _ h => h) (Or.inl ⟨by rfl, ?_⟩) (by assumption) ?_
      rotate_left
      · ((intro w hSw; (try dsimp only at hSw); go_simp) <;> (try with_reducible rfl))
      show wpAnyH _ _ _ _ _ _ _ (Act.put _ (some 35) _) _
      simp only [Act.put, List.setIfInBounds_toArray, List.set_cons_succ, List.set_cons_zero]
      refine wpAnyH_ready (rs := [4]) (by kernel_rfl) (by simp) ?_
      refine AllReadyH.cons (o := _) rfl (fun KK hKK => ?_) AllReadyH.nil
      go_simp
      (refine (HBi.out.go _).mono ?_; rintro e w' ⟨rfl, hb'⟩)
      have K'' := hidT (K.out.below (w' := w') hb'); clear K hb'; have K := K''; clear K''
      refine hKK.out _ _ ?_ (fun hHeld => ?_)
      · exact ⟨keepc K.out.d HB.out.1, keepc K.out.d HB.out.2.1⟩
      clear hKK KK
      try simp only [Act.put]
      refine wpAnyH_ready (rs := [5]) (by kernel_rfl) (by simp) ?_
      refine AllReadyH.cons (o := _) rfl (fun KK hKK => ?_) AllReadyH.nil
      go_simp
      (refine (HRd.out _ K.out.d).mono ?_; rintro e w' ⟨rfl, hb'⟩)
      have K'' := hidT (K.out.below (w' := w') hb'); clear K hb'; have K := K''; clear K''
      refine hKK.out _ _ ?_ (fun hHeld => ?_)
      · exact ⟨keepc K.out.d HB.out.1, keepc K.out.d HB.out.2.1⟩
      clear hKK KK
      try simp only [Act.put]
      refine wpAnyH_take (i := 6) (oi := _) (v := ?_) rfl (by kernel_rfl) (by kernel_rfl) (by kernel_rfl) (fun _ _ _ h => h) (Or.inl ⟨by rfl, ?_⟩) (by assumption) ?_
      rotate_left
      · ((intro w hSw; (try dsimp only at hSw); go_simp) <;> (try with_reducible rfl))
      show wpAnyH _ _ _ _ _ _ _ (Act.put _ (some 31) _) _
      simp only [Act.put, List.setIfInBounds_toArray, List.set_cons_succ, List.set_cons_zero]
      refine wpAnyH_take (i := 7) (oi := _) (v := ?_) rfl (by kernel_rfl) (by kernel_rfl) (by kernel_rfl) (fun _ _ _ h => h) (Or.inl ⟨by rfl, ?_⟩) (by assumption) ?_
      rotate_left
      · ((intro w hSw; (try dsimp only at hSw); go_simp) <;> (try with_reducible rfl))
      show wpAnyH _ _ _ _ _ _ _ (Act.put _ (some 38) _) _
      simp only [Act.put, List.setIfInBounds_toArray, List.set_cons_succ, List.set_cons_zero]
      refine wpAnyH_take (i := 8) (oi := _) (v := ?_) rfl (by kernel_rfl) (by kernel_rfl) (by kernel_rfl) (fun _ _ _ h => h) (Or.inl ⟨by rfl, ?_⟩) (by assumption) ?_
      rotate_left
      · ((intro w hSw; (try dsimp only at hSw); go_simp) <;> (try with_reducible rfl))
      show wpAnyH _ _ _ _ _ _ _ (Act.put _ (some 39) _) _
      simp only [Act.put, List.setIfInBounds_toArray, List.set_cons_succ, List.set_cons_zero]
      refine wpAnyH_take (i := 9) (oi := _) (v := ?_) rfl (by kernel_rfl) (by kernel_rfl) (by kernel_rfl) (fun _ _ _ h => h) (Or.inl ⟨by rfl, ?_⟩) (by assumption) ?_
      rotate_left
      · ((intro w hSw; (try dsimp only at hSw); go_simp) <;> (try with_reducible rfl))
      show wpAnyH _ _ _ _ _ _ _ (Act.put _ (some 40) _) _
      simp only [Act.put, List.setIfInBounds_toArray, List.set_cons_succ, List.set_cons_zero]
      refine wpAnyH_done (by kernel_rfl) ?_ _
      refine peel_last rfl (fun KK hKK => ?_)
      clear hHeld
      obtain ⟨r1, r0, f1, f0⟩ := K.out.facts i hlt
      clear HBi HRd HB
      go_simp
      refine hKK _ _ ?_
      refine NoPanic.normal ?_
      clear hKK KK
      have KP := hidT (K.out.put i x (fun j => if j < i + 1 then f j else (0, 0)) fun c _ => by
        by_cases h2 : c = i
        · rw [if_pos (by omega), if_pos h2, h2, HX.out]
        · rw [if_neg h2]
          by_cases h1 : c < i
          · rw [if_pos h1, if_pos (by omega)]
          · rw [if_neg h1, if_neg (by omega)])
      clear K r1 r0 f1 f0
      go_wp2
      exact ⟨⟨i + 1, hlt, by simp, KP⟩, by simp [intOf]; omega⟩
    · obtain rfl : i = N := by omega
      have HE : Hid (ERow wr (some ⟨Wb.heap.size, 0, none⟩) L ∧ Below W.heap.size W wr) := ⟨HK.out.erow HL.out.1 fun c hc => by rw [HL.out.2 c hc, if_pos hc], HB.out.2.2.1.trans (HK.out.d.mono HB.out.2.2.1.size)⟩
      clear HK HB HL HBt
      go_wp2
      refine bodyPost_ret (v := .tuple #[.slice (some ⟨Wb.heap.size, 0, none⟩) i i, .int .i64 0]) (by simp [results, Try.results24, go_sem, *]) rfl ⟨_, rfl, HE.out⟩
end Go.Proofs.Ytjdfbjdbfncofaa
