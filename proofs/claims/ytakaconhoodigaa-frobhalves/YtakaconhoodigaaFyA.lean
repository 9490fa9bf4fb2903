/- Least polynomials, pure: products of X + c, in whatever order; their coefficients are 0 and 1; their values. No Go in sight. -/
import Derived.Test.YtakaconhoodigaaPFrM
import Derived.Test.YtakaconhoodigaaFrF
namespace Go.Proofs.Ytakaconhoodigaa
open Cb
open Tw (pm)
namespace Fr

/-- What is its own power is of the level. -/
theorem fixed_of {j : Nat} (hj8 : j < 8) {t : Nat × Nat} (l : lt2 t) (hf : sqv t (2 ^ j) = t) : ofE j t := by
  have hx : Tw.d7 (sqv t (2 ^ j)).1 (sqv t (2 ^ j)).2 = Tw.d7 t.1 t.2 := by rw [hf]
  rw [d7_sqv] at hx
  refine (ofB_iff j t.1 t.2 hj8).2 ?_
  by_cases h7 : j = 7
  · exact .inl h7
  · right
    have hlev := Tw.fixed_levels j (7 - j)
    rw [show j + (7 - j) = 7 by omega] at hlev
    have hb := hlev _ hx
    have e7 : Tw.enc 7 (Tw.d7 t.1 t.2) = 2 ^ 64 * t.1 + t.2 := by
      rw [← Tw.dec7 t.1 t.2 l.2, Tw.enc_dec_lt]
      · have := l.1; have := l.2
        show 2 ^ 64 * t.1 + t.2 < 2 ^ 128
        omega
    rw [e7] at hb
    have hp : 2 ^ 2 ^ j ≤ 2 ^ 64 := Nat.pow_le_pow_right (by decide) (Nat.pow_le_pow_right (n := 2) (by decide) (show j ≤ 6 by omega))
    have h0 : t.1 = 0 := by
      rcases Nat.eq_zero_or_pos t.1 with h0 | h0
      · exact h0
      · exfalso
        have : 2 ^ 64 * 1 ≤ 2 ^ 64 * t.1 := Nat.mul_le_mul_left _ h0
        omega
    rw [h0] at hb
    exact ⟨h0, by omega⟩
theorem doubled : ∀ K m : Nat, 0 < m → m < 2 ^ (K + 1) → ∃ t, (m * 2 ^ t) % 2 ^ (K + 1) = 2 ^ K
  | 0, m, h0, h1 => ⟨0, by
    have : m = 1 := by simp at h1; omega
    subst this; rfl⟩
  | K + 1, m, h0, h1 => by
    by_cases hm : m % 2 ^ (K + 1) = 0
    · refine ⟨0, ?_⟩
      have e := Nat.div_add_mod m (2 ^ (K + 1))
      have hq : m / 2 ^ (K + 1) = 1 := by
        have h2 : m / 2 ^ (K + 1) < 2 := Nat.div_lt_of_lt_mul (by rw [← Nat.pow_succ]; exact h1)
        have h3 : 0 < m / 2 ^ (K + 1) := by
          rcases Nat.eq_zero_or_pos (m / 2 ^ (K + 1)) with h | h
          · rw [h, hm] at e; omega
          · exact h
        omega
      rw [hq, hm] at e
      rw [Nat.pow_zero, Nat.mul_one, Nat.mod_eq_of_lt h1]; omega
    · obtain ⟨t, ht⟩ := doubled K (m % 2 ^ (K + 1)) (Nat.pos_of_ne_zero hm) (Nat.mod_lt _ (Nat.two_pow_pos _))
      refine ⟨t + 1, ?_⟩
      have e1 : (m * 2 ^ t) % 2 ^ (K + 1) = 2 ^ K := by rw [← ht, Nat.mod_mul_mod]
      rw [Nat.pow_succ 2 t, ← Nat.mul_assoc, Nat.mul_comm (m * 2 ^ t) 2, Nat.pow_succ 2 (K + 1), Nat.mul_comm (2 ^ (K + 1)) 2, Nat.mul_mod_mul_left, e1, Nat.pow_succ, Nat.mul_comm]
theorem sqv_mul {a : Nat × Nat} (la : lt2 a) {m : Nat} (h : sqv a m = a) : ∀ n, sqv a (m * n) = a
  | 0 => rfl
  | n + 1 => by rw [Nat.mul_succ, ← sqv_sqv la, sqv_mul la h n, h]
/-- No conjugate comes twice in the element's own level. -/
theorem conj_ne {k : Nat} (hk : k < 8) {a : Nat × Nat} (la : lt2 a) (oa : ofE k a) (hno : ∀ j, j < k → ¬ ofE j a) {i j : Nat} (hij : i < j) (hj : j < 2 ^ k) : sqv a i ≠ sqv a j := fun e => by
  have hM := sqv_back hk la oa
  have e2 : sqv a (j - i) = a := by
    have h1 : sqv (sqv a i) (2 ^ k - i) = sqv (sqv a j) (2 ^ k - i) := by rw [e]
    rw [sqv_sqv la, sqv_sqv la, show i + (2 ^ k - i) = 2 ^ k by omega, hM, show j + (2 ^ k - i) = 2 ^ k + (j - i) by omega, ← sqv_sqv la, hM] at h1
    exact h1.symm
  rcases k with _ | K
  · simp at hj; omega
  · obtain ⟨t, ht⟩ := doubled K (j - i) (by omega) (by omega)
    have h3 := sqv_mul la e2 (2 ^ t)
    have e4 := Nat.div_add_mod ((j - i) * 2 ^ t) (2 ^ (K + 1))
    rw [ht] at e4
    rw [← e4, ← sqv_sqv la, sqv_mul la hM] at h3
    exact hno K (by omega) (fixed_of (by omega) la h3)
theorem conj_again {k : Nat} (hk : k < 8) {a : Nat × Nat} (la : lt2 a) (oa : ofE k a) (i : Nat) : sqv a (i % 2 ^ k) = sqv a i := by
  have := Nat.div_add_mod i (2 ^ k)
  conv => rhs; rw [← this]
  rw [← sqv_sqv la, sqv_mul la (sqv_back hk la oa)]
theorem zero_pmL (c : Nat × Nat) : pm (0, 0) c = (0, 0) := by rw [Tw.pm_comm', pm_zero]
theorem el_over {cs : List (Nat × Nat)} {j : Nat} (h : cs.length ≤ j) : el cs j = (0, 0) := by
  unfold el
  rw [List.getD_eq_getElem?_getD, List.getElem?_eq_none h]; rfl
theorem el_tms (cs : List (Nat × Nat)) (c : Nat × Nat) (j : Nat) : el (tms cs c) j = tmE cs c j := by
  by_cases h : j < cs.length + 1
  · exact tms_el cs c h
  · rw [el_over (by rw [tms_len]; omega)]
    unfold tmE pvE
    rw [if_neg (by omega), el_over (cs := cs) (j := j - 1) (by omega), el_over (cs := cs) (j := j) (by omega), zero_pmL]
    rfl
theorem ext_el {a b : List (Nat × Nat)} (hl : a.length = b.length) (h : ∀ j, el a j = el b j) : a = b := by
  refine List.ext_getElem hl fun i h1 h2 => ?_
  have := h i
  unfold el at this
  simpa [List.getD_eq_getElem?_getD, h1, h2] using this
theorem tms_comm (cs : List (Nat × Nat)) (c d : Nat × Nat) : tms (tms cs c) d = tms (tms cs d) c := by
  refine ext_el (by simp [tms_len]) fun j => ?_
  rw [el_tms, el_tms]
  unfold tmE
  rw [el_tms, el_tms]
  have hp : ∀ e, pvE (tms cs e) j = if j = 0 then (0, 0) else tmE cs e (j - 1) := fun e => by
    unfold pvE
    rw [el_tms]
  rw [hp, hp]
  unfold tmE
  have q : ∀ x : Nat × Nat, pm (pm x c) d = pm (pm x d) c := fun x => by rw [Tw.pm_assoc', Tw.pm_comm' c d, ← Tw.pm_assoc']
  have ad : ∀ x y z : Nat × Nat, pm (xa x y) z = xa (pm x z) (pm y z) := fun x y z => by rw [Tw.pm_comm', pm_xa, Tw.pm_comm' z x, Tw.pm_comm' z y]
  by_cases h0 : j = 0
  · subst h0
    simp only [if_true]
    rw [show pvE cs 0 = (0, 0) from rfl, zero_xa, zero_xa, zero_xa, zero_xa]
    exact q _
  · simp only [h0, if_false]
    rw [show pvE cs j = el cs (j - 1) by unfold pvE; rw [if_neg h0], ad, ad, q (el cs j)]
    rw [← xa_assoc, ← xa_assoc, xa_assoc (pvE cs (j - 1)), xa_assoc (pvE cs (j - 1)), xa_comm (pm (el cs (j - 1)) c)]
    simp only [xa_assoc]
/-- All multiplied. -/
def prd (s : List (Nat × Nat)) (l : List (Nat × Nat)) : List (Nat × Nat) := l.foldl tms s
theorem prd_snoc (s l : List (Nat × Nat)) (c : Nat × Nat) : prd s (l ++ [c]) = tms (prd s l) c := by simp [prd]
theorem prd_front (c : Nat × Nat) : ∀ (l s : List (Nat × Nat)), prd s (c :: l) = tms (prd s l) c
  | [], _ => rfl
  | x :: l, s => by
    show prd (tms (tms s c) x) l = tms (prd (tms s x) l) c
    rw [tms_comm]
    exact prd_front c l (tms s x)
theorem cfl_prd {k : Nat} (xs : List (Ek k)) : cfl xs = prd [(0, 1)] (xs.map fun x => x.1) := by
  unfold cfl prd
  rw [List.foldl_map]
theorem prd_len (s l : List (Nat × Nat)) : (prd s l).length = s.length + l.length := by
  induction l generalizing s with
  | nil => rfl
  | cons x l ih => rw [show prd s (x :: l) = prd (tms s x) l from rfl, ih, tms_len, List.length_cons]; omega
theorem lt_prd : ∀ (l s : List (Nat × Nat)), ltE s → ltE (prd s l)
  | [], _, h => h
  | x :: l, _, h => lt_prd l _ (lt_tms h x)
def sq (e : Nat × Nat) : Nat × Nat := sqv e 1
theorem sq_xa {a b : Nat × Nat} (la : lt2 a) (lb : lt2 b) : sq (xa a b) = xa (sq a) (sq b) := goes_add.2 _ _ _ la lb
theorem sq_pm {a b : Nat × Nat} (la : lt2 a) (lb : lt2 b) : sq (pm a b) = pm (sq a) (sq b) := goes_mul.2 _ _ _ la lb
theorem sq_zero : sq (0, 0) = (0, 0) := goes_add.1 1
theorem sq_one : sq (0, 1) = (0, 1) := goes_mul.1 1
theorem el_map (cs : List (Nat × Nat)) (j : Nat) : el (cs.map sq) j = sq (el cs j) := by
  unfold el
  rw [List.getD_eq_getElem?_getD, List.getElem?_map, List.getD_eq_getElem?_getD]
  cases cs[j]? with
  | none => exact sq_zero.symm
  | some x => rfl
theorem lt_el {cs : List (Nat × Nat)} (h : ltE cs) (j : Nat) : lt2 (el cs j) := ltE_el h j
theorem tms_sq {cs : List (Nat × Nat)} (h : ltE cs) {c : Nat × Nat} (lc : lt2 c) : (tms cs c).map sq = tms (cs.map sq) (sq c) := by
  refine ext_el (by simp [tms_len]) fun j => ?_
  rw [el_map, el_tms, el_tms]
  unfold tmE
  rw [sq_xa (lt_pvE h j) (lt_pm _ _), sq_pm (lt_el h j) lc, el_map]
  congr 1
  unfold pvE
  split
  · exact sq_zero
  · rw [el_map]
theorem prd_sq : ∀ (l s : List (Nat × Nat)), ltE s → ltE l → (prd s l).map sq = prd (s.map sq) (l.map sq)
  | [], _, _, _ => rfl
  | x :: l, s, hs, hl => by
    show (prd (tms s x) l).map sq = prd (tms (s.map sq) (sq x)) (l.map sq)
    rw [prd_sq l _ (lt_tms hs x) (fun e he => hl e (List.mem_cons_of_mem _ he)), tms_sq hs (hl x (List.mem_cons_self ..))]
/-- The first conjugates. -/
def cl (a : Nat × Nat) (n : Nat) : List (Nat × Nat) := (List.range n).map fun i => sqv a i
theorem lt_cl {a : Nat × Nat} (la : lt2 a) (n : Nat) : ltE (cl a n) := fun e he => by
  obtain ⟨i, _, rfl⟩ := List.mem_map.1 he
  exact lt_sqv la i
theorem cl_succ (a : Nat × Nat) (n : Nat) : cl a (n + 1) = cl a n ++ [sqv a n] := by simp [cl, List.range_succ]
theorem cl_front (a : Nat × Nat) (n : Nat) : cl a (n + 1) = a :: (List.range n).map fun i => sqv a (i + 1) := by
  simp [cl, List.range_succ_eq_map, Function.comp_def]; rfl
/-- The least polynomial. -/
def lst (a : Nat × Nat) (n : Nat) : List (Nat × Nat) := prd [(0, 1)] (cl a n)
theorem lst_len (a : Nat × Nat) (n : Nat) : (lst a n).length = n + 1 := by unfold lst; rw [prd_len]; simp [cl]; omega
theorem lst_succ (a : Nat × Nat) (n : Nat) : lst a (n + 1) = tms (lst a n) (sqv a n) := by unfold lst; rw [cl_succ, prd_snoc]
theorem lt_lst {a : Nat × Nat} (n : Nat) : ltE (lst a n) := lt_prd _ _ (fun e he => by simp at he; subst he; exact lt_one)
theorem lst_sq {k : Nat} (hk : k < 8) {a : Nat × Nat} (la : lt2 a) (oa : ofE k a) : (lst a (2 ^ k)).map sq = lst a (2 ^ k) := by
  unfold lst
  rw [prd_sq _ _ (fun e he => by simp at he; subst he; exact lt_one) (lt_cl la _)]
  have e1 : [((0 : Nat), 1)].map sq = [(0, 1)] := by simp [sq_one]
  rw [e1]
  obtain ⟨n, hn⟩ : ∃ n, 2 ^ k = n + 1 := ⟨2 ^ k - 1, by have := Nat.two_pow_pos k; omega⟩
  have e2 : (cl a (2 ^ k)).map sq = ((List.range n).map fun i => sqv a (i + 1)) ++ [a] := by
    have hb := sqv_back hk la oa
    rw [hn] at hb ⊢
    have A : (cl a n).map sq = (List.range n).map fun i => sqv a (i + 1) := by
      unfold cl
      rw [List.map_map]
      exact List.map_congr_left fun i _ => by show sqv (sqv a i) 1 = _; rw [sqv_sqv la]
    have B : sq (sqv a n) = a := by
      show sqv (sqv a n) 1 = _
      rw [sqv_sqv la, hb]
    rw [cl_succ, List.map_append, List.map_cons, List.map_nil, A, B]
  rw [e2, hn, cl_front, prd_snoc, prd_front]
/-- Its coefficients are 0 and 1. -/
theorem lst_bit {k : Nat} (hk : k < 8) {a : Nat × Nat} (la : lt2 a) (oa : ofE k a) (j : Nat) : el (lst a (2 ^ k)) j = (0, 0) ∨ el (lst a (2 ^ k)) j = (0, 1) := by
  have h1 : sq (el (lst a (2 ^ k)) j) = el (lst a (2 ^ k)) j := by rw [← el_map, lst_sq hk la oa]
  have l := lt_el (lt_lst (a := a) (2 ^ k)) j
  have h2 := (ofB_iff 0 _ _ (by decide)).1 (fixed_of (j := 0) (by decide) l h1)
  rcases h2 with h | ⟨h3, h4⟩
  · omega
  · generalize el (lst a (2 ^ k)) j = e at *
    obtain ⟨e1, e0⟩ := e
    simp at h3 h4
    subst h3
    rcases (show e0 = 0 ∨ e0 = 1 by omega) with rfl | rfl
    · exact .inl rfl
    · exact .inr rfl
/-- Powers. -/
def pwx (x : Nat × Nat) : Nat → Nat × Nat
  | 0 => (0, 1)
  | n + 1 => pm (pwx x n) x
theorem lt_pwx (x : Nat × Nat) (n : Nat) : lt2 (pwx x n) := by cases n; exact lt_one; exact lt_pm _ _
/-- The value. -/
def evl (cs : List (Nat × Nat)) (x : Nat × Nat) (n : Nat) : Nat × Nat := fo xa (0, 0) n fun i => pm (el cs i) (pwx x i)
theorem lt_evl (cs : List (Nat × Nat)) (x : Nat × Nat) (n : Nat) : lt2 (evl cs x n) := lt_fo mon_add (fun _ => lt_pm _ _) n
theorem evl_tms (cs : List (Nat × Nat)) (x : Nat × Nat) : ∀ n, evl (tms cs x) x (n + 1) = pm (el cs n) (pwx x (n + 1))
  | 0 => by
    show xa (0, 0) (pm (el (tms cs x) 0) (pwx x 0)) = pm (el cs 0) (pm (0, 1) x)
    rw [zero_xa, el_tms]
    unfold tmE
    rw [show pvE cs 0 = (0, 0) from rfl, zero_xa, show pwx x 0 = (0, 1) from rfl, Tw.pm_assoc', Tw.pm_comm' x]
  | n + 1 => by
    show xa (evl (tms cs x) x (n + 1)) (pm (el (tms cs x) (n + 1)) (pwx x (n + 1))) = _
    rw [evl_tms cs x n, el_tms]
    unfold tmE
    rw [show pvE cs (n + 1) = el cs n from rfl, Tw.pm_comm' (xa _ _), pm_xa, Tw.pm_comm' (pwx x (n + 1)) (el cs n), ← xa_assoc, xa_self]
    rw [zero_xa, Tw.pm_comm' (pwx x (n + 1)), Tw.pm_assoc', Tw.pm_comm' x]
    rfl
/-- It is its zero. -/
theorem lst_zero {a : Nat × Nat} (m : Nat) (hm : 0 < m) : evl (lst a m) a (m + 1) = (0, 0) := by
  obtain ⟨n, rfl⟩ : ∃ n, m = n + 1 := ⟨m - 1, by omega⟩
  have h : lst a (n + 1) = tms (prd [(0, 1)] ((List.range n).map fun i => sqv a (i + 1))) a := by
    unfold lst
    rw [cl_front, prd_front]
  rw [h, evl_tms, el_over (by rw [prd_len]; simp; omega), zero_pmL]
end Fr
end Go.Proofs.Ytakaconhoodigaa
