/- Parts, batches and masks of packed bits, no Go in sight: what parts say is the bits' value, and batched they are the sum of the packed table times the mask. -/
import Derived.Test.YtcejppibcemdeaaCbG
import Derived.Test.YtcejppibcemdeaaPTwBu
import Derived.Test.YtcejppibcemdeaaWvP
namespace Go.Proofs.Ytcejppibcemdeaa
namespace Rg
open Cb
open Tw (pm)

theorem xs_add (f : Nat → Nat × Nat) (a : Nat) : ∀ b, xs (a + b) f = xa (xs a f) (xs b fun i => f (a + i))
  | 0 => by simp only [Nat.add_zero, xs, xa_zero]
  | b + 1 => by rw [← Nat.add_assoc]; simp only [xs]; rw [xs_add f a b, xa_assoc]
theorem xs_pm (t : Nat × Nat) (f : Nat → Nat × Nat) : ∀ n, pm (xs n f) t = xs n fun i => pm (f i) t
  | 0 => by simp only [xs, zero_pm]
  | n + 1 => by simp only [xs]; rw [xa_pm, xs_pm t f n]
theorem pm_xs (t : Nat × Nat) (f : Nat → Nat × Nat) (n : Nat) : pm t (xs n f) = xs n fun i => pm t (f i) := by
  rw [Tw.pm_comm', xs_pm]
  exact xs_congr n fun i _ => Tw.pm_comm' _ _
theorem xs_none {f : Nat → Nat × Nat} : ∀ n, (∀ i, i < n → f i = (0, 0)) → xs n f = (0, 0)
  | 0, _ => rfl
  | n + 1, h => by simp only [xs]; rw [xs_none n (fun i hi => h i (by omega)), h n (by omega), xa_zero]
theorem xs_two (f g : Nat → Nat × Nat) : ∀ n, xs n (fun i => xa (f i) (g i)) = xa (xs n f) (xs n g)
  | 0 => by simp only [xs, xa_zero]
  | n + 1 => by
    simp only [xs]
    rw [xs_two f g n, xa_assoc, xa_assoc, xa_left (xs n g) (f n) (g n)]
theorem xs_swap (f : Nat → Nat → Nat × Nat) (m : Nat) : ∀ n, xs n (fun i => xs m (f i)) = xs m fun k => xs n fun i => f i k
  | 0 => by simp only [xs]; exact (xs_none m (fun _ _ => rfl)).symm
  | n + 1 => by simp only [xs]; rw [xs_swap f m n, xs_two]
theorem xs_mul (f : Nat → Nat × Nat) (N : Nat) : ∀ q, xs (q * N) f = xs q fun x => xs N fun v => f (x * N + v)
  | 0 => by rw [Nat.zero_mul]; rfl
  | q + 1 => by rw [Nat.add_mul, Nat.one_mul, xs_add, xs_mul f N q]; rfl
theorem of_zer {m : Nat} (hm : m < 8) : ofE m (0, 0) := ofT.el hm (t := []) (fun e he => by simp at he) 0
theorem ofe_one {m : Nat} (hm : m < 8) : ofE m (0, 1) := by
  obtain rfl | rfl | rfl | rfl | rfl | rfl | rfl | rfl : m = 0 ∨ m = 1 ∨ m = 2 ∨ m = 3 ∨ m = 4 ∨ m = 5 ∨ m = 6 ∨ m = 7 := by omega
  all_goals (show ofB _ _ _ = true; decide +kernel)
theorem of_fac {m : Nat} (hm : m < 8) {x : Nat × Nat} (h : ofE m x) (i : Nat) : ofE m (fac x i) := by
  unfold fac
  split
  · exact h
  · exact of_xor hm (ofe_one hm) h
theorem of_wtf {m : Nat} (hm : m < 8) : ∀ (p : List (Nat × Nat)) (o : Nat × Nat) (n : Nat), ofT m p → ofE m o → ofE m (wtf o p n)
  | [], _, _, _, ho => ho
  | e :: p, o, n, hp, ho => by
    simp only [wtf]
    exact of_wtf hm p _ _ (fun x hx => hp x (by simp [hx])) (of_pm hm ho (of_fac hm (hp e (by simp)) n))
theorem of_wt {m : Nat} (hm : m < 8) {p : List (Nat × Nat)} (hp : ofT m p) (n : Nat) : ofE m (wt p n) := of_wtf hm p _ n hp (ofe_one hm)
theorem of_xs {m : Nat} (hm : m < 8) {f : Nat → Nat × Nat} : ∀ n, (∀ i, i < n → ofE m (f i)) → ofE m (xs n f)
  | 0, _ => of_zer hm
  | n + 1, h => by simp only [xs]; exact of_xor hm (of_xs hm n fun i hi => h i (by omega)) (h n (by omega))
theorem wtf_app : ∀ (p q : List (Nat × Nat)) (o : Nat × Nat) (n : Nat), wtf o (p ++ q) n = wtf (wtf o p n) q (n / 2 ^ p.length)
  | [], q, o, n => by simp [wtf]
  | x :: p, q, o, n => by
    simp only [List.cons_append, wtf, List.length_cons]
    rw [wtf_app p q, Nat.pow_succ', Nat.div_div_eq_div_mul]
theorem wtf_low : ∀ (p : List (Nat × Nat)) (o : Nat × Nat) (x z : Nat), wtf o p (x + 2 ^ p.length * z) = wtf o p x
  | [], _, _, _ => rfl
  | e :: p, o, x, z => by
    simp only [wtf, List.length_cons]
    have h1 : (x + 2 ^ (p.length + 1) * z) / 2 = x / 2 + 2 ^ p.length * z := by
      rw [show 2 ^ (p.length + 1) * z = 2 * (2 ^ p.length * z) by rw [Nat.pow_succ, Nat.mul_comm (2 ^ p.length) 2, Nat.mul_assoc], Nat.add_mul_div_left _ _ (by decide)]
    have h2 : (x + 2 ^ (p.length + 1) * z) % 2 = x % 2 := by
      rw [show 2 ^ (p.length + 1) * z = 2 * (2 ^ p.length * z) by rw [Nat.pow_succ, Nat.mul_comm (2 ^ p.length) 2, Nat.mul_assoc], Nat.add_mul_mod_self_left]
    have h3 : fac e (x + 2 ^ (p.length + 1) * z) = fac e x := by unfold fac; rw [h2]
    rw [h1, h3, wtf_low p]
/-- The weight at a low and a high point. -/
theorem wt_app (p q : List (Nat × Nat)) (hq : ltE q) {x : Nat} (y : Nat) (hx : x < 2 ^ p.length) : wt (p ++ q) (x + 2 ^ p.length * y) = pm (wt p x) (wt q y) := by
  unfold wt
  rw [wtf_app, wtf_low, Nat.add_mul_div_left _ _ (Nat.two_pow_pos _), Nat.div_eq_of_lt hx, Nat.zero_add]
  exact wtf_pm q _ y hq (lt_wt p x)
/-- The weight with one coordinate more. -/
theorem wt_snoc (p : List (Nat × Nat)) (e : Nat × Nat) (he : lt2 e) {x : Nat} (b : Nat) (hx : x < 2 ^ p.length) : wt (p ++ [e]) (x + 2 ^ p.length * b) = pm (wt p x) (fac e b) := by
  rw [wt_app p [e] (fun z hz => by simp at hz; subst hz; exact he) b hx]
  congr 1
  show wtf (pm (0, 1) (fac e b)) [] (b / 2) = fac e b
  rw [one_pm (lt_fac he b)]
  rfl
/-- One or none. -/
def sl (b : Bool) (e : Nat × Nat) : Nat × Nat := if b then e else (0, 0)
theorem lt_sl {b : Bool} {e : Nat × Nat} (h : lt2 e) : lt2 (sl b e) := by cases b; exact lt_zero; exact h
theorem of_sl {m : Nat} (hm : m < 8) {b : Bool} {e : Nat × Nat} (h : ofE m e) : ofE m (sl b e) := by cases b; exact of_zer hm; exact h
theorem sl_xor (a b : Bool) (e : Nat × Nat) : sl (a ^^ b) e = xa (sl a e) (sl b e) := by
  cases a <;> cases b <;> simp [sl, xa_self, xa_zero, zero_xa]
theorem sl_and (a b : Bool) (e : Nat × Nat) : sl (a && b) e = sl a (sl b e) := by cases a <;> cases b <;> rfl
theorem pm_sl (t : Nat × Nat) (b : Bool) (e : Nat × Nat) : pm t (sl b e) = sl b (pm t e) := by cases b; exact pm_zero t; rfl
theorem sl_pm (t : Nat × Nat) (b : Bool) (e : Nat × Nat) : pm (sl b e) t = sl b (pm e t) := by cases b; exact zero_pm t; rfl
theorem sl_xs (b : Bool) (f : Nat → Nat × Nat) (n : Nat) : sl b (xs n f) = xs n fun i => sl b (f i) := by
  cases b
  · exact (xs_none n fun i _ => rfl).symm
  · rfl
theorem sl_comm (a b : Bool) (e : Nat × Nat) : sl a (sl b e) = sl b (sl a e) := by cases a <;> cases b <;> rfl
/-- A sum of bits. -/
def bx : Nat → (Nat → Bool) → Bool
  | 0, _ => false
  | n + 1, f => bx n f ^^ f n
theorem sl_bx (f : Nat → Bool) (e : Nat × Nat) : ∀ n, sl (bx n f) e = xs n fun i => sl (f i) e
  | 0 => rfl
  | n + 1 => by simp only [bx, xs]; rw [sl_xor, sl_bx f e n]
def hs (e : Nat × Nat) (u : Nat) : Bool := hasB e.1 e.2 u
theorem hs_xa (a b : Nat × Nat) (u : Nat) : hs (xa a b) u = (hs a u ^^ hs b u) := by
  unfold hs hasB xa
  split
  · exact Nat.testBit_xor _ _ _
  · exact Nat.testBit_xor _ _ _
theorem hs_zero (u : Nat) : hs (0, 0) u = false := by unfold hs hasB; split <;> exact Nat.zero_testBit _
theorem hs_sl (b : Bool) (e : Nat × Nat) (u : Nat) : hs (sl b e) u = (b && hs e u) := by
  cases b
  · exact hs_zero u
  · rfl
theorem hs_xs (f : Nat → Nat × Nat) (u : Nat) : ∀ n, hs (xs n f) u = bx n fun i => hs (f i) u
  | 0 => hs_zero u
  | n + 1 => by simp only [bx, xs]; rw [hs_xa, hs_xs f u n]
/-- The bit number i. -/
def bt (bs : List Bool) (i : Nat) : Bool := bs.getD i false
theorem el_bE (bs : List Bool) (i : Nat) : el (bE bs) i = sl (bt bs i) (0, 1) := by
  show (bE bs).getD i (0, 0) = _
  rw [bE_at]
  rfl
/-- The part v of q times N bits. -/
def part (N : Nat) (bs : List Bool) (q : Nat) (hi : List (Nat × Nat)) (v : Nat) : Nat × Nat := xs q fun x => sl (bt bs (x * N + v)) (wt hi x)
def parts (N : Nat) (bs : List Bool) (q : Nat) (hi : List (Nat × Nat)) : List (Nat × Nat) := (List.range N).map (part N bs q hi)
theorem parts_len (N : Nat) (bs : List Bool) (q : Nat) (hi : List (Nat × Nat)) : (parts N bs q hi).length = N := by simp [parts]
theorem parts_at (N : Nat) (bs : List Bool) (q : Nat) (hi : List (Nat × Nat)) {v : Nat} (h : v < N) : el (parts N bs q hi) v = part N bs q hi v := by simp [el, parts, List.getD, h]
theorem lt_part (N : Nat) (bs : List Bool) (q : Nat) (hi : List (Nat × Nat)) (v : Nat) : lt2 (part N bs q hi v) := lt_xs (fun _ => lt_sl (lt_wt _ _)) _
theorem of_part {m : Nat} (hm : m < 8) (N : Nat) (bs : List Bool) (q : Nat) {hi : List (Nat × Nat)} (hh : ofT m hi) (v : Nat) : ofE m (part N bs q hi v) := of_xs hm _ fun _ _ => of_sl hm (of_wt hm hh _)
theorem lt_parts (N : Nat) (bs : List Bool) (q : Nat) (hi : List (Nat × Nat)) : ltE (parts N bs q hi) := ltE_of fun i h => by
  rw [parts_len] at h
  rw [parts_at N bs q hi h]; exact lt_part _ _ _ _ _
theorem of_parts {m : Nat} (hm : m < 8) (N : Nat) (bs : List Bool) (q : Nat) {hi : List (Nat × Nat)} (hh : ofT m hi) : ofT m (parts N bs q hi) := ofT_of fun i h => by
  rw [parts_len] at h
  rw [parts_at N bs q hi h]; exact of_part hm _ _ _ hh _
/-- The weights of all corners. -/
def wts (p : List (Nat × Nat)) (n : Nat) : List (Nat × Nat) := (List.range n).map (wt p)
theorem wts_len (p : List (Nat × Nat)) (n : Nat) : (wts p n).length = n := by simp [wts]
theorem wts_at (p : List (Nat × Nat)) (n : Nat) {i : Nat} (h : i < n) : el (wts p n) i = wt p i := by simp [el, wts, List.getD, h]
theorem lt_wts (p : List (Nat × Nat)) (n : Nat) : ltE (wts p n) := ltE_of fun i h => by
  rw [wts_len] at h
  rw [wts_at p n h]; exact lt_wt _ _
theorem of_wts {m : Nat} (hm : m < 8) {p : List (Nat × Nat)} (hp : ofT m p) (n : Nat) : ofT m (wts p n) := ofT_of fun i h => by
  rw [wts_len] at h
  rw [wts_at p n h]; exact of_wt hm hp _
/-- What parts say at a low point. -/
def vsum (N : Nat) (ps low : List (Nat × Nat)) : Nat × Nat := xs N fun v => pm (wt low v) (el ps v)
/-- The document's value is that. -/
theorem vl_vsum (ps low : List (Nat × Nat)) (N : Nat) (h : ps.length = N) : vl ps low = vsum N ps low := by
  unfold vl vsum
  rw [h]
  exact xs_congr N fun i _ => Tw.pm_comm' _ _
/-- What parts say is the bits' value. -/
theorem value_eq (k q : Nat) (bs : List Bool) (low hi : List (Nat × Nat)) (hl : low.length = k) (hq : bs.length = q * 2 ^ k) (hh : ltE hi) : vsum (2 ^ k) (parts (2 ^ k) bs q hi) low = vl (bE bs) (low ++ hi) := by
  unfold vsum vl
  rw [bE_len, hq, xs_mul]
  have e1 : (xs (2 ^ k) fun v => pm (wt low v) (el (parts (2 ^ k) bs q hi) v)) = xs (2 ^ k) fun v => xs q fun x => sl (bt bs (x * 2 ^ k + v)) (pm (wt low v) (wt hi x)) := xs_congr _ fun v hv => by
    rw [parts_at _ bs q hi hv]
    unfold part
    rw [pm_xs]
    exact xs_congr _ fun x _ => pm_sl _ _ _
  rw [e1, xs_swap]
  refine xs_congr _ fun x _ => xs_congr _ fun v hv => ?_
  rw [el_bE, sl_pm, one_pm (lt_wt _ _)]
  congr 1
  have := wt_app low hi hh (x := v) x (by rw [hl]; exact hv)
  rw [hl] at this
  rw [← this, Nat.add_comm, Nat.mul_comm]
/-- Parts turned about. -/
def trn (N : Nat) (ps : List (Nat × Nat)) (u : Nat) : Nat × Nat := xs N fun v => sl (hs (el ps v) u) (bv (v : Int))
def trns (N : Nat) (ps : List (Nat × Nat)) : List (Nat × Nat) := (List.range N).map (trn N ps)
theorem trns_len (N : Nat) (ps : List (Nat × Nat)) : (trns N ps).length = N := by simp [trns]
theorem trns_at (N : Nat) (ps : List (Nat × Nat)) {v : Nat} (h : v < N) : el (trns N ps) v = trn N ps v := by simp [el, trns, List.getD, h]
theorem of_bv {m : Nat} (hm : m < 8) {v : Nat} (hv : v < 2 ^ m) : ofE m (bv (v : Int)) := by
  have h7 : 2 ^ m ≤ 2 ^ 7 := Nat.pow_le_pow_right (by decide) (by omega)
  have e7 : (2 : Nat) ^ 7 = 128 := by decide
  show ofB (m : Int) _ _ = true
  rw [ofB_iff _ _ _ hm]
  by_cases h : m = 7
  · exact .inl h
  · right
    have h6 : 2 ^ m ≤ 2 ^ 6 := Nat.pow_le_pow_right (by decide) (by omega)
    have e6 : (2 : Nat) ^ 6 = 64 := by decide
    unfold bv Tw.bitp
    rw [if_pos (by omega), Int.toNat_natCast, if_pos (by omega)]
    exact ⟨rfl, Nat.pow_lt_pow_right (by decide) hv⟩
theorem lt_trn (N : Nat) (ps : List (Nat × Nat)) (u : Nat) : lt2 (trn N ps u) := lt_xs (fun _ => lt_sl (bv_lt2 _)) _
theorem of_trn {m : Nat} (hm : m < 8) (ps : List (Nat × Nat)) (u : Nat) : ofE m (trn (2 ^ m) ps u) := of_xs hm _ fun _ hi => of_sl hm (of_bv hm hi)
theorem lt_trns (N : Nat) (ps : List (Nat × Nat)) : ltE (trns N ps) := ltE_of fun i h => by
  rw [trns_len] at h
  rw [trns_at N ps h]; exact lt_trn _ _ _
theorem of_trns {m : Nat} (hm : m < 8) (ps : List (Nat × Nat)) : ofT m (trns (2 ^ m) ps) := ofT_of fun i h => by
  rw [trns_len] at h
  rw [trns_at _ ps h]; exact of_trn hm _ _
/-- Parts batched. -/
def btc (N : Nat) (ps r : List (Nat × Nat)) : Nat × Nat := xs N fun u => pm (wt r u) (trn N ps u)
/-- The mask. -/
def msk (N : Nat) (hi r : List (Nat × Nat)) (x : Nat) : Nat × Nat := xs N fun u => sl (hs (wt hi x) u) (wt r u)
def msks (N : Nat) (hi r : List (Nat × Nat)) (q : Nat) : List (Nat × Nat) := (List.range q).map (msk N hi r)
theorem msks_len (N : Nat) (hi r : List (Nat × Nat)) (q : Nat) : (msks N hi r q).length = q := by simp [msks]
theorem msks_at (N : Nat) (hi r : List (Nat × Nat)) (q : Nat) {x : Nat} (h : x < q) : el (msks N hi r q) x = msk N hi r x := by simp [el, msks, List.getD, h]
theorem lt_msk (N : Nat) (hi r : List (Nat × Nat)) (x : Nat) : lt2 (msk N hi r x) := lt_xs (fun _ => lt_sl (lt_wt _ _)) _
theorem of_msk {m : Nat} (hm : m < 8) (N : Nat) (hi : List (Nat × Nat)) {r : List (Nat × Nat)} (hr : ofT m r) (x : Nat) : ofE m (msk N hi r x) := of_xs hm _ fun _ _ => of_sl hm (of_wt hm hr _)
theorem lt_msks (N : Nat) (hi r : List (Nat × Nat)) (q : Nat) : ltE (msks N hi r q) := ltE_of fun i h => by
  rw [msks_len] at h
  rw [msks_at N hi r q h]; exact lt_msk _ _ _ _
theorem of_msks {m : Nat} (hm : m < 8) (N : Nat) (hi : List (Nat × Nat)) {r : List (Nat × Nat)} (hr : ofT m r) (q : Nat) : ofT m (msks N hi r q) := ofT_of fun i h => by
  rw [msks_len] at h
  rw [msks_at N hi r q h]; exact of_msk hm _ _ hr _
/-- The packed element x, bit by bit. -/
def pk (N : Nat) (bs : List Bool) (x : Nat) : Nat × Nat := xs N fun v => sl (bt bs (x * N + v)) (bv (v : Int))
theorem rx_xs (f : Nat → Bool) : ∀ n, rx f n = xs n fun v => sl (f v) (bv (v : Int))
  | 0 => rfl
  | n + 1 => by
    unfold rx
    simp only [xs]
    rw [← rx_xs f n]
    cases f n
    · simp [sl, xa_zero]
    · simp [sl, xa]
/-- What weave.Bits gathers is that. -/
theorem gB_pk (k q : Nat) (hk : k < 8) (bs : List Bool) (hq : bs.length = q * 2 ^ k) {x : Nat} (hx : x < q) : el (gB k q bs) x = pk (2 ^ k) bs x := by
  have h7 : 2 ^ k ≤ 2 ^ 7 := Nat.pow_le_pow_right (by decide) (by omega)
  have e7 : (2 : Nat) ^ 7 = 128 := by decide
  unfold pk
  rw [← rx_xs fun v => bt bs (x * 2 ^ k + v)]
  refine pair_ext (gB_lt k q hk bs hq x hx) (rx_lt _ _) fun m hm => ?_
  rw [rx_has _ _ (by omega) m hm]
  show hasB ((gB k q bs).getD x (0, 0)).1 ((gB k q bs).getD x (0, 0)).2 m = _
  by_cases h : m < 2 ^ k
  · rw [gB_bit k q hk bs hq x hx m h]; simp [h, bt]
  · rw [of_has hk (gB_of k q hk bs hq x hx) m (by omega) hm]; simp [h]
/-- Batched parts are the sum of the packed table times the mask. -/
theorem batch_eq (N q : Nat) (bs : List Bool) (hi r : List (Nat × Nat)) : btc N (parts N bs q hi) r = xs q fun x => pm (pk N bs x) (msk N hi r x) := by
  have e1 : btc N (parts N bs q hi) r = xs N fun u => xs q fun x => xs N fun v => sl (hs (wt hi x) u) (sl (bt bs (x * N + v)) (pm (wt r u) (bv (v : Int)))) := by
    unfold btc trn
    refine xs_congr _ fun u _ => ?_
    rw [pm_xs, xs_swap]
    refine xs_congr _ fun v hv => ?_
    rw [parts_at N bs q hi hv]
    unfold part
    rw [pm_sl, hs_xs, sl_bx]
    refine xs_congr _ fun x _ => ?_
    rw [hs_sl, sl_and, sl_comm]
  rw [e1, xs_swap]
  refine xs_congr _ fun x _ => ?_
  unfold pk msk
  rw [pm_xs]
  refine xs_congr _ fun u _ => ?_
  rw [pm_sl, xs_pm, sl_xs]
  refine xs_congr _ fun v _ => ?_
  rw [sl_pm, Tw.pm_comm']
end Rg
end Go.Proofs.Ytcejppibcemdeaa
