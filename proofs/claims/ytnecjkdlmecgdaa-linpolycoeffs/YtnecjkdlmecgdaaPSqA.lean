/- Parts, batches and masks of packed bits, no Go in sight: what parts say is the bits' value, and batched they are the sum of the packed table times the mask. -/
import Derived.Test.YtnecjkdlmecgdaaPTwV
import Derived.Test.YtnecjkdlmecgdaaPWvP
import Derived.Test.YtnecjkdlmecgdaaPTwT
namespace Go.Proofs.Ytnecjkdlmecgdaa
namespace Rg
open Cb
open Tw (pm)

theorem xs_add (f : Nat → Nat × Nat) (a : Nat) : ∀ b, xs (a + b) f = xa (xs a f) (xs b fun i => f (a + i))
  | 0 => by simp only [Nat.add_zero, xs, xa_zero]
  | b + 1 => by rw [← Nat.add_assoc]; simp only [xs]; rw [xs_add f a b, xa_assoc]
theorem xs_pm (t : Nat × Nat) (f : Nat → Nat × Nat) : ∀ n, pm (xs n f) t = xs n fun i => pm (f i) t
  | 0 => by simp only [xs, zero_pm]
  | n + 1 => by simp only [xs]; rw [xa_pm, xs_pm t f n]
theorem pm_xs (t : Nat × Nat) (f : Nat → Nat × Nat) (n : Nat) : pm t (xs n f) = xs n fun i => pm t (f i) := by
  rw [Tw.pm_comm', xs_pm]
  exact xs_congr n fun i _ => Tw.pm_comm' _ _
theorem xs_none {f : Nat → Nat × Nat} : ∀ n, (∀ i, i < n → f i = (0, 0)) → xs n f = (0, 0)
  | 0, _ => rfl
  | n + 1, h => by simp only [xs]; rw [xs_none n (fun i hi => h i (by omega)), h n (by omega), xa_zero]
theorem xs_two (f g : Nat → Nat × Nat) : ∀ n, xs n (fun i => xa (f i) (g i)) = xa (xs n f) (xs n g)
  | 0 => by simp only [xs, xa_zero]
  | n + 1 => by
    simp only [xs]
    rw [xs_two f g n, xa_assoc, xa_assoc, xa_left (xs n g) (f n) (g n)]
theorem xs_swap (f : Nat → Nat → Nat × Nat) (m : Nat) : ∀ n, xs n (fun i => xs m (f i)) = xs m fun k => xs n fun i => f i k
  | 0 => by simp only [xs]; exact (xs_none m (fun _ _ => rfl)).symm
  | n + 1 => by simp only [xs]; rw [xs_swap f m n, xs_two]
theorem xs_mul (f : Nat → Nat × Nat) (N : Nat) : ∀ q, xs (q * N) f = xs q fun x => xs N fun v => f (x * N + v)
  | 0 => by rw [Nat.zero_mul]; rfl
  | q + 1 => by rw [Nat.add_mul, Nat.one_mul, xs_add, xs_mul f N q]; rfl
theorem of_zer {m : Nat} (hm : m < 8) : ofE m (0, 0) := ofT.el hm (t := []) (fun e he => by simp at he) 0
theorem ofe_one {m : Nat} (hm : m < 8) : ofE m (0, 1) := by
  obtain rfl | rfl | rfl | rfl | rfl | rfl | rfl | rfl : m = 0 ∨ m = 1 ∨ m = 2 ∨ m = 3 ∨ m = 4 ∨ m = 5 ∨ m = 6 ∨ m = 7 := by omega
  all_goals (show ofB _ _ _ = true; decide +kernel)
theorem of_fac {m : Nat} (hm : m < 8) {x : Nat × Nat} (h : ofE m x) (i : Nat) : ofE m (fac x i) := by
  unfold fac
  split
  · exact h
  · exact of_xor hm (ofe_one hm) h
theorem of_wtf {m : Nat} (hm : m < 8) : ∀ (p : List (Nat × Nat)) (o : Nat × Nat) (n : Nat), ofT m p → ofE m o → ofE m (wtf o p n)
  | [], _, _, _, ho => ho
  | e :: p, o, n, hp, ho => by
    simp only [wtf]
    exact of_wtf hm p _ _ (fun x hx => hp x (by simp [hx])) (of_pm hm ho (of_fac hm (hp e (by simp)) n))
theorem of_wt {m : Nat} (hm : m < 8) {p : List (Nat × Nat)} (hp : ofT m p) (n : Nat) : ofE m (wt p n) := of_wtf hm p _ n hp (ofe_one hm)
theorem of_xs {m : Nat} (hm : m < 8) {f : Nat → Nat × Nat} : ∀ n, (∀ i, i < n → ofE m (f i)) → ofE m (xs n f)
  | 0, _ => of_zer hm
  | n + 1, h => by simp only [xs]; exact of_xor hm (of_xs hm n fun i hi => h i (by omega)) (h n (by omega))
theorem wtf_app : ∀ (p q : List (Nat × Nat)) (o : Nat × Nat) (n : Nat), wtf o (p ++ q) n = wtf (wtf o p n) q (n / 2 ^ p.length)
  | [], q, o, n => by simp [wtf]
  | x :: p, q, o, n => by
    simp only [List.cons_append, wtf, List.length_cons]
    rw [wtf_app p q, Nat.pow_succ', Nat.div_div_eq_div_mul]
theorem wtf_low : ∀ (p : List (Nat × Nat)) (o : Nat × Nat) (x z : Nat), wtf o p (x + 2 ^ p.length * z) = wtf o p x
  | [], _, _, _ => rfl
  | e :: p, o, x, z => by
    simp only [wtf, List.length_cons]
    have h1 : (x + 2 ^ (p.length + 1) * z) / 2 = x / 2 + 2 ^ p.length * z := by
      rw [show 2 ^ (p.length + 1) * z = 2 * (2 ^ p.length * z) by rw [Nat.pow_succ, Nat.mul_comm (2 ^ p.length) 2, Nat.mul_assoc], Nat.add_mul_div_left _ _ (by decide)]
    have h2 : (x + 2 ^ (p.length + 1) * z) % 2 = x % 2 := by
      rw [show 2 ^ (p.length + 1) * z = 2 * (2 ^ p.length * z) by rw [Nat.pow_succ, Nat.mul_comm (2 ^ p.length) 2, Nat.mul_assoc], Nat.add_mul_mod_self_left]
    have h3 : fac e (x + 2 ^ (p.length + 1) * z) = fac e x := by unfold fac; rw [h2]
    rw [h1, h3, wtf_low p]
/-- The weight at a low and a high point. -/
theorem wt_app (p q : List (Nat × Nat)) (hq : ltE q) {x : Nat} (y : Nat) (hx : x < 2 ^ p.length) : wt (p ++ q) (x + 2 ^ p.length * y) = pm (wt p x) (wt q y) := by
  unfold wt
  rw [wtf_app, wtf_low, Nat.add_mul_div_left _ _ (Nat.two_pow_pos _), Nat.div_eq_of_lt hx, Nat.zero_add]
  exact wtf_pm q _ y hq (lt_wt p x)
/-- The weight with one coordinate more. -/
theorem wt_snoc (p : List (Nat × Nat)) (e : Nat × Nat) (he : lt2 e) {x : Nat} (b : Nat) (hx : x < 2 ^ p.length) : wt (p ++ [e]) (x + 2 ^ p.length * b) = pm (wt p x) (fac e b) := by
  rw [wt_app p [e] (fun z hz => by simp at hz; subst hz; exact he) b hx]
  congr 1
  show wtf (pm (0, 1) (fac e b)) [] (b / 2) = fac e b
  rw [one_pm (lt_fac he b)]
  rfl
/-- One or none. -/
def sl (b : Bool) (e : Nat × Nat) : Nat × Nat := if b then e else (0, 0)
theorem lt_sl {b : Bool} {e : Nat × Nat} (h : lt2 e) : lt2 (sl b e) := by cases b; exact lt_zero; exact h
theorem of_sl {m : Nat} (hm : m < 8) {b : Bool} {e : Nat × Nat} (h : ofE m e) : ofE m (sl b e) := by cases b; exact of_zer hm; exact h
theorem sl_xor (a b : Bool) (e : Nat × Nat) : sl (a ^^ b) e = xa (sl a e) (sl b e) := by
  cases a <;> cases b <;> simp [sl, xa_self, xa_zero, zero_xa]
theorem sl_and (a b : Bool) (e : Nat × Nat) : sl (a && b) e = sl a (sl b e) := by cases a <;> cases b <;> rfl
theorem pm_sl (t : Nat × Nat) (b : Bool) (e : Nat × Nat) : pm t (sl b e) = sl b (pm t e) := by cases b; exact pm_zero t; rfl
theorem sl_pm (t : Nat × Nat) (b : Bool) (e : Nat × Nat) : pm (sl b e) t = sl b (pm e t) := by cases b; exact zero_pm t; rfl
theorem sl_xs (b : Bool) (f : Nat → Nat × Nat) (n : Nat) : sl b (xs n f) = xs n fun i => sl b (f i) := by
  cases b
  · exact (xs_none n fun i _ => rfl).symm
  · rfl
theorem sl_comm (a b : Bool) (e : Nat × Nat) : sl a (sl b e) = sl b (sl a e) := by cases a <;> cases b <;> rfl
/-- A sum of bits. -/
def bx : Nat → (Nat → Bool) → Bool
  | 0, _ => false
  | n + 1, f => bx n f ^^ f n
theorem sl_bx (f : Nat → Bool) (e : Nat × Nat) : ∀ n, sl (bx n f) e = xs n fun i => sl (f i) e
  | 0 => rfl
  | n + 1 => by simp only [bx, xs]; rw [sl_xor, sl_bx f e n]
def hs (e : Nat × Nat) (u : Nat) : Bool := hasB e.1 e.2 u
theorem hs_xa (a b : Nat × Nat) (u : Nat) : hs (xa a b) u = (hs a u ^^ hs b u) := by
  unfold hs hasB xa
  split
  · exact Nat.testBit_xor _ _ _
  · exact Nat.testBit_xor _ _ _
theorem hs_zero (u : Nat) : hs (0, 0) u = false := by unfold hs hasB; split <;> exact Nat.zero_testBit _
theorem hs_sl (b : Bool) (e : Nat × Nat) (u : Nat) : hs (sl b e) u = (b && hs e u) := by
  cases b
  · exact hs_zero u
  · rfl
theorem hs_xs (f : Nat → Nat × Nat) (u : Nat) : ∀ n, hs (xs n f) u = bx n fun i => hs (f i) u
  | 0 => hs_zero u
  | n + 1 => by simp only [bx, xs]; rw [hs_xa, hs_xs f u n]
/-- The bit number i. -/
def bt (bs : List Bool) (i : Nat) : Bool := bs.getD i false
theorem el_bE (bs : List Bool) (i : Nat) : el (bE bs) i = sl (bt bs i) (0, 1) := by
  show (bE bs).getD i (0, 0) = _
  rw [bE_at]
  rfl
/-- The part v of q times N bits. -/
def part (N : Nat) (bs : List Bool) (q : Nat) (hi : List (Nat × Nat)) (v : Nat) : Nat × Nat := xs q fun x => sl (bt bs (x * N + v)) (wt hi x)
def parts (N : Nat) (bs : List Bool) (q : Nat) (hi : List (Nat × Nat)) : List (Nat × Nat) := (List.range N).map (part N bs q hi)
theorem parts_len (N : Nat) (bs : List Bool) (q : Nat) (hi : List (Nat × Nat)) : (parts N bs q hi).length = N := by simp [parts]
theorem parts_at (N : Nat) (bs : List Bool) (q : Nat) (hi : List (Nat × Nat)) {v : Nat} (h : v < N) : el (parts N bs q hi) v = part N bs q hi v := by simp [el, parts, List.getD, h]
theorem lt_part (N : Nat) (bs : List Bool) (q : Nat) (hi : List (Nat × Nat)) (v : Nat) : lt2 (part N bs q hi v) := lt_xs (fun _ => lt_sl (lt_wt _ _)) _
theorem of_part {m : Nat} (hm : m < 8) (N : Nat) (bs : List Bool) (q : Nat) {hi : List (Nat × Nat)} (hh : ofT m hi) (v : Nat) : ofE m (part N bs q hi v) := of_xs hm _ fun _ _ => of_sl hm (of_wt hm hh _)
theorem lt_parts (N : Nat) (bs : List Bool) (q : Nat) (hi : List (Nat × Nat)) : ltE (parts N bs q hi) := ltE_of fun i h => by
  rw [parts_len] at h
  rw [parts_at N bs q hi h]; exact lt_part _ _ _ _ _
theorem of_parts {m : Nat} (hm : m < 8) (N : Nat) (bs : List Bool) (q : Nat) {hi : List (Nat × Nat)} (hh : ofT m hi) : ofT m (parts N bs q hi) := ofT_of fun i h => by
  rw [parts_len] at h
  rw [parts_at N bs q hi h]; exact of_part hm _ _ _ hh _
/-- The weights of all corners. -/
def wts (p : List (Nat × Nat)) (n : Nat) : List (Nat × Nat) := (List.range n).map (wt p)
theorem wts_len (p : List (Nat × Nat)) (n : Nat) : (wts p n).length = n := by simp [wts]
theorem wts_at (p : List (Nat × Nat)) (n : Nat) {i : Nat} (h : i < n) : el (wts p n) i = wt p i := by simp [el, wts, List.getD, h]
theorem lt_wts (p : List (Nat × Nat)) (n : Nat) : ltE (wts p n) := ltE_of fun i h => by
  rw [wts_len] at h
  rw [wts_at p n h]; exact lt_wt _ _
theorem of_wts {m : Nat} (hm : m < 8) {p : List (Nat × Nat)} (hp : ofT m p) (n : Nat) : ofT m (wts p n) := ofT_of fun i h => by
  rw [wts_len] at h
  rw [wts_at p n h]; exact of_wt hm hp _
/-- What parts say at a low point. -/
def vsum (N : Nat) (ps low : List (Nat × Nat)) : Nat × Nat := xs N fun v => pm (wt low v) (el ps v)
/-- The document's value is that. -/
theorem vl_vsum (ps low : List (Nat × Nat)) (N : Nat) (h : ps.length = N) : vl ps low = vsum N ps low := by
  unfold vl vsum
  rw [h]
  exact xs_congr N fun i _ => Tw.pm_comm' _ _
/-- What parts say is the bits' value. -/
theorem value_eq (k q : Nat) (bs : List Bool) (low hi : List (Nat × Nat)) (hl : low.length = k) (hq : bs.length = q * 2 ^ k) (hh : ltE hi) : vsum (2 ^ k) (parts (2 ^ k) bs q hi) low = vl (bE bs) (low ++ hi) := by
  unfold vsum vl
  rw [bE_len, hq, xs_mul]
  have e1 : (xs (2 ^ k) fun v => pm (wt low v) (el (parts (2 ^ k) bs q hi) v)) = xs (2 ^ k) fun v => xs q fun x => sl (bt bs (x * 2 ^ k + v)) (pm (wt low v) (wt hi x)) := xs_congr _ fun v hv => by
    rw [parts_at _ bs q hi hv]
    unfold part
    rw [pm_xs]
    exact xs_congr _ fun x _ => pm_sl _ _ _
  rw [e1, xs_swap]
  refine xs_congr _ fun x _ => xs_congr _ fun v hv => ?_
  rw [el_bE, sl_pm, one_pm (lt_wt _ _)]
  congr 1
  have := wt_app low hi hh (x := v) x (by rw [hl]; exact hv)
  rw [hl] at this
  rw [← this, Nat.add_comm, Nat.mul_comm]
/-- Parts turned about. -/
def trn (N : Nat) (ps : List (Nat × Nat)) (u : Nat) : Nat × Nat := xs N fun v => sl (hs (el ps v) u) (bv (v : Int))
def trns (N : Nat) (ps : List (Nat × Nat)) : List (Nat × Nat) := (List.range N).map (trn N ps)
theorem trns_len (N : Nat) (ps : List (Nat × Nat)) : (trns N ps).length = N := by simp [trns]
theorem trns_at (N : Nat) (ps : List (Nat × Nat)) {v : Nat} (h : v < N) : el (trns N ps) v = trn N ps v := by simp [el, trns, List.getD, h]
theorem of_bv {m : Nat} (hm : m < 8) {v : Nat} (hv : v < 2 ^ m) : ofE m (bv (v : Int)) := by
  have h7 : 2 ^ m ≤ 2 ^ 7 := Nat.pow_le_pow_right (by decide) (by omega)
  have e7 : (2 : Nat) ^ 7 = 128 := by decide
  show ofB (m : Int) _ _ = true
  rw [ofB_iff _ _ _ hm]
  by_cases h : m = 7
  · exact .inl h
  · right
    have h6 : 2 ^ m ≤ 2 ^ 6 := Nat.pow_le_pow_right (by decide) (by omega)
    have e6 : (2 : Nat) ^ 6 = 64 := by decide
    unfold bv Tw.bitp
    rw [if_pos (by omega), Int.toNat_natCast, if_pos (by omega)]
    exact ⟨rfl, Nat.pow_lt_pow_right (by decide) hv⟩
theorem lt_trn (N : Nat) (ps : List (Nat × Nat)) (u : Nat) : lt2 (trn N ps u) := lt_xs (fun _ => lt_sl (bv_lt2 _)) _
theorem of_trn {m : Nat} (hm : m < 8) (ps : List (Nat × Nat)) (u : Nat) : ofE m (trn (2 ^ m) ps u) := of_xs hm _ fun _ hi => of_sl hm (of_bv hm hi)
theorem lt_trns (N : Nat) (ps : List (Nat × Nat)) : ltE (trns N ps) := ltE_of fun i h => by
  rw [trns_len] at h
  rw [trns_at N ps h]; exact lt_trn _ _ _
theorem of_trns {m : Nat} (hm : m < 8) (ps : List (Nat × Nat)) : ofT m (trns (2 ^ m) ps) := ofT_of fun i h => by
  rw [trns_len] at h
  rw [trns_at _ ps h]; exact of_trn hm _ _
/-- Parts batched. -/
def btc (N : Nat) (ps r : List (Nat × Nat)) : Nat × Nat := xs N fun u => pm (wt r u) (trn N ps u)
/-- The mask. -/
def msk (N : Nat) (hi r : List (Nat × Nat)) (x : Nat) : Nat × Nat := xs N fun u => sl (hs (wt hi x) u) (wt r u)
def msks (N : Nat) (hi r : List (Nat × Nat)) (q : Nat) : List (Nat × Nat) := (List.range q).map (msk N hi r)
theorem msks_len (N : Nat) (hi r : List (Nat × Nat)) (q : Nat) : (msks N hi r q).length = q := by simp [msks]
theorem msks_at (N : Nat) (hi r : List (Nat × Nat)) (q : Nat) {x : Nat} (h : x < q) : el (msks N hi r q) x = msk N hi r x := by simp [el, msks, List.getD, h]
theorem lt_msk (N : Nat) (hi r : List (Nat × Nat)) (x : Nat) : lt2 (msk N hi r x) := lt_xs (fun _ => lt_sl (lt_wt _ _)) _
theorem of_msk {m : Nat} (hm : m < 8) (N : Nat) (hi : List (Nat × Nat)) {r : List (Nat × Nat)} (hr : ofT m r) (x : Nat) : ofE m (msk N hi r x) := of_xs hm _ fun _ _ => of_sl hm (of_wt hm hr _)
theorem lt_msks (N : Nat) (hi r : List (Nat × Nat)) (q : Nat) : ltE (msks N hi r q) := ltE_of fun i h => by
  rw [msks_len] at h
  rw [msks_at N hi r q h]; exact lt_msk _ _ _ _
theorem of_msks {m : Nat} (hm : m < 8) (N : Nat) (hi : List (Nat × Nat)) {r : List (Nat × Nat)} (hr : ofT m r) (q : Nat) : ofT m (msks N hi r q) := ofT_of fun i h => by
  rw [msks_len] at h
  rw [msks_at N hi r q h]; exact of_msk hm _ _ hr _
/-- The packed element x, bit by bit. -/
def pk (N : Nat) (bs : List Bool) (x : Nat) : Nat × Nat := xs N fun v => sl (bt bs (x * N + v)) (bv (v : Int))
theorem rx_xs (f : Nat → Bool) : ∀ n, rx f n = xs n fun v => sl (f v) (bv (v : Int))
  | 0 => rfl
  | n + 1 => by
    unfold rx
    simp only [xs]
    rw [← rx_xs f n]
    cases f n
    · simp [sl, xa_zero]
    · simp [sl, xa]
/-- What weave.Bits gathers is that. -/
theorem gB_pk (k q : Nat) (hk : k < 8) (bs : List Bool) (hq : bs.length = q * 2 ^ k) {x : Nat} (hx : x < q) : el (gB k q bs) x = pk (2 ^ k) bs x := by
  have h7 : 2 ^ k ≤ 2 ^ 7 := Nat.pow_le_pow_right (by decide) (by omega)
  have e7 : (2 : Nat) ^ 7 = 128 := by decide
  unfold pk
  rw [← rx_xs fun v => bt bs (x * 2 ^ k + v)]
  refine pair_ext (gB_lt k q hk bs hq x hx) (rx_lt _ _) fun m hm => ?_
  rw [rx_has _ _ (by omega) m hm]
  show hasB ((gB k q bs).getD x (0, 0)).1 ((gB k q bs).getD x (0, 0)).2 m = _
  by_cases h : m < 2 ^ k
  · rw [gB_bit k q hk bs hq x hx m h]; simp [h, bt]
  · rw [of_has hk (gB_of k q hk bs hq x hx) m (by omega) hm]; simp [h]
/-- Batched parts are the sum of the packed table times the mask. -/
theorem batch_eq (N q : Nat) (bs : List Bool) (hi r : List (Nat × Nat)) : btc N (parts N bs q hi) r = xs q fun x => pm (pk N bs x) (msk N hi r x) := by
  have e1 : btc N (parts N bs q hi) r = xs N fun u => xs q fun x => xs N fun v => sl (hs (wt hi x) u) (sl (bt bs (x * N + v)) (pm (wt r u) (bv (v : Int)))) := by
    unfold btc trn
    refine xs_congr _ fun u _ => ?_
    rw [pm_xs, xs_swap]
    refine xs_congr _ fun v hv => ?_
    rw [parts_at N bs q hi hv]
    unfold part
    rw [pm_sl, hs_xs, sl_bx]
    refine xs_congr _ fun x _ => ?_
    rw [hs_sl, sl_and, sl_comm]
  rw [e1, xs_swap]
  refine xs_congr _ fun x _ => ?_
  unfold pk msk
  rw [pm_xs]
  refine xs_congr _ fun u _ => ?_
  rw [pm_sl, xs_pm, sl_xs]
  refine xs_congr _ fun v _ => ?_
  rw [sl_pm, Tw.pm_comm']
end Rg
end Go.Proofs.Ytnecjkdlmecgdaa

/- Contracts of span.isMap, within, made and Apply over the seat's translation. -/
namespace Go.Proofs.Ytnecjkdlmecgdaa
open Go.RowKit
open Cb
open Rg
open Tw (pm)

theorem hidT {p : Prop} (h : p) : Hid p := h
theorem hs_hasE (x : Nat × Nat) (n : Nat) : hs x n = hasE x n := rfl
theorem bitLen_bits (x n : Nat) (h : x < 2 ^ 64) (hn : Lib.bitLen x ≤ n) : x.testBit n = false :=
  Nat.testBit_lt_two_pow (Nat.lt_of_lt_of_le (bitLen_lt 64 x (Nat.le_refl _) h) (Nat.pow_le_pow_right (by decide) hn))
/-- Behind its leading bit an element has none. -/
theorem hs_long (x : Nat × Nat) (hx : lt2 x) (n : Nat) (hn : lngE x ≤ n) : hs x n = false := by
  unfold hs hasB
  unfold lngE at hn
  by_cases h : x.1 = 0
  · rw [if_pos h] at hn
    split
    · exact bitLen_bits _ _ hx.2 hn
    · rw [h]; exact Nat.zero_testBit _
  · rw [if_neg h] at hn
    rw [if_neg (by omega)]
    exact bitLen_bits _ _ hx.1 (by omega)
/-- An element of a level has no more bits than that. -/
theorem lng_of {k : Nat} (hk : k < 8) {x : Nat × Nat} (hx : lt2 x) (o : ofE k x) : lngE x ≤ 2 ^ k := by
  have o' := (ofB_iff _ _ _ hk).1 o
  have h7 : (2 : Nat) ^ 7 = 128 := by decide
  unfold lngE
  rcases o' with rfl | ⟨h0, hl⟩
  · have a := bitLen_le x.1 hx.1
    have b := bitLen_le x.2 hx.2
    rw [h7]
    split <;> omega
  · have h0' : x.1 = 0 := by omega
    rw [if_pos h0']
    by_cases h : k = 7
    · subst h; have b := bitLen_le x.2 hx.2; rw [h7]; omega
    · have h6 : 2 ^ k ≤ 2 ^ 6 := Nat.pow_le_pow_right (by decide) (by omega)
      have e6 : (2 : Nat) ^ 6 = 64 := by decide
      exact bitLen_pow (2 ^ k) x.2 (by omega) (by exact_mod_cast hl)
/-- What a map makes of an element. -/
def mdv (n : Nat) (m : List (Nat × Nat)) (x : Nat × Nat) : Nat × Nat := xs n fun i => sl (hs x i) (el m i)
theorem lt_mdv (n : Nat) {m : List (Nat × Nat)} (hm : ltE m) (x : Nat × Nat) : lt2 (mdv n m x) := lt_xs (fun i => lt_sl (ltE_el hm i)) _
/-- The bits behind the leading one add nothing. -/
theorem mdv_long (m : List (Nat × Nat)) (x : Nat × Nat) (hx : lt2 x) (n : Nat) (hn : lngE x ≤ n) : mdv (lngE x) m x = mdv n m x := by
  unfold mdv
  obtain ⟨d, rfl⟩ : ∃ d, n = lngE x + d := ⟨n - lngE x, by omega⟩
  rw [Rg.xs_add, Rg.xs_none d, xa_zero]
  intro i _
  rw [hs_long x hx _ (by omega)]
  rfl
/-- The element, the room, and the sum. -/
structure Md (W w : World) (x s : Nat × Nat) : Prop where
  x : Ew w W.heap.size x.1 x.2
  r : Ew w (W.heap.size + 1) 0 0
  s : Ew w (W.heap.size + 2) s.1 s.2
  d : Below W.heap.size W w
theorem Md.below {W w w' : World} {x s : Nat × Nat} (h : Md W w x s) (hb : Below w.heap.size w w') : Md W w' x s := ⟨h.x.below hb, h.r.below hb, h.s.below hb, h.d.trans (hb.mono h.d.size)⟩
theorem Md.drew {W w : World} {x s : Nat × Nat} (h : Md W w x s) : Md W w.drew x s := ⟨h.x.drew, h.r.drew, h.s.drew, h.d.drew⟩
theorem Md.put {W w : World} {x s : Nat × Nat} (h : Md W w x s) (t : Nat × Nat) : Md W ((w.setCell ⟨W.heap.size + 2, 0, none⟩ (.int .u64 (t.1 : Int))).setCell ⟨W.heap.size + 2, 1, none⟩ (.int .u64 (t.2 : Int))) x t :=
  ⟨h.x.other (by omega) _ _, h.r.other (by omega) _ _, h.s.set _ _, below2 (p := W.heap.size + 2) h.d (by omega) _ _⟩
theorem Md.facts {W w : World} {b o : Nat} {x s y : Nat × Nat} (h : Md W w x s) (A : b < W.heap.size ∧ W.cell? ⟨b, o, none⟩ = some (.int .u64 (y.1 : Int)) ∧ W.cell? ⟨b, o + 1, none⟩ = some (.int .u64 (y.2 : Int))) :
    w.cell? ⟨b, o, none⟩ = some (.int .u64 (y.1 : Int)) ∧ w.cell? ⟨b, o + 1, none⟩ = some (.int .u64 (y.2 : Int)) ∧ w.cell? ⟨W.heap.size + 2, 0, none⟩ = some (.int .u64 (s.1 : Int)) ∧ w.cell? ⟨W.heap.size + 2, 1, none⟩ = some (.int .u64 (s.2 : Int)) ∧ w.frozen? ⟨W.heap.size + 2, 0, none⟩ = false ∧ w.frozen? ⟨W.heap.size + 2, 1, none⟩ = false :=
  ⟨by rw [h.d.cell (p := ⟨b, o, none⟩) A.1]; exact A.2.1, by rw [h.d.cell (p := ⟨b, o + 1, none⟩) A.1]; exact A.2.2, h.s.hi, h.s.lo, h.s.fhi, h.s.flo⟩
end Go.Proofs.Ytnecjkdlmecgdaa

/- Spans of elements, no Go in sight: reduced rows, what is left, the rows with one more; reduced rows of one span that fall are one list. -/
namespace Go.Proofs.Ytnecjkdlmecgdaa
namespace Sq
open Cb
open Rg

/-- The leading bit of what is not 0. -/
def ld (x : Nat × Nat) : Nat := lngE x - 1
theorem hs_ld {x : Nat × Nat} (hx : lt2 x) (h0 : x ≠ (0, 0)) : hs x (ld x) = true := (lngE_lead x hx.1 hx.2 h0).2.2
theorem ld_lt {x : Nat × Nat} (hx : lt2 x) (h0 : x ≠ (0, 0)) : ld x < 128 := by
  have := lngE_lead x hx.1 hx.2 h0
  unfold ld; omega
theorem lng_ld {x : Nat × Nat} (hx : lt2 x) (h0 : x ≠ (0, 0)) : lngE x = ld x + 1 := by
  have := lngE_lead x hx.1 hx.2 h0
  unfold ld; omega
theorem le_ld {x : Nat × Nat} (hx : lt2 x) {b : Nat} (h : hs x b = true) : b ≤ ld x := by
  rcases Nat.lt_or_ge b (lngE x) with h1 | h1
  · unfold ld; omega
  · rw [hs_long x hx b h1] at h; cases h
theorem hs_ne {x : Nat × Nat} {b : Nat} (h : hs x b = true) : x ≠ (0, 0) := fun e => by
  rw [e, hs_zero] at h; cases h
theorem ld_of {x : Nat × Nat} (hx : lt2 x) {b : Nat} (h : hs x b = true) (hb : ∀ c, b < c → hs x c = false) : ld x = b := by
  have h1 := le_ld hx h
  rcases Nat.lt_or_ge b (ld x) with h2 | h2
  · have h3 := hs_ld hx (hs_ne h)
    rw [hb _ h2] at h3; cases h3
  · omega
theorem hs_above {x : Nat × Nat} (hx : lt2 x) {c : Nat} (h : ld x < c) : hs x c = false := hs_long x hx c (by unfold ld at h; omega)
/-- No bit: 0. -/
theorem hs_none {x : Nat × Nat} (hx : lt2 x) (h : ∀ b, b < 128 → hs x b = false) : x = (0, 0) := by
  by_cases h0 : x = (0, 0)
  · exact h0
  · have := hs_ld hx h0
    rw [h _ (ld_lt hx h0)] at this; cases this
theorem ld_add {a b : Nat × Nat} (ha : lt2 a) (hb : lt2 b) (b0 : b ≠ (0, 0)) (h : a = (0, 0) ∨ ld a < ld b) : ld (xa a b) = ld b := by
  have h1 : ∀ c, ld b ≤ c → hs a c = false := fun c hc => by
    rcases h with rfl | h
    · exact hs_zero c
    · exact hs_above ha (by omega)
  refine ld_of (lt_xa ha hb) ?_ fun c hc => ?_
  · rw [hs_xa, h1 _ (Nat.le_refl _), hs_ld hb b0]; rfl
  · rw [hs_xa, h1 c (by omega), hs_above hb hc]; rfl

/-- The span of a list. -/
def Sp : List (Nat × Nat) → Nat × Nat → Prop
  | [], x => x = (0, 0)
  | a :: l, x => Sp l x ∨ Sp l (xa x a)
theorem sp_zero : ∀ l, Sp l (0, 0)
  | [] => rfl
  | _ :: l => .inl (sp_zero l)
theorem sp_add : ∀ (l : List (Nat × Nat)) {x y : Nat × Nat}, Sp l x → Sp l y → Sp l (xa x y)
  | [], x, y, hx, hy => by
    have h1 : x = (0, 0) := hx
    have h2 : y = (0, 0) := hy
    subst h1 h2; exact xa_zero _
  | a :: l, x, y, hx, hy => by
    rcases hx with hx | hx <;> rcases hy with hy | hy
    · exact .inl (sp_add l hx hy)
    · refine .inr ?_
      have := sp_add l hx hy
      rwa [← xa_assoc] at this
    · refine .inr ?_
      have := sp_add l hx hy
      rwa [xa_assoc, xa_comm a y, ← xa_assoc] at this
    · refine .inl ?_
      have := sp_add l hx hy
      rwa [xa_assoc, xa_left a y a, xa_self, xa_zero] at this
theorem sp_mem : ∀ {l : List (Nat × Nat)} {a : Nat × Nat}, a ∈ l → Sp l a
  | b :: l, a, h => by
    rcases List.mem_cons.1 h with rfl | h
    · exact .inr (by rw [xa_self]; exact sp_zero l)
    · exact .inl (sp_mem h)
theorem sp_sub : ∀ {l m : List (Nat × Nat)}, (∀ a ∈ l, Sp m a) → ∀ {x}, Sp l x → Sp m x
  | [], m, _, x, hx => by
    have h1 : x = (0, 0) := hx
    subst h1; exact sp_zero m
  | a :: l, m, h, x, hx => by
    have i : ∀ {x}, Sp l x → Sp m x := sp_sub fun b hb => h b (by simp [hb])
    rcases hx with hx | hx
    · exact i hx
    · have := sp_add m (i hx) (h a (by simp))
      rwa [xa_assoc, xa_self, xa_zero] at this
theorem sp_lt : ∀ {l : List (Nat × Nat)}, ltE l → ∀ {x}, Sp l x → lt2 x
  | [], _, x, hx => by
    have h1 : x = (0, 0) := hx
    subst h1; exact lt_zero
  | a :: l, h, x, hx => by
    have h' : ltE l := fun b hb => h b (by simp [hb])
    rcases hx with hx | hx
    · exact sp_lt h' hx
    · have := lt_xa (sp_lt h' hx) (h a (by simp))
      rwa [xa_assoc, xa_self, xa_zero] at this
/-- A bit that none of a list has none of its span has. -/
theorem sp_bit : ∀ {l : List (Nat × Nat)} {b : Nat}, (∀ a ∈ l, hs a b = false) → ∀ {x}, Sp l x → hs x b = false
  | [], b, _, x, hx => by
    have h1 : x = (0, 0) := hx
    subst h1; exact hs_zero b
  | a :: l, b, h, x, hx => by
    rcases hx with hx | hx
    · exact sp_bit (fun c hc => h c (by simp [hc])) hx
    · have := sp_bit (fun c hc => h c (by simp [hc])) hx
      rw [hs_xa, h a (by simp)] at this
      simpa using this
theorem sp_app {l m : List (Nat × Nat)} {x : Nat × Nat} (h : Sp l x) : Sp (l ++ m) x := sp_sub (fun a ha => sp_mem (by simp [ha])) h
theorem sp_app' {l m : List (Nat × Nat)} {x : Nat × Nat} (h : Sp m x) : Sp (l ++ m) x := sp_sub (fun a ha => sp_mem (by simp [ha])) h
theorem sp_snoc {l : List (Nat × Nat)} {a x : Nat × Nat} : Sp (l ++ [a]) x ↔ Sp l x ∨ Sp l (xa x a) := by
  constructor
  · intro h
    have : Sp (a :: l) x := sp_sub (fun b hb => sp_mem (by simp at hb ⊢; exact hb.symm)) h
    exact this
  · intro h
    have : Sp (a :: l) x := h
    exact sp_sub (fun b hb => sp_mem (by simp at hb ⊢; exact hb.symm)) this
/-- Two lists of one span. -/
def Eqs (l m : List (Nat × Nat)) : Prop := ∀ x, Sp l x ↔ Sp m x
theorem eqs_of {l m : List (Nat × Nat)} (h1 : ∀ a ∈ l, Sp m a) (h2 : ∀ a ∈ m, Sp l a) : Eqs l m := fun _ => ⟨sp_sub h1, sp_sub h2⟩

/-- Reduced rows: none is 0, and none has another one's leading bit. -/
def Apt (a b : Nat × Nat) : Prop := hs a (ld b) = false ∧ hs b (ld a) = false
structure RR (rs : List (Nat × Nat)) : Prop where
  lt : ltE rs
  ne : ∀ r ∈ rs, r ≠ (0, 0)
  apt : rs.Pairwise Apt
theorem RR.tail {r : Nat × Nat} {rs : List (Nat × Nat)} (h : RR (r :: rs)) : RR rs := ⟨fun a ha => h.lt a (by simp [ha]), fun a ha => h.ne a (by simp [ha]), (List.pairwise_cons.1 h.apt).2⟩
theorem RR.head {r : Nat × Nat} {rs : List (Nat × Nat)} (h : RR (r :: rs)) : ∀ a ∈ rs, Apt r a := (List.pairwise_cons.1 h.apt).1
theorem RR.nil : RR [] := ⟨fun _ h => by simp at h, fun _ h => by simp at h, List.Pairwise.nil⟩
/-- What is in the span and has no row's leading bit is 0. -/
theorem rr_zero : ∀ {rs : List (Nat × Nat)}, RR rs → ∀ {y}, Sp rs y → (∀ r ∈ rs, hs y (ld r) = false) → y = (0, 0)
  | [], _, y, hy, _ => hy
  | r :: rs, h, y, hy, hp => by
    rcases hy with hy | hy
    · exact rr_zero h.tail hy fun a ha => hp a (by simp [ha])
    · have h1 := sp_bit (b := ld r) (fun a ha => (h.head a ha).2) hy
      rw [hs_xa, hp r (by simp), hs_ld (h.lt r (by simp)) (h.ne r (by simp))] at h1
      cases h1
/-- The leading bit of what is in the span is a row's. -/
theorem rr_lead : ∀ {rs : List (Nat × Nat)}, RR rs → ∀ {x}, Sp rs x → x ≠ (0, 0) → ∃ r ∈ rs, ld x = ld r
  | [], _, x, hx, h0 => absurd hx h0
  | r :: rs, h, x, hx, h0 => by
    rcases hx with hx | hx
    · obtain ⟨a, ha, e⟩ := rr_lead h.tail hx h0
      exact ⟨a, by simp [ha], e⟩
    · have hr := h.lt r (by simp)
      have r0 := h.ne r (by simp)
      have hz : lt2 (xa x r) := sp_lt h.tail.lt hx
      have ex : xa (xa x r) r = x := by rw [xa_assoc, xa_self, xa_zero]
      by_cases z0 : xa x r = (0, 0)
      · exact ⟨r, by simp, by rw [← ex, z0, zero_xa]⟩
      · obtain ⟨a, ha, e⟩ := rr_lead h.tail hx z0
        have h1 := sp_bit (b := ld r) (fun a ha => (h.head a ha).2) hx
        have h2 := hs_ld hz z0
        rcases Nat.lt_trichotomy (ld (xa x r)) (ld r) with c | c | c
        · refine ⟨r, by simp, ?_⟩
          conv => lhs; rw [← ex]
          exact ld_add hz hr r0 (.inr c)
        · rw [c, h1] at h2; cases h2
        · refine ⟨a, by simp [ha], ?_⟩
          rw [← e]
          conv => lhs; rw [← ex, xa_comm]
          exact ld_add hr hz z0 (.inr c)
/-- What is left of an element. -/
def st (x r : Nat × Nat) : Nat × Nat := if hs x (ld r) = true then xa x r else x
def red : List (Nat × Nat) → Nat × Nat → Nat × Nat
  | [], x => x
  | r :: rs, x => red rs (st x r)
theorem red_snoc : ∀ (rs : List (Nat × Nat)) (r x : Nat × Nat), red (rs ++ [r]) x = st (red rs x) r
  | [], _, _ => rfl
  | _ :: rs, r, _ => red_snoc rs r _
theorem st_bit {x r : Nat × Nat} {b : Nat} (h : hs r b = false) : hs (st x r) b = hs x b := by
  unfold st; split
  · rw [hs_xa, h]; simp
  · rfl
theorem st_lead {x r : Nat × Nat} (hr : lt2 r) (r0 : r ≠ (0, 0)) : hs (st x r) (ld r) = false := by
  unfold st; split
  · rename_i h; rw [hs_xa, h, hs_ld hr r0]; rfl
  · rename_i h; simpa using h
theorem lt_st {x r : Nat × Nat} (hx : lt2 x) (hr : lt2 r) : lt2 (st x r) := by
  unfold st; split
  · exact lt_xa hx hr
  · exact hx
theorem red_keep : ∀ {rs : List (Nat × Nat)} {b : Nat}, (∀ r ∈ rs, hs r b = false) → ∀ x, hs (red rs x) b = hs x b
  | [], _, _, _ => rfl
  | r :: rs, b, h, x => (red_keep (fun a ha => h a (by simp [ha])) (st x r)).trans (st_bit (h r (by simp)))
theorem lt_red : ∀ {rs : List (Nat × Nat)}, ltE rs → ∀ {x}, lt2 x → lt2 (red rs x)
  | [], _, _, hx => hx
  | r :: rs, h, x, hx => lt_red (rs := rs) (x := st x r) (fun a ha => h a (by simp [ha])) (lt_st hx (h r (by simp)))
theorem red_bit : ∀ {rs : List (Nat × Nat)}, RR rs → ∀ x, ∀ r ∈ rs, hs (red rs x) (ld r) = false
  | r :: rs, h, x, a, ha => by
    rcases List.mem_cons.1 ha with rfl | ha
    · refine (red_keep (fun b hb => (h.head b hb).2) _).trans (st_lead (h.lt a (by simp)) (h.ne a (by simp)))
    · exact red_bit h.tail _ a ha
theorem red_sp : ∀ (rs : List (Nat × Nat)) (x : Nat × Nat), Sp rs (xa x (red rs x))
  | [], x => xa_self x
  | r :: rs, x => by
    have h := red_sp rs (st x r)
    show Sp rs (xa x (red rs (st x r))) ∨ Sp rs (xa (xa x (red rs (st x r))) r)
    by_cases c : hs x (ld r) = true
    · right
      rw [show st x r = xa x r from if_pos c] at h ⊢
      rwa [xa_assoc, xa_comm r, ← xa_assoc] at h
    · left
      rwa [show st x r = x from if_neg c] at h ⊢
theorem red_iff {rs : List (Nat × Nat)} (h : RR rs) (x : Nat × Nat) : Sp rs x ↔ red rs x = (0, 0) := by
  constructor
  · intro hx
    have := sp_add rs (red_sp rs x) hx
    rw [xa_assoc, xa_comm _ x, xa_back] at this
    exact rr_zero h this (red_bit h x)
  · intro e
    have := red_sp rs x
    rwa [e, xa_zero] at this
/-- A row less another one. -/
theorem ld_st {o r : Nat × Nat} (ho : lt2 o) (hr : lt2 r) (o0 : o ≠ (0, 0)) (r0 : r ≠ (0, 0)) (h : hs r (ld o) = false) : st o r ≠ (0, 0) ∧ ld (st o r) = ld o := by
  have e : ld (st o r) = ld o := by
    unfold st; split
    · rename_i c
      have h1 := le_ld ho c
      have h2 : ld r ≠ ld o := fun e => by rw [← e, hs_ld hr r0] at h; cases h
      rw [xa_comm]
      exact ld_add hr ho o0 (.inr (by omega))
    · rfl
  refine ⟨hs_ne (b := ld o) ?_, e⟩
  rw [st_bit h]; exact hs_ld ho o0
theorem rr_more {rs : List (Nat × Nat)} (h : RR rs) {r : Nat × Nat} (hr : lt2 r) (r0 : r ≠ (0, 0)) (hp : ∀ o ∈ rs, hs r (ld o) = false) : RR (rs.map (fun o => st o r) ++ [r]) := by
  have L : ∀ o ∈ rs, st o r ≠ (0, 0) ∧ ld (st o r) = ld o := fun o ho => ld_st (h.lt o ho) hr (h.ne o ho) r0 (hp o ho)
  refine ⟨fun a ha => ?_, fun a ha => ?_, ?_⟩
  · simp only [List.mem_append, List.mem_map, List.mem_singleton] at ha
    rcases ha with ⟨o, ho, rfl⟩ | rfl
    · exact lt_st (h.lt o ho) hr
    · exact hr
  · simp only [List.mem_append, List.mem_map, List.mem_singleton] at ha
    rcases ha with ⟨o, ho, rfl⟩ | rfl
    · exact (L o ho).1
    · exact r0
  · refine List.pairwise_append.2 ⟨?_, List.pairwise_singleton _ _, fun a ha b hb => ?_⟩
    · rw [List.pairwise_map]
      refine h.apt.imp_of_mem fun {a b} ha hb hab => ?_
      unfold Apt
      rw [(L a ha).2, (L b hb).2, st_bit (hp b hb), st_bit (hp a ha)]
      exact hab
    · simp only [List.mem_map, List.mem_singleton] at ha hb
      obtain ⟨o, ho, rfl⟩ := ha
      subst hb
      refine ⟨st_lead hr r0, ?_⟩
      rw [(L o ho).2]; exact hp o ho
theorem st_sp {m : List (Nat × Nat)} {o r : Nat × Nat} (ho : Sp m o) (hr : Sp m r) : Sp m (st o r) := by
  unfold st; split
  · exact sp_add m ho hr
  · exact ho
theorem st_st {o r : Nat × Nat} {m : List (Nat × Nat)} (h1 : Sp m (st o r)) (hr : Sp m r) : Sp m o := by
  unfold st at h1; split at h1
  · have := sp_add m h1 hr
    rwa [xa_assoc, xa_self, xa_zero] at this
  · exact h1
theorem sp_more (rs : List (Nat × Nat)) (r : Nat × Nat) : Eqs (rs.map (fun o => st o r) ++ [r]) (rs ++ [r]) := by
  refine eqs_of (fun a ha => ?_) (fun a ha => ?_)
  · simp only [List.mem_append, List.mem_map, List.mem_singleton] at ha
    rcases ha with ⟨o, ho, rfl⟩ | rfl
    · exact st_sp (sp_mem (by simp [ho])) (sp_mem (by simp))
    · exact sp_mem (by simp)
  · simp only [List.mem_append, List.mem_singleton] at ha
    rcases ha with ho | rfl
    · exact st_st (r := r) (sp_mem (by simp only [List.mem_append, List.mem_map]; exact .inl ⟨a, ho, rfl⟩)) (sp_mem (by simp))
    · exact sp_mem (by simp)
/-- What is left instead of an element: the same span. -/
theorem sp_left {l rs : List (Nat × Nat)} (h : Eqs rs l) (x : Nat × Nat) : Eqs (rs ++ [red rs x]) (l ++ [x]) := fun y => by
  have k := red_sp rs x
  rw [sp_snoc, sp_snoc, ← h y, ← h (xa y x)]
  constructor
  · rintro (c | c)
    · exact .inl c
    · refine .inr ?_
      have := sp_add rs c k
      rwa [xa_assoc, xa_left (red rs x) x (red rs x), xa_self, xa_zero] at this
  · rintro (c | c)
    · exact .inl c
    · refine .inr ?_
      have := sp_add rs c k
      rwa [xa_assoc, ← xa_assoc x x, xa_self, zero_xa] at this
theorem sp_in {l : List (Nat × Nat)} {x : Nat × Nat} (h : Sp l x) : Eqs (l ++ [x]) l := fun y => by
  rw [sp_snoc]
  constructor
  · rintro (c | c)
    · exact c
    · have := sp_add l c h
      rwa [xa_assoc, xa_self, xa_zero] at this
  · exact .inl
/-- Rows that fall. -/
def Fall (rs : List (Nat × Nat)) : Prop := rs.Pairwise fun a b => ld b < ld a
/-- Two lists of numbers that fall, one in the other. -/
theorem fall_sub : ∀ (a b : List Nat), a.Pairwise (fun x y => y < x) → b.Pairwise (fun x y => y < x) → (∀ x ∈ a, x ∈ b) → a.Sublist b
  | [], b, _, _, _ => List.nil_sublist b
  | x :: a, [], _, _, h => absurd (h x (by simp)) (by simp)
  | x :: a, y :: b, ha, hb, h => by
    have ha' := List.pairwise_cons.1 ha
    have hb' := List.pairwise_cons.1 hb
    rcases List.mem_cons.1 (h x (by simp)) with rfl | hx
    · refine List.Sublist.cons_cons _ (fall_sub a b ha'.2 hb'.2 fun z hz => ?_)
      have := ha'.1 z hz
      rcases List.mem_cons.1 (h z (by simp [hz])) with rfl | h1
      · omega
      · exact h1
    · refine List.Sublist.cons _ (fall_sub (x :: a) b ha hb'.2 fun z hz => ?_)
      have h1 := hb'.1 x hx
      rcases List.mem_cons.1 (h z hz) with rfl | h2
      · rcases List.mem_cons.1 hz with rfl | h3
        · omega
        · have := ha'.1 _ h3; omega
      · exact h2
theorem rr_leads {rs ss : List (Nat × Nat)} (hr : RR rs) (hs' : RR ss) (h : ∀ x, Sp rs x → Sp ss x) : ∀ d ∈ rs.map ld, d ∈ ss.map ld := fun d hd => by
  simp only [List.mem_map] at hd ⊢
  obtain ⟨r, h1, rfl⟩ := hd
  obtain ⟨s, h2, e⟩ := rr_lead hs' (h r (sp_mem h1)) (hr.ne r h1)
  exact ⟨s, h2, e.symm⟩
theorem Fall.lds {rs : List (Nat × Nat)} (h : Fall rs) : (rs.map ld).Pairwise (fun x y => y < x) := by
  rw [List.pairwise_map]; exact h
/-- A span within another one of as many rows is the other one. -/
theorem rr_same {rs ss : List (Nat × Nat)} (hr : RR rs) (hs' : RR ss) (fr : Fall rs) (fs : Fall ss) (h : ∀ x, Sp rs x → Sp ss x) (hl : ss.length ≤ rs.length) : Eqs rs ss := fun x => by
  refine ⟨h x, fun hx => ?_⟩
  have e := (fall_sub _ _ fr.lds fs.lds (rr_leads hr hs' h)).eq_of_length_le (by simpa using hl)
  rw [red_iff hr]
  have h1 : Sp ss (red rs x) := by
    have := sp_add ss (h _ (red_sp rs x)) hx
    rwa [xa_assoc, xa_comm _ x, xa_back] at this
  refine rr_zero hs' h1 fun s h2 => ?_
  have h3 : ld s ∈ rs.map ld := by rw [e]; exact List.mem_map.2 ⟨s, h2, rfl⟩
  obtain ⟨r, h4, e4⟩ := List.mem_map.1 h3
  rw [← e4]; exact red_bit hr x r h4
theorem rr_len {rs ss : List (Nat × Nat)} (hr : RR rs) (hs' : RR ss) (fr : Fall rs) (fs : Fall ss) (h : ∀ x, Sp rs x → Sp ss x) : rs.length ≤ ss.length := by
  have := (fall_sub _ _ fr.lds fs.lds (rr_leads hr hs' h)).length_le
  simpa using this
theorem apt_all : ∀ {rs : List (Nat × Nat)}, rs.Pairwise Apt → ∀ {a b}, a ∈ rs → b ∈ rs → a ≠ b → Apt a b
  | r :: rs, h, a, b, ha, hb, n => by
    have h' := List.pairwise_cons.1 h
    rcases List.mem_cons.1 ha with rfl | ka <;> rcases List.mem_cons.1 hb with rfl | kb
    · exact absurd rfl n
    · exact h'.1 b kb
    · exact ⟨(h'.1 a ka).2, (h'.1 a ka).1⟩
    · exact apt_all h'.2 ka kb n
theorem apt_ne {a b : Nat × Nat} (ha : lt2 a) (a0 : a ≠ (0, 0)) (h : Apt a b) : ld a ≠ ld b := fun e => by
  have := h.1
  rw [← e, hs_ld ha a0] at this; cases this
theorem rr_mem {rs ss : List (Nat × Nat)} (hr : RR rs) (hs' : RR ss) (h : Eqs rs ss) : ∀ r ∈ rs, r ∈ ss := fun r h1 => by
  obtain ⟨s, h2, e⟩ := rr_lead hs' ((h r).1 (sp_mem h1)) (hr.ne r h1)
  have k : xa r s = (0, 0) := by
    refine rr_zero hr (sp_add rs (sp_mem h1) ((h s).2 (sp_mem h2))) fun o h3 => ?_
    rw [hs_xa]
    by_cases c : o = r
    · subst c
      rw [hs_ld (hr.lt o h1) (hr.ne o h1), e, hs_ld (hs'.lt s h2) (hs'.ne s h2)]; rfl
    · have a2 : Apt r o := apt_all hr.apt h1 h3 fun e => c e.symm
      obtain ⟨t, h4, e4⟩ := rr_lead hs' ((h o).1 (sp_mem h3)) (hr.ne o h3)
      have n1 : ld r ≠ ld o := apt_ne (hr.lt r h1) (hr.ne r h1) a2
      have n2 : s ≠ t := fun q => n1 (by rw [e, e4, q])
      have b2 : Apt s t := apt_all hs'.apt h2 h4 n2
      rw [a2.1, e4, b2.1]; rfl
  have : r = s := by
    have h5 : xa r (xa r s) = s := xa_back r s
    rw [k, xa_zero] at h5; exact h5
  rw [this]; exact h2
theorem fall_same : ∀ (a b : List (Nat × Nat)), Fall a → Fall b → (∀ x ∈ a, x ∈ b) → (∀ x ∈ b, x ∈ a) → a = b
  | [], [], _, _, _, _ => rfl
  | [], y :: b, _, _, _, h => absurd (h y (by simp)) (by simp)
  | x :: a, [], _, _, h, _ => absurd (h x (by simp)) (by simp)
  | x :: a, y :: b, ha, hb, h1, h2 => by
    have ha' := List.pairwise_cons.1 ha
    have hb' := List.pairwise_cons.1 hb
    have e : x = y := by
      rcases List.mem_cons.1 (h1 x (by simp)) with e | k1
      · exact e
      · rcases List.mem_cons.1 (h2 y (by simp)) with e | k2
        · exact e.symm
        · have := ha'.1 y k2; have := hb'.1 x k1; omega
    subst e
    congr 1
    refine fall_same a b ha'.2 hb'.2 (fun z hz => ?_) (fun z hz => ?_)
    · rcases List.mem_cons.1 (h1 z (by simp [hz])) with rfl | k
      · have := ha'.1 z hz; omega
      · exact k
    · rcases List.mem_cons.1 (h2 z (by simp [hz])) with rfl | k
      · have := hb'.1 z hz; omega
      · exact k
/-- ONE LIST: reduced rows of one span that fall. -/
theorem rr_one {rs ss : List (Nat × Nat)} (hr : RR rs) (hs' : RR ss) (fr : Fall rs) (fs : Fall ss) (h : Eqs rs ss) : rs = ss := fall_same rs ss fr fs (rr_mem hr hs' h) (rr_mem hs' hr fun x => (h x).symm)
end Sq
end Go.Proofs.Ytnecjkdlmecgdaa
