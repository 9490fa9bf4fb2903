/- How many elements have one total of two lists of values that differ, no Go in sight. -/
import Derived.Test.YtejoombhcnldmaaCmF
import Derived.Test.YtejoombhcnldmaaLnP
import Derived.Test.YtejoombhcnldmaaPCmE
import Derived.Test.YtejoombhcnldmaaPCbH
import Derived.Deep.AppendLies
import Derived.Deep.RegionHeld3
namespace Go.Proofs.Ytejoombhcnldmaa
namespace Cm
open Cb
open Tw (pm)
open Ln (F z o ad mu P cnt ad_comm ad_assoc ad_left ad_z z_ad ad_self ad_back ad_eq mu_comm mu_assoc mu_left mu_ad mu_z z_mu o_mu mu_o mu_ne roots cnt_all cnt_le)

def D (a : Nat × Nat) : F := Tw.d7 a.1 a.2
theorem D_pm (a b : Nat × Nat) : D (pm a b) = mu (D a) (D b) := Tw.d7_mul _ _ _ _
theorem D_xa (a b : Nat × Nat) : D (xa a b) = ad (D a) (D b) := Tw.d7_add _ _ _ _
theorem D_one : D (0, 1) = o := Tw.d7_one'
theorem D_zero : D (0, 0) = z := Tw.d7_zero
theorem D_inj {a b : Nat × Nat} (ha : lt2 a) (hb : lt2 b) (h : D a = D b) : a = b := by
  have := Tw.d7_inj ha.1 ha.2 hb.1 hb.2 h
  exact Prod.ext this.1 this.2
theorem lo_inj {i j : Nat} (hi : i < 2 ^ 64) (hj : j < 2 ^ 64) (h : D (0, i) = D (0, j)) : i = j := by
  have := D_inj (a := (0, i)) (b := (0, j)) ⟨Nat.two_pow_pos 64, hi⟩ ⟨Nat.two_pow_pos 64, hj⟩ h
  exact (Prod.mk.inj this).2
/-- A polynomial by its coefficients. -/
def hF (d : Nat → F) : Nat → F → F
  | 0, _ => z
  | n + 1, x => ad (d 0) (mu x (hF (fun i => d (i + 1)) n x))
theorem hF_P : ∀ (n : Nat) (d : Nat → F), P n (hF d (n + 1))
  | 0, d => ⟨d 0, fun x => by show ad (d 0) (mu x z) = _; rw [mu_z, ad_z]⟩
  | n + 1, d => ⟨d 0, hF (fun i => d (i + 1)) (n + 1), hF_P n _, fun _ => rfl⟩
theorem hF_ad : ∀ (n : Nat) (d e : Nat → F) (x : F), ad (hF d n x) (hF e n x) = hF (fun i => ad (d i) (e i)) n x
  | 0, _, _, _ => by show ad z z = z; rw [ad_z]
  | n + 1, d, e, x => by
    show ad (ad (d 0) (mu x _)) (ad (e 0) (mu x _)) = ad (ad (d 0) (e 0)) (mu x (hF (fun i => ad (d (i + 1)) (e (i + 1))) n x))
    rw [← hF_ad n (fun i => d (i + 1)) (fun i => e (i + 1)) x, mu_ad, ad_assoc, ad_assoc, ad_left (mu x (hF (fun i => d (i + 1)) n x)) (e 0)]
/-- One that is nothing everywhere has no coefficients. -/
theorem hF_none : ∀ (n : Nat) (d : Nat → F), n ≤ 12 → (∀ x, hF d n x = z) → ∀ j, j < n → d j = z
  | 0, _, _, _, j, hj => by omega
  | n + 1, d, hn, h, j, hj => by
    have h0 : d 0 = z := by
      have := h z
      show d 0 = z
      rw [show hF d (n + 1) z = ad (d 0) (mu z (hF (fun i => d (i + 1)) n z)) from rfl, z_mu, ad_z] at this
      exact this
    have hg : ∀ x, x ≠ z → hF (fun i => d (i + 1)) n x = z := fun x hx => by
      have := h x
      rw [show hF d (n + 1) x = ad (d 0) (mu x (hF (fun i => d (i + 1)) n x)) from rfl, h0, z_ad] at this
      exact Classical.byContradiction fun hne => mu_ne hx hne this
    have hg2 : ∀ x, hF (fun i => d (i + 1)) n x = z := by
      cases n with
      | zero => exact fun _ => rfl
      | succ k =>
        intro x
        apply Classical.byContradiction
        intro hne
        have hc := roots (fun i => D (0, i + 1)) 13 (fun i j hi hj e => by have := lo_inj (i := i + 1) (j := j + 1) (by omega) (by omega) e; omega) k _ (hF_P k (fun i => d (i + 1))) ⟨x, hne⟩ (fun _ => true) (fun i hi _ => hg _ (fun e => by
          have := lo_inj (i := i + 1) (j := 0) (by omega) (by decide) (by rw [e]; exact D_zero.symm)
          omega))
        rw [cnt_all (fun _ _ => rfl)] at hc
        omega
    cases j with
    | zero => exact h0
    | succ j => exact hF_none n (fun i => d (i + 1)) (by omega) hg2 j (by omega)
theorem sum_front (f : Nat → Nat × Nat) : ∀ n, xs (n + 1) f = xa (f 0) (xs n fun i => f (i + 1))
  | 0 => by simp only [xs]; rw [zero_xa, xa_zero]
  | n + 1 => by
    rw [show xs (n + 1 + 1) f = xa (xs (n + 1) f) (f (n + 1)) from rfl, sum_front f n, xa_assoc]
    rfl
theorem bpow_front (b : Nat × Nat) (hb : lt2 b) : ∀ j, bpow b (j + 1) = pm b (bpow b j)
  | 0 => by show pm (0, 1) b = pm b (0, 1); rw [one_pm hb, pm_one hb]
  | j + 1 => by
    show pm (bpow b (j + 1)) b = pm b (pm (bpow b j) b)
    rw [bpow_front b hb j, Tw.pm_assoc']
/-- The total is the polynomial's value. -/
theorem D_sum (b : Nat × Nat) (hb : lt2 b) : ∀ (n : Nat) (f : Nat → Nat × Nat), (∀ i, lt2 (f i)) → D (xs n fun j => pm (bpow b j) (f j)) = hF (fun i => D (f i)) n (D b)
  | 0, _, _ => D_zero
  | n + 1, f, hf => by
    rw [sum_front, D_xa]
    have e1 : pm (bpow b 0) (f 0) = f 0 := one_pm (hf 0)
    have e2 : (xs n fun i => pm (bpow b (i + 1)) (f (i + 1))) = pm b (xs n fun i => pm (bpow b i) (f (i + 1))) := by
      rw [Rg.pm_xs]
      exact xs_congr n fun i _ => by rw [bpow_front b hb, Tw.pm_assoc']
    rw [e1, e2, D_pm, D_sum b hb n (fun i => f (i + 1)) (fun i => hf (i + 1))]
    rfl
theorem lt_val {cl : List Stp} (h : okC cl) (i : Nat) : lt2 (cl.getD i zst).v := by
  by_cases hi : i < cl.length
  · exact h _ (by rw [show cl.getD i zst = cl[i] by simp [hi]]; exact List.getElem_mem hi)
  · rw [show cl.getD i zst = zst by simp [List.getD, List.getElem?_eq_none (Nat.not_lt.1 hi)]]; exact lt_zero
/-- Is the total at the element i one? -/
def eqT (cl ot : List Stp) (n i : Nat) : Bool := decide (tts cl (0, i) n = tts ot (0, i) n)
theorem count_tot (cl ot : List Stp) (n size : Nat) (hn : n ≤ 12) (hs : size ≤ 16) (h1 : okC cl) (h2 : okC ot) (j : Nat) (hj : j < n) (hne : (cl.getD j zst).v ≠ (ot.getD j zst).v) : cnt (eqT cl ot n) size ≤ n - 1 := by
  obtain ⟨k, rfl⟩ : ∃ k, n = k + 1 := ⟨n - 1, by omega⟩
  have hd : ¬ ∀ x, hF (fun i => ad (D (cl.getD i zst).v) (D (ot.getD i zst).v)) (k + 1) x = z := fun h => by
    have := hF_none (k + 1) _ hn h j hj
    exact hne (D_inj (lt_val h1 j) (lt_val h2 j) (ad_eq this))
  have hy : ∃ y, hF (fun i => ad (D (cl.getD i zst).v) (D (ot.getD i zst).v)) (k + 1) y ≠ z := Classical.byContradiction fun h => hd fun x => Classical.byContradiction fun hx => h ⟨x, hx⟩
  refine Nat.le_trans (roots (fun i => D (0, i)) size (fun i j hi hj e => lo_inj (by omega) (by omega) e) k _ (hF_P k _) hy (eqT cl ot (k + 1)) (fun i hi hp => ?_)) (by omega)
  have e := of_decide_eq_true hp
  have hb : lt2 (0, i) := ⟨Nat.two_pow_pos 64, by show i < 2 ^ 64; omega⟩
  have f1 := D_sum (0, i) hb (k + 1) (fun j => (cl.getD j zst).v) (lt_val h1)
  have f2 := D_sum (0, i) hb (k + 1) (fun j => (ot.getD j zst).v) (lt_val h2)
  rw [← hF_ad, ← f1, ← f2]
  show ad (D (tts cl (0, i) (k + 1))) (D (tts ot (0, i) (k + 1))) = z
  rw [e, ad_self]
theorem tts_same (cl ot : List Stp) (b : Nat × Nat) (n : Nat) (h : ∀ j, j < n → (cl.getD j zst).v = (ot.getD j zst).v) : tts cl b n = tts ot b n := xs_congr n fun j hj => by rw [h j hj]
theorem count_same (cl ot : List Stp) (n size : Nat) (h : ∀ j, j < n → (cl.getD j zst).v = (ot.getD j zst).v) : cnt (eqT cl ot n) size = size := cnt_all fun _ _ => decide_eq_true (tts_same cl ot _ n h)
end Cm
end Go.Proofs.Ytejoombhcnldmaa

/- ClaimCounts over the seat's translation: what is laid out of the claims, and the guards. -/
namespace Go.Proofs.Ytejoombhcnldmaa
open Go.RowKit
open Cb
open Cm
open Tw (pm)

def sflC (l : List Stp) : List Value := l.flatMap fun o => [.int .i64 o.k, .int .i64 o.a, .int .i64 o.b, .int .u64 (o.v.1 : Int), .int .u64 (o.v.2 : Int)]
theorem sflC_snoc (l : List Stp) (o : Stp) : sflC (l ++ [o]) = sflC l ++ [.int .i64 o.k, .int .i64 o.a, .int .i64 o.b, .int .u64 (o.v.1 : Int), .int .u64 (o.v.2 : Int)] := by simp [sflC]
theorem sflC_at (l : List Stp) : ∀ i, i < l.length → ∀ j, j < 5 → (sflC l)[i * 5 + j]? = [Value.int .i64 (l.getD i zst).k, .int .i64 (l.getD i zst).a, .int .i64 (l.getD i zst).b, .int .u64 ((l.getD i zst).v.1 : Int), .int .u64 ((l.getD i zst).v.2 : Int)][j]? := by
  induction l with
  | nil => intro i hi; simp at hi
  | cons o l ih =>
    intro i hi j hj
    have ef : sflC (o :: l) = [.int .i64 o.k, .int .i64 o.a, .int .i64 o.b, .int .u64 (o.v.1 : Int), .int .u64 (o.v.2 : Int)] ++ sflC l := by simp [sflC]
    rw [ef]
    rcases i with _ | i
    · rw [Nat.zero_mul, Nat.zero_add, List.getElem?_append_left (by simpa using hj)]
      rfl
    · have := ih i (by simpa using hi) j hj
      rw [List.getElem?_append_right (by simp; omega), show (i + 1) * 5 + j - [Value.int .i64 o.k, .int .i64 o.a, .int .i64 o.b, .int .u64 (o.v.1 : Int), .int .u64 (o.v.2 : Int)].length = i * 5 + j by simp; omega, this]
      rfl
theorem own_clm {w : World} {base : Nat} {T : TypeId} {s : Value} {l : List Stp} {n : Nat} (hn : l.length = n) (h : w.ownsRow base T 5 s n (sflC l)) : ∃ a cap, s = .slice a n cap ∧ ORow w a l := by
  subst hn
  rcases h.2 with ⟨h1, h0⟩ | ⟨g, cap, cur, rfl, _⟩
  · refine ⟨none, 0, ?_, ⟨fun i hi => by omega⟩⟩
    rw [h1, h0]
  · refine ⟨_, cap, rfl, ⟨fun i hi => ?_⟩⟩
    have e0 := h.cellAt (i * 5 + 0) (by omega)
    have e1 := h.cellAt (i * 5 + 1) (by omega)
    have e2 := h.cellAt (i * 5 + 2) (by omega)
    have e3 := h.cellAt (i * 5 + 3) (by omega)
    have e4 := h.cellAt (i * 5 + 4) (by omega)
    rw [sflC_at l i hi 0 (by decide)] at e0
    rw [sflC_at l i hi 1 (by decide)] at e1
    rw [sflC_at l i hi 2 (by decide)] at e2
    rw [sflC_at l i hi 3 (by decide)] at e3
    rw [sflC_at l i hi 4 (by decide)] at e4
    exact ⟨g, 0, rfl, cell_lt e0, by rw [Nat.zero_add]; exact e0, by rw [Nat.zero_add]; exact e1, by rw [Nat.zero_add]; exact e2, by rw [Nat.zero_add]; exact e3, by rw [Nat.zero_add]; exact e4⟩
theorem info_clm : ∃ i, Try.prog.info? 60 = some i ∧ i.zero = some (.agg #[.int .i64 0, .int .i64 0, .int .i64 0, .int .u64 0, .int .u64 0]) ∧ i.size = 5 ∧ i.bytes = 40 := by
  have h : (Try.prog.info? 60).map (fun i => (i.zero, i.size, i.bytes)) = some (some (.agg #[.int .i64 0, .int .i64 0, .int .i64 0, .int .u64 0, .int .u64 0]), 5, 40) := by kernel_rfl
  obtain ⟨i, hi, he⟩ := Option.map_eq_some_iff.1 h
  simp only [Prod.mk.injEq] at he
  exact ⟨i, hi, he.1, he.2.1, he.2.2⟩
/-- The claims with other values. -/
def otl (cl : List Stp) (vs : List (Nat × Nat)) : List Stp := (List.range cl.length).map fun i => { cl.getD i zst with v := el vs i }
theorem otl_len (cl : List Stp) (vs : List (Nat × Nat)) : (otl cl vs).length = cl.length := by simp [otl]
theorem otl_at (cl : List Stp) (vs : List (Nat × Nat)) {i : Nat} (h : i < cl.length) : (otl cl vs).getD i zst = { cl.getD i zst with v := el vs i } := by simp [otl, List.getD, h]
theorem ok_otl (cl : List Stp) (vs : List (Nat × Nat)) (hv : ltE vs) : okC (otl cl vs) := fun o ho => by
  unfold otl at ho
  obtain ⟨i, _, rfl⟩ := List.mem_map.1 ho
  exact ltE_el hv i
theorem all_otl {m : Nat} (hm : m < 8) (cl : List Stp) (vs : List (Nat × Nat)) (ov : ofT m vs) : ((otl cl vs).all fun o => ofB (m : Int) (o.v.1 : Int) (o.v.2 : Int)) = true := by
  rw [List.all_eq_true]
  intro o ho
  unfold otl at ho
  obtain ⟨i, _, rfl⟩ := List.mem_map.1 ho
  exact ov.el hm i
/-- Are the first so many the same? -/
def smB (cl : List Stp) (vs : List (Nat × Nat)) : Nat → Bool
  | 0 => true
  | i + 1 => smB cl vs i && decide ((cl.getD i zst).v = el vs i)
theorem smB_true {cl : List Stp} {vs : List (Nat × Nat)} : ∀ {n : Nat}, smB cl vs n = true → ∀ j, j < n → (cl.getD j zst).v = el vs j
  | 0, _, j, hj => by omega
  | n + 1, h, j, hj => by
    unfold smB at h
    rw [Bool.and_eq_true] at h
    by_cases e : j = n
    · rw [e]; exact of_decide_eq_true h.2
    · exact smB_true h.1 j (by omega)
theorem smB_false {cl : List Stp} {vs : List (Nat × Nat)} : ∀ {n : Nat}, smB cl vs n = false → ∃ j, j < n ∧ (cl.getD j zst).v ≠ el vs j
  | 0, h => by cases h
  | n + 1, h => by
    unfold smB at h
    rw [Bool.and_eq_false_iff] at h
    rcases h with h | h
    · obtain ⟨j, hj, e⟩ := smB_false h
      exact ⟨j, by omega, e⟩
    · exact ⟨n, by omega, of_decide_eq_false h⟩
theorem cnt_b (p : Nat → Bool) (i : Nat) (b : Bool) (h : p i = b) : Ln.cnt p (i + 1) = Ln.cnt p i + (if b = true then 1 else 0) := by rw [Ln.cnt, h]
theorem cnt_le_n (p : Nat → Bool) : ∀ n, Ln.cnt p n ≤ n
  | 0 => Nat.le_refl _
  | n + 1 => by rw [Ln.cnt]; have := cnt_le_n p n; split <;> omega
theorem tt_zero {m : Nat} (hm : m < 8) (cl : List Stp) (b : Nat × Nat) (ob : ofE m b) (h : (cl.all fun o => ofB (m : Int) (o.v.1 : Int) (o.v.2 : Int)) = true) : ttE (m : Int) cl b = 0 ∧ ttv (m : Int) cl b = tts cl b cl.length := by
  have e : ttE (m : Int) cl b = 0 := by unfold ttE; rw [if_pos (by omega), if_pos (show ofB (m : Int) (b.1 : Int) (b.2 : Int) = true from ob), if_pos h]
  refine ⟨e, ?_⟩
  unfold ttv; rw [if_pos e]
set_option maxHeartbeats 4000000 in
theorem cc_far (l : Int) (a c : Option Addr) (cap cap2 : Nat) (cl : List Stp) (vs : List (Nat × Nat)) (lv : ltE vs) (h : ¬ ((0 ≤ l ∧ l ≤ 2) ∧ cl.length ≤ 12 ∧ cl.length = vs.length ∧ (vs.all fun e => ofB l (e.1 : Int) (e.2 : Int)) = true)) (W : World) (rv : ERow W c vs) :
    Calls Try.prog 6 #[.int .i64 l, .slice a cl.length cap, .slice c vs.length cap2] W fun e w' => e = .returned (.bool true) ∧ Below W.heap.size W w' := by
  have AW := hidC awake22
  by_cases h1 : l < 0
  · clear h rv lv
    generalize cl.length = n at *
    generalize vs.length = k at *
    go_enter Try.func6, Try.ntmps6
    go_wp2_with (go_at_call 10; refine (AW.out.go _).mono ?_; rintro e w9 ⟨rfl, hb9⟩)
    go_ret
    exact ⟨rfl, hb9⟩
  · by_cases h2 : 2 < l
    · clear h rv lv
      generalize cl.length = n at *
      generalize vs.length = k at *
      go_enter Try.func6, Try.ntmps6
      go_wp2_with (go_at_call 10; refine (AW.out.go _).mono ?_; rintro e w9 ⟨rfl, hb9⟩)
      go_ret
      exact ⟨rfl, hb9⟩
    · by_cases h3 : cl.length ≤ 12
      · have h3' : ¬ 12 < (cl.length : Int) := by omega
        by_cases h4 : cl.length = vs.length
        · have hal : (vs.all fun e => ofB l (e.1 : Int) (e.2 : Int)) = false := by
            rw [Bool.eq_false_iff]
            exact fun h5 => h ⟨by omega, h3, h4, h5⟩
          have HR := hidC (ref_row c cap2 vs (by omega) W rv)
          have HA := hidC (fun (w : World) (g : Option Addr) (cp : Nat) (h : ERow w g vs) => rall15 l g cp vs lv w h (by omega))
          rw [hal] at HA
          clear h rv lv hal h3
          rw [h4]
          rw [h4] at h3'
          clear h4
          generalize vs.length = k at *
          go_enter Try.func6, Try.ntmps6
          go_wp2_with (first | (go_at_call 10; refine (AW.out.go _).mono ?_; rintro e w9 ⟨rfl, hb9⟩) | (go_at_call 16; refine (HR.out).mono ?_; rintro e w1 ⟨g1, c1, rfl, hr1, hb1⟩) | (go_at_call 23; refine (HA.out _ _ _ hr1).mono ?_; rintro e w2 ⟨rfl, hb2⟩))
          go_ret
          exact ⟨rfl, (hb1.trans (hb2.mono hb1.size)).trans (hb9.mono (hb1.trans (hb2.mono hb1.size)).size)⟩
        · have h4' : ¬ (cl.length : Int) = (vs.length : Int) := by omega
          clear h rv lv h4 h3
          generalize cl.length = n at *
          generalize vs.length = k at *
          go_enter Try.func6, Try.ntmps6
          go_wp2_with (go_at_call 10; refine (AW.out.go _).mono ?_; rintro e w9 ⟨rfl, hb9⟩)
          go_ret
          exact ⟨rfl, hb9⟩
      · have h3' : 12 < (cl.length : Int) := by omega
        clear h rv lv h3
        generalize cl.length = n at *
        generalize vs.length = k at *
        go_enter Try.func6, Try.ntmps6
        go_wp2_with (go_at_call 10; refine (AW.out.go _).mono ?_; rintro e w9 ⟨rfl, hb9⟩)
        go_ret
        exact ⟨rfl, hb9⟩
end Go.Proofs.Ytejoombhcnldmaa

/- The contract of steeplelaw22.Ref over the seat's translation: claims as the document has them. -/
namespace Go.Proofs.Ytejoombhcnldmaa
open Go.RowKit
open Cb
open Tw (pm)

theorem info_rclm : ∃ i, Try.prog.info? 58 = some i ∧ i.zero = some (.agg #[.int .i64 0, .int .i64 0, .int .i64 0, .int .u64 0, .int .u64 0]) ∧ i.size = 5 ∧ i.bytes = 40 := by
  have h : (Try.prog.info? 58).map (fun i => (i.zero, i.size, i.bytes)) = some (some (.agg #[.int .i64 0, .int .i64 0, .int .i64 0, .int .u64 0, .int .u64 0]), 5, 40) := by kernel_rfl
  obtain ⟨i, hi, he⟩ := Option.map_eq_some_iff.1 h
  simp only [Prod.mk.injEq] at he
  exact ⟨i, hi, he.1, he.2.1, he.2.2⟩
set_option maxHeartbeats 8000000 in
set_option maxRecDepth 100000 in
theorem rref22_own (sa : Option Addr) (cap : Nat) (l : List Stp) (hm : l.length ≤ 1000) (W : World) (hR : ORow W sa l) :
    Calls Try.prog 13 #[.slice sa l.length cap] W fun e w' => ∃ v, e = .returned v ∧ w'.ownsRow W.heap.size 58 5 v l.length (sflC l) ∧ Below W.heap.size W w' := by
  have HR : Hid (ORow W sa l) := hR
  obtain ⟨i0, hi0, hz0, hz1, hz2⟩ := info_rclm
  have HI : Hid (Try.prog.info? 58 = some i0 ∧ i0.zero = some (.agg #[.int .i64 0, .int .i64 0, .int .i64 0, .int .u64 0, .int .u64 0]) ∧ i0.size = 5 ∧ i0.bytes = 40) := ⟨hi0, hz0, hz1, hz2⟩
  clear hR hi0 hz0 hz1 hz2
  go_enter Try.func13, Try.ntmps13
  go_wp2_with fail
  go_loopw [3, 4] (fun s u wr => ∃ i : Nat, i ≤ l.length ∧ u = .int .i64 i ∧ Hid (wr.ownsRow W.heap.size 58 5 s i (sflC (l.take i)) ∧ Below W.heap.size W wr)) (fun _ u _ => l.length - (intOf u).toNat)
  case atStart => exact ⟨0, Nat.zero_le _, rfl, ⟨⟨by simp [sflC], .inl ⟨rfl, rfl⟩⟩, Below.refl _ _⟩⟩
  case round =>
    obtain ⟨i, hil, rfl, O⟩ := hrel
    by_cases hlt : i < l.length
    · obtain ⟨b0, off, rfl, hb0, c0, c1, c2, c3, c4⟩ := HR.out.cells i hlt
      have C0 := keepc O.out.2 c0
      have C1 := keepc O.out.2 c1
      have C2 := keepc O.out.2 c2
      have C3 := keepc O.out.2 c3
      have C4 := keepc O.out.2 c4
      have HN : Hid (sflC (l.take (i + 1)) = sflC (l.take i) ++ [.int .i64 (l.getD i zst).k, .int .i64 (l.getD i zst).a, .int .i64 (l.getD i zst).b, .int .u64 ((l.getD i zst).v.1 : Int), .int .u64 ((l.getD i zst).v.2 : Int)]) := by show _ = _; rw [take_sC l i hlt, sflC_snoc]
      have HC : Hid (W.cell? ⟨b0, off + i * 5, none⟩ = some (.int .i64 (l.getD i zst).k) ∧ W.cell? ⟨b0, off + i * 5 + 1, none⟩ = some (.int .i64 (l.getD i zst).a) ∧ W.cell? ⟨b0, off + i * 5 + 2, none⟩ = some (.int .i64 (l.getD i zst).b) ∧ W.cell? ⟨b0, off + i * 5 + 3, none⟩ = some (.int .u64 ((l.getD i zst).v.1 : Int)) ∧ W.cell? ⟨b0, off + i * 5 + 4, none⟩ = some (.int .u64 ((l.getD i zst).v.2 : Int))) := ⟨c0, c1, c2, c3, c4⟩
      have b1 : (i : Int) < (l.length : Int) := by omega
      have b2 : (0 : Int) ≤ (i : Int) := by omega
      clear c0 c1 c2 c3 c4 hb0 HR
      generalize l.getD i zst = o at *
      obtain ⟨k, a, b, v⟩ := o
      dsimp only at *
      have lB : W.heap.size ≤ wr.heap.size := O.out.2.size
      go_wp2_with fail
      have F : _ ∧ _ ∧ _ ∧ _ ∧ _ := ⟨C0, C1, C2, C3, C4⟩
      clear C0 C1 C2 C3 C4
      go_region_held3 (fun w => w.cell? ⟨b0, off + i * 5, none⟩ = some (.int .i64 k) ∧ w.cell? ⟨b0, off + i * 5 + 1, none⟩ = some (.int .i64 a) ∧ w.cell? ⟨b0, off + i * 5 + 2, none⟩ = some (.int .i64 b) ∧ w.cell? ⟨b0, off + i * 5 + 3, none⟩ = some (.int .u64 (v.1 : Int)) ∧ w.cell? ⟨b0, off + i * 5 + 4, none⟩ = some (.int .u64 (v.2 : Int))) (first | (go_keep; done) | exact ⟨keepc O.out.2 HC.out.1, keepc O.out.2 HC.out.2.1, keepc O.out.2 HC.out.2.2.1, keepc O.out.2 HC.out.2.2.2.1, keepc O.out.2 HC.out.2.2.2.2⟩)
        (first | (refine step_append_lies _ (by rfl) _ _ _ (by rfl) W.heap.size 58 i0 _ 5 40 Try.underlying37 HI.out.1 HI.out.2.1 HI.out.2.2.1 HI.out.2.2.2 rfl (by omega) u3 i _ (by rfl) (by first | exact O.out.1.drew.alloc _ | exact O.out.1.alloc _) ⟨wr.heap.size, 0, none⟩ 1 1 [.int .i64 k, .int .i64 a, .int .i64 b, .int .u64 (v.1 : Int), .int .u64 (v.2 : Int)] (by rfl) (by rfl) (by first | exact World.news_of_block (cs := #[.int .i64 k, .int .i64 a, .int .i64 b, .int .u64 (v.1 : Int), .int .u64 (v.2 : Int)]) (t := 58) (fr := (0, 0)) (heap_alloc_new wr.drew _) | exact World.news_of_block (cs := #[.int .i64 k, .int .i64 a, .int .i64 b, .int .u64 (v.1 : Int), .int .u64 (v.2 : Int)]) (t := 58) (fr := (0, 0)) (heap_alloc_new wr _)) (by simp [Value.oneCell']) (by omega) (by simp only [maxLen]; omega) (by omega) (by simp; omega) (wr.heap.size + 1) (by simp) ?_; intro gg cap' w5 hown5 hgrow hat hlt5; have O' : Hid (w5.ownsRow W.heap.size 58 5 (.slice (some ⟨gg, 0, none⟩) (i + 1) cap') (i + 1) (sflC (l.take i) ++ [.int .i64 k, .int .i64 a, .int .i64 b, .int .u64 (v.1 : Int), .int .u64 (v.2 : Int)]) ∧ Below W.heap.size W w5) := ⟨hown5, (by first | exact (O.out.2.drew.alloc lB _).grown hgrow (by simp; omega) (fun g hg => (O.out.1.lt g hg).1) | exact (O.out.2.alloc lB _).grown hgrow (by simp; omega) (fun g hg => (O.out.1.lt g hg).1))⟩; clear O hown5 hgrow hat hlt5; have O := O'; clear O'))
      go_wp2
      refine ⟨⟨i + 1, hlt, by simp, ⟨?_, O.out.2⟩⟩, by simp [intOf]; omega⟩
      rw [HN.out]
      exact O.out.1
    · obtain rfl : i = l.length := by omega
      have HO : Hid (wr.ownsRow W.heap.size 58 5 u3 l.length (sflC l) ∧ Below W.heap.size W wr) := by
        have h := O.out
        rw [List.take_of_length_le (Nat.le_refl _)] at h
        exact h
      clear O HR
      go_wp2
      go_ret
      exact ⟨_, rfl, HO.out.1, HO.out.2⟩
theorem rref22 (sa : Option Addr) (cap : Nat) (l : List Stp) (hm : l.length ≤ 1000) (W : World) (hR : ORow W sa l) :
    Calls Try.prog 13 #[.slice sa l.length cap] W fun e w' => ∃ a' cap', e = .returned (.slice a' l.length cap') ∧ ORow w' a' l ∧ Below W.heap.size W w' := by
  refine (rref22_own sa cap l hm W hR).mono ?_
  rintro e w' ⟨v, rfl, ho, hb⟩
  obtain ⟨a', cap', rfl, hr⟩ := own_clm rfl ho
  exact ⟨a', cap', rfl, hr, hb⟩
end Go.Proofs.Ytejoombhcnldmaa
