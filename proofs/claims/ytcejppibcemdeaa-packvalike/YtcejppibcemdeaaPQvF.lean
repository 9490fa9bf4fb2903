/- How alike two points are, one on either side, no Go in sight: what is reckoned variable by variable is the sum of the pairs of all corners' weights. -/
import Derived.Test.YtcejppibcemdeaaPPvY
namespace Go.Proofs.Ytcejppibcemdeaa
open Go.RowKit
open Cb Rg
open Tw (pm)
namespace Pv

/-- The sum of pairs. -/
def al (N m : Nat) (X Y : Nat → Nat × Nat) : List (Nat × Nat) := (List.range N).map fun u => xs m fun i => sl (hs (X i) u) (Y i)
theorem al_len (N m : Nat) (X Y : Nat → Nat × Nat) : (al N m X Y).length = N := by simp [al]
theorem al_el {N u : Nat} (m : Nat) (X Y : Nat → Nat × Nat) (h : u < N) : el (al N m X Y) u = xs m fun i => sl (hs (X i) u) (Y i) := by simp [al, el, List.getD, h]
theorem lt_al (N m : Nat) (X : Nat → Nat × Nat) {Y : Nat → Nat × Nat} (h : ∀ i, lt2 (Y i)) : ltE (al N m X Y) := ltE_of fun i hi => by
  rw [al_len] at hi
  rw [al_el m X Y hi]
  exact lt_xs (fun i => lt_sl (h i)) _
theorem of_al {k : Nat} (hk : k < 8) (N m : Nat) (X : Nat → Nat × Nat) {Y : Nat → Nat × Nat} (h : ∀ i, ofE k (Y i)) : ofT k (al N m X Y) := ofT_of fun i hi => by
  rw [al_len] at hi
  rw [al_el m X Y hi]
  exact of_xs hk _ fun i _ => of_sl hk (h i)
theorem al_zero (N : Nat) (X Y : Nat → Nat × Nat) : al N 0 X Y = pairv N (0, 0) (0, 0) := list_ext (by rw [al_len, pairv_len]) fun u hu => by
  rw [al_len] at hu
  rw [al_el 0 X Y hu, pairv_at N _ _ u hu, hs_zero]
  rfl
theorem al_snoc (N m : Nat) (X Y : Nat → Nat × Nat) : al N (m + 1) X Y = ad2 (al N m X Y) (pairv N (X m) (Y m)) := list_ext (by rw [al_len, ad2_len, al_len]) fun u hu => by
  rw [al_len] at hu
  rw [al_el _ X Y hu, ad2_el _ _ (by rw [al_len]; exact hu), al_el m X Y hu, pairv_at N _ _ u hu]
  rfl
theorem al_congr {N m : Nat} {X Y X' Y' : Nat → Nat × Nat} (h1 : ∀ i, i < m → X i = X' i) (h2 : ∀ i, i < m → Y i = Y' i) : al N m X Y = al N m X' Y' := list_ext (by rw [al_len, al_len]) fun u hu => by
  rw [al_len] at hu
  rw [al_el m X Y hu, al_el m X' Y' hu]
  exact xs_congr m fun i hi => by rw [h1 i hi, h2 i hi]
theorem al_one (N : Nat) (X Y : Nat → Nat × Nat) : al N 1 X Y = pairv N (X 0) (Y 0) := list_ext (by rw [al_len, pairv_len]) fun u hu => by
  rw [al_len] at hu
  rw [al_el 1 X Y hu, pairv_at N _ _ u hu, xs_one]
theorem trns_al {k : Nat} (hk : k < 8) (m : Nat) {X Y : Nat → Nat × Nat} (lX : ∀ i, lt2 (X i)) (oX : ∀ i, ofE k (X i)) : trns (2 ^ k) (al (2 ^ k) m X Y) = al (2 ^ k) m Y X := list_ext (by rw [trns_len, al_len]) fun w hw => by
  rw [trns_len] at hw
  rw [trns_at _ _ hw, al_el m Y X hw]
  unfold trn
  rw [xs_congr (g := fun v => xs m fun i => sl (hs (Y i) w) (sl (hs (X i) v) (bv (v : Int)))) _ fun v hv => by
    rw [al_el m X Y hv, hs_xs, sl_bx]
    exact xs_congr m fun i _ => by rw [hs_sl, sl_and, sl_comm]]
  rw [xs_swap]
  exact xs_congr m fun i _ => by rw [← sl_xs, bits_sumP hk (lX i) (oX i)]
theorem rgt_al (N m : Nat) (X Y : Nat → Nat × Nat) (a : Nat × Nat) : rgt (al N m X Y) a = al N m X (fun i => pm (Y i) a) := list_ext (by rw [rgt_len, al_len, al_len]) fun u hu => by
  rw [rgt_len, al_len] at hu
  rw [rgt_el _ a (by rw [al_len]; exact hu), al_el m X Y hu, al_el m X _ hu, xs_pm]
  exact xs_congr m fun i _ => sl_pm _ _ _
/-- Times an element on the left. -/
theorem lft_al {k : Nat} (hk : k < 8) (m : Nat) {X Y : Nat → Nat × Nat} (lX : ∀ i, lt2 (X i)) (oX : ∀ i, ofE k (X i)) (lY : ∀ i, lt2 (Y i)) (oY : ∀ i, ofE k (Y i)) (a : Nat × Nat) : trns (2 ^ k) (rgt (trns (2 ^ k) (al (2 ^ k) m X Y)) a) = al (2 ^ k) m (fun i => pm (X i) a) Y := by
  rw [trns_al hk m lX oX, rgt_al, trns_al hk m lY oY]
theorem xs_three (f : Nat → Nat × Nat) : xs 3 f = xa (xa (f 0) (f 1)) (f 2) := by simp only [xs]; rw [zero_xa]
theorem al_term (P Q : Bool) (y z : Nat × Nat) : xa (xa (sl P y) (sl Q y)) (sl P z) = xa (sl (P ^^ Q) (xa y z)) (sl Q z) := by
  cases P <;> cases Q <;> simp [sl, xa_self, xa_zero, zero_xa]
  rw [xa_assoc, xa_self, xa_zero]
/-- One variable more. -/
theorem al_step {N m : Nat} {X Y X' Y' : Nat → Nat × Nat} (a b : Nat × Nat) (h1 : ∀ i, i < m → X' i = xa (X i) (pm (X i) a)) (h2 : ∀ i, i < m → X' (m + i) = pm (X i) a) (h3 : ∀ i, i < m → Y' i = xa (Y i) (pm (Y i) b)) (h4 : ∀ i, i < m → Y' (m + i) = pm (Y i) b) :
    addv 3 N [al N m X Y, al N m (fun i => pm (X i) a) Y, al N m X (fun i => pm (Y i) b)] = al N (m + m) X' Y' := list_ext (by rw [addv_len, al_len]) fun u hu => by
  rw [addv_len] at hu
  rw [addv_el 3 N _ u hu, al_el (m + m) X' Y' hu, xs_three, xs_add]
  show xa (xa (el (al N m X Y) u) (el (al N m (fun i => pm (X i) a) Y) u)) (el (al N m X (fun i => pm (Y i) b)) u) = _
  rw [al_el m X Y hu, al_el m _ Y hu, al_el m X _ hu, ← xs_two, ← xs_two, ← xs_two]
  refine xs_congr m fun i hi => ?_
  rw [h1 i hi, h2 i hi, h3 i hi, h4 i hi, hs_xa]
  exact al_term _ _ _ _
/-- How alike two points are by their first so many variables. -/
def alk (N : Nat) (p q : List (Nat × Nat)) (n : Nat) : List (Nat × Nat) := al N (2 ^ n) (wt (p.take n)) (wt (q.take n))
theorem alk_len (N : Nat) (p q : List (Nat × Nat)) (n : Nat) : (alk N p q n).length = N := al_len _ _ _ _
theorem lt_alk (N : Nat) (p q : List (Nat × Nat)) (n : Nat) : ltE (alk N p q n) := lt_al _ _ _ fun i => lt_wt _ i
theorem of_alk {k : Nat} (hk : k < 8) (N : Nat) (p : List (Nat × Nat)) {q : List (Nat × Nat)} (oq : ofT k q) (n : Nat) : ofT k (alk N p q n) := of_al hk _ _ _ fun i => of_wt hk (of_take oq n) i
theorem alk_zero (N : Nat) (p q : List (Nat × Nat)) : alk N p q 0 = pairv N (0, 1) (0, 1) := by
  unfold alk
  rw [Nat.pow_zero, al_one]
  rfl
theorem fac_zero (e : Nat × Nat) : fac e 0 = xa (0, 1) e := rfl
theorem fac_oneP (e : Nat × Nat) : fac e 1 = e := rfl
theorem take_snoc (p : List (Nat × Nat)) {n : Nat} (h : n < p.length) : p.take (n + 1) = p.take n ++ [el p n] := by
  rw [List.take_add_one]
  simp [el, List.getD, h]
theorem wt_up (p : List (Nat × Nat)) {n i : Nat} (lp : ltE p) (h : n < p.length) (hi : i < 2 ^ n) : wt (p.take (n + 1)) i = xa (wt (p.take n) i) (pm (wt (p.take n) i) (el p n)) ∧ wt (p.take (n + 1)) (2 ^ n + i) = pm (wt (p.take n) i) (el p n) := by
  have hl : (p.take n).length = n := by rw [List.length_take]; omega
  have le := ltE_el lp n
  have e0 := wt_snoc (p.take n) (el p n) le (x := i) 0 (by rw [hl]; exact hi)
  have e1 := wt_snoc (p.take n) (el p n) le (x := i) 1 (by rw [hl]; exact hi)
  rw [hl, Nat.mul_zero, Nat.add_zero, fac_zero, Tw.pm_comm', xa_pm, one_pm (lt_wt _ _), Tw.pm_comm' (el p n)] at e0
  rw [hl, Nat.mul_one, Nat.add_comm, fac_oneP] at e1
  rw [take_snoc p h]
  exact ⟨e0, e1⟩
theorem alk_succ {k : Nat} (hk : k < 8) {p q : List (Nat × Nat)} (lp : ltE p) (lq : ltE q) (op : ofT k p) (oq : ofT k q) {n : Nat} (h1 : n < p.length) (h2 : n < q.length) : addv 3 (2 ^ k) [alk (2 ^ k) p q n, trns (2 ^ k) (rgt (trns (2 ^ k) (alk (2 ^ k) p q n)) (el p n)), rgt (alk (2 ^ k) p q n) (el q n)] = alk (2 ^ k) p q (n + 1) := by
  unfold alk
  rw [lft_al hk _ (fun i => lt_wt _ i) (fun i => of_wt hk (of_take op n) i) (fun i => lt_wt _ i) (fun i => of_wt hk (of_take oq n) i), rgt_al, Nat.pow_succ, Nat.mul_comm, Nat.two_mul]
  exact al_step (el p n) (el q n) (fun i hi => (wt_up p lp h1 hi).1) (fun i hi => (wt_up p lp h1 hi).2) (fun i hi => (wt_up q lq h2 hi).1) (fun i hi => (wt_up q lq h2 hi).2)
end Pv
end Go.Proofs.Ytcejppibcemdeaa

/- Contracts of packv.Sum and packv.Alike over the seat's translation. -/
namespace Go.Proofs.Ytcejppibcemdeaa
open Go.RowKit
open Cb Rg
open Tw (pm)
namespace Pv

theorem own_wtsQ {w : World} {base : Nat} {T : TypeId} {g P cp : Nat} {ph : List (Nat × Nat)} (h : w.ownsRow base T 2 (.slice (some ⟨g, 0, none⟩) P cp) P (flat (Rg.wts ph P))) : ERow w (some ⟨g, 0, none⟩) (Rg.wts ph P) := by
  obtain ⟨a, cap, e, hE⟩ := own_row (es := Rg.wts ph P) (by rw [Rg.wts_len]; exact h)
  injection e with e1 _ _
  rw [e1]
  exact hE
/-- Cells of a row in memory. -/
theorem row_cells {w : World} {b o : Nat} {es : List (Nat × Nat)} (h : ERow w (some ⟨b, o, none⟩) es) {i : Nat} (hi : i < es.length) : w.cell? ⟨b, o + i * 2, none⟩ = some (.int .u64 ((el es i).1 : Int)) ∧ w.cell? ⟨b, o + i * 2 + 1, none⟩ = some (.int .u64 ((el es i).2 : Int)) := by
  obtain ⟨b1, o1, e1, _, x1, x0⟩ := h.cells i hi
  injection e1 with e1
  injection e1 with e1a e1b
  subst e1a
  subst e1b
  exact ⟨x1, x0⟩
set_option linter.unusedSimpArgs false in
set_option linter.unusedVariables false in
set_option maxHeartbeats 8000000 in
set_option maxRecDepth 100000 in
theorem sum_ok (k : Nat) (hk : k < 8) (N : Nat) (hN : N = 2 ^ k) (n M : Nat) (hM : 2 ^ n = M) (hn : n ≤ 12) (a1 a2 : Option Addr) (c1 c2 : Nat) (p q : List (Nat × Nat)) (hp : p.length = n) (hq : q.length = n) (lp : ltE p) (lq : ltE q) (op : ofT k p) (oq : ofT k q) (W : World) (rp : ERow W a1 p) (rq : ERow W a2 q) :
    Calls Try.prog 32 #[.int .i64 (k : Int), .slice a1 n c1, .slice a2 n c2] W fun e w' => ∃ g, e = .returned (.slice (some ⟨g, 0, none⟩) N N) ∧ ERow w' (some ⟨g, 0, none⟩) (al N M (wt p) (wt q)) ∧ Below W.heap.size W w' := by
  have W1 := hidT (fun w (hw : Below W.heap.size W w) => cwts k hk a1 c1 n M p lp hp hn hM op w (rp.below hw))
  have W2 := hidT (fun w (hw : Below W.heap.size W w) => cwts k hk a2 c2 n M q lq hq hn hM oq w (rq.below hw))
  have M0 : 0 < M := by rw [← hM]; exact Nat.two_pow_pos n
  have Mb : M ≤ 4096 := by rw [← hM]; exact Nat.le_trans (Nat.pow_le_pow_right (by decide) hn) (by decide)
  have qa : ¬ (M : Int) = 0 := by omega
  have k0 : ¬ (k : Int) < 0 := by omega
  have k1 : (0 : Int) ≤ (k : Int) := by omega
  have k2 : (k : Int) < 64 := by omega
  have hsh : wrap64 ((2 : Int) ^ k) = (N : Int) := by
    rw [hN]
    have : ∀ k, k < 8 → wrap64 ((2 : Int) ^ k) = ((2 ^ k : Nat) : Int) := by decide +kernel
    exact this k hk
  have n1 : N ≤ 128 := by rw [hN]; exact Nat.le_trans (Nat.pow_le_pow_right (by decide) (show k ≤ 7 by omega)) (by decide)
  have AP := hidT (fun (x y : Nat × Nat) (lx : lt2 x) (ox : ofE k x) (ly : lt2 y) (R : World) (i : Nat) (w : World) (hT : Tn R w N (fun c => xs i fun j => sl (hs (wt p j) c) (wt q j))) => addpair_any k hk N hN (fun c => xs i fun j => sl (hs (wt p j) c) (wt q j)) (fun c => lt_xs (fun j => lt_sl (lt_wt _ _)) _) x y lx ox ly R w hT)
  have OW := hidT (fun i => of_wt hk op i)
  obtain ⟨i0, hi, hz0, hz1, hz2⟩ := info_elem
  have HI := hidT (show Try.prog.info? 24 = some i0 ∧ i0.zero = some (.agg #[.int .u64 0, .int .u64 0]) ∧ i0.size = 2 ∧ i0.bytes = 16 from ⟨hi, hz0, hz1, hz2⟩)
  clear hi hz0 hz1 hz2 hN hM hp hq lp lq op oq rp rq hn
  go_enter Try.func32, Try.ntmps32
  go_wp2_with (first
      | (have _g := K1; clear _g; go_at_call 53; refine (W2.out _ K1.out.2).mono ?_; rintro e w2 ⟨g2, p2, rfl, hr, hb⟩; have K2 := hidT (show (ERow w2 (some ⟨g1, 0, none⟩) (wts p M) ∧ ERow w2 (some ⟨g2, 0, none⟩) (wts q M)) ∧ Below W.heap.size W w2 from ⟨⟨K1.out.1.below hb, own_wtsQ hr⟩, K1.out.2.trans (hb.mono K1.out.2.size)⟩); clear hr hb K1)
      | (go_at_call 53; refine (W1.out _ (Below.refl _ _)).mono ?_; rintro e w1 ⟨g1, p1, rfl, hr, hb⟩; have K1 := hidT (And.intro (own_wtsQ hr) hb); clear hr hb)
      | (at_make; rw [hsh]; refine wpList_make_full _ rfl _ _ 26 rfl 0 24 i0 (.agg #[.int .u64 0, .int .u64 0]) 2 Try.underlying26 HI.out.1 HI.out.2.1 HI.out.2.2.1 .i64 .i64 _ _ N rfl rfl rfl rfl (by rw [HI.out.2.2.2]; omega) (by simp only [maxLen]; omega) (Nat.zero_le _) ?_; intro w3 own3 hgr3; have K3 := hidT (Tn.start own3 hgr3 (fun _ => (0, 0)) (fun c _ => rfl)); clear own3 hgr3))
  go_loopw [32] (fun u wr => ∃ i : Nat, i ≤ M ∧ u = .int .i64 i ∧ Hid (Tn w2 wr N (fun c => xs i fun j => sl (hs (wt p j) c) (wt q j)))) (fun u _ => M - (intOf u).toNat)
  case atStart => exact ⟨0, Nat.zero_le _, rfl, K3⟩
  case round =>
    obtain ⟨i, hi, rfl, K⟩ := hrel
    clear K3
    by_cases hlt : i < M
    · have i1 : (i : Int) < (M : Int) := by omega
      have i0' : (0 : Int) ≤ (i : Int) := by omega
      have c1' := row_cells K2.out.1.1 (i := i) (by rw [wts_len]; exact hlt)
      have c2' := row_cells K2.out.1.2 (i := i) (by rw [wts_len]; exact hlt)
      rw [wts_at _ _ hlt, Nat.zero_add] at c1' c2'
      have HE : Hid (xs (i + 1) = fun f => xa (xs i f) (f i)) := funext fun _ => rfl
      have LX := hidT (And.intro (lt_wt p i) (And.intro (OW.out i) (lt_wt q i)))
      have HW := hidT (fun (v : World) (h : Tn w2 v N (fun c => xa (xs i fun j => sl (hs (wt p j) c) (wt q j)) (sl (hs (wt p i) c) (wt q i)))) => show Tn w2 v N (fun c => xs (i + 1) fun j => sl (hs (wt p j) c) (wt q j)) from h)
      clear HE
      generalize wt p i = x at *
      generalize wt q i = y at *
      have CC := hidT (fun (w : World) (hw : Below w2.heap.size w2 w) => show (w.cell? ⟨g1, i * 2, none⟩ = some (.int .u64 (x.1 : Int)) ∧ w.cell? ⟨g1, i * 2 + 1, none⟩ = some (.int .u64 (x.2 : Int))) ∧ (w.cell? ⟨g2, i * 2, none⟩ = some (.int .u64 (y.1 : Int)) ∧ w.cell? ⟨g2, i * 2 + 1, none⟩ = some (.int .u64 (y.2 : Int))) from ⟨⟨keepc hw c1'.1, keepc hw c1'.2⟩, keepc hw c2'.1, keepc hw c2'.2⟩)
      clear c1' c2'
      go_upto_region 8 with fail
      refine wp_region_noPanic ?_
      refine wp_region_held_drew (S := fun w => (w.cell? ⟨g1, i * 2, none⟩ = some (.int .u64 (x.1 : Int)) ∧ w.cell? ⟨g1, i * 2 + 1, none⟩ = some (.int .u64 (x.2 : Int))) ∧ (w.cell? ⟨g2, i * 2, none⟩ = some (.int .u64 (y.1 : Int)) ∧ w.cell? ⟨g2, i * 2 + 1, none⟩ = some (.int .u64 (y.2 : Int)))) (by kernel_rfl) (by first | exact CC.out _ K.out.d | exact CC.out _ K.out.d.drew) (fun hHeld => ?_)
      refine wpAnyH_take (i := 0) (oi := _) (v := ?_) rfl (by kernel_rfl) (by kernel_rfl) (by kernel_rfl) (fun _ _ _ h => h) (Or.inl ⟨by rfl, ?_⟩) (by assumption) ?_
      rotate_left
      · ((intro w hSw; (try dsimp only at hSw); go_simp) <;> (try with_reducible rfl))
      show wpAnyH _ _ _ _ _ _ _ (Act.put _ (some 35) _) _
      simp only [Act.put, List.setIfInBounds_toArray, List.set_cons_succ, List.set_cons_zero]
      refine wpAnyH_take (i := 1) (oi := _) (v := ?_) rfl (by kernel_rfl) (by kernel_rfl) (by kernel_rfl) (fun _ _ _ h => h) (Or.inl ⟨by rfl, ?_⟩) (by assumption) ?_
      rotate_left
      · ((intro w hSw; (try dsimp only at hSw); go_simp) <;> (try with_reducible rfl))
      show wpAnyH _ _ _ _ _ _ _ (Act.put _ (some 36) _) _
      simp only [Act.put, List.setIfInBounds_toArray, List.set_cons_succ, List.set_cons_zero]
      refine wpAnyH_take (i := 2) (oi := _) (v := ?_) rfl (by kernel_rfl) (by kernel_rfl) (by kernel_rfl) (fun _ _ _ h => h) (Or.inl ⟨by rfl, ?_⟩) (by assumption) ?_
      rotate_left
      · ((intro w hSw; (try dsimp only at hSw); go_simp) <;> (try with_reducible rfl))
      show wpAnyH _ _ _ _ _ _ _ (Act.put _ (some 37) _) _
      simp only [Act.put, List.setIfInBounds_toArray, List.set_cons_succ, List.set_cons_zero]
      refine wpAnyH_take (i := 3) (oi := _) (v := ?_) rfl (by kernel_rfl) (by kernel_rfl) (by kernel_rfl) (fun _ _ _ h => h) (Or.inl ⟨by rfl, ?_⟩) (by assumption) ?_
      rotate_left
      · ((intro w hSw; (try dsimp only at hSw); go_simp) <;> (try with_reducible rfl))
      show wpAnyH _ _ _ _ _ _ _ (Act.put _ (some 38) _) _
      simp only [Act.put, List.setIfInBounds_toArray, List.set_cons_succ, List.set_cons_zero]
      refine wpAnyH_take (i := 4) (oi := _) (v := ?_) rfl (by kernel_rfl) (by kernel_rfl) (by kernel_rfl) (fun _ _ _ h => h) (Or.inl ⟨by rfl, ?_⟩) (by assumption) ?_
      rotate_left
      · ((intro w hSw; (try dsimp only at hSw); go_simp) <;> (try with_reducible rfl))
      show wpAnyH _ _ _ _ _ _ _ (Act.put _ (some 39) _) _
      simp only [Act.put, List.setIfInBounds_toArray, List.set_cons_succ, List.set_cons_zero]
      refine wpAnyH_take (i := 5) (oi := _) (v := ?_) rfl (by kernel_rfl) (by kernel_rfl) (by kernel_rfl) (fun _ _ _ h => h) (Or.inl ⟨by rfl, ?_⟩) (by assumption) ?_
      rotate_left
      · ((intro w hSw; (try dsimp only at hSw); go_simp) <;> (try with_reducible rfl))
      show wpAnyH _ _ _ _ _ _ _ (Act.put _ (some 40) _) _
      simp only [Act.put, List.setIfInBounds_toArray, List.set_cons_succ, List.set_cons_zero]
      refine wpAnyH_take (i := 6) (oi := _) (v := ?_) rfl (by kernel_rfl) (by kernel_rfl) (by kernel_rfl) (fun _ _ _ h => h) (Or.inl ⟨by rfl, ?_⟩) (by assumption) ?_
      rotate_left
      · ((intro w hSw; (try dsimp only at hSw); go_simp) <;> (try with_reducible rfl))
      show wpAnyH _ _ _ _ _ _ _ (Act.put _ (some 41) _) _
      simp only [Act.put, List.setIfInBounds_toArray, List.set_cons_succ, List.set_cons_zero]
      refine wpAnyH_take (i := 7) (oi := _) (v := ?_) rfl (by kernel_rfl) (by kernel_rfl) (by kernel_rfl) (fun _ _ _ h => h) (Or.inl ⟨by rfl, ?_⟩) (by assumption) ?_
      rotate_left
      · ((intro w hSw; (try dsimp only at hSw); go_simp) <;> (try with_reducible rfl))
      show wpAnyH _ _ _ _ _ _ _ (Act.put _ (some 42) _) _
      simp only [Act.put, List.setIfInBounds_toArray, List.set_cons_succ, List.set_cons_zero]
      refine wpAnyH_take (i := 8) (oi := _) (v := ?_) rfl (by kernel_rfl) (by kernel_rfl) (by kernel_rfl) (fun _ _ _ h => h) (Or.inl ⟨by rfl, ?_⟩) (by assumption) ?_
      rotate_left
      · ((intro w hSw; (try dsimp only at hSw); go_simp) <;> (try with_reducible rfl))
      show wpAnyH _ _ _ _ _ _ _ (Act.put _ (some 43) _) _
      simp only [Act.put, List.setIfInBounds_toArray, List.set_cons_succ, List.set_cons_zero]
      refine wpAnyH_take (i := 9) (oi := _) (v := ?_) rfl (by kernel_rfl) (by kernel_rfl) (by kernel_rfl) (fun _ _ _ h => h) (Or.inl ⟨by rfl, ?_⟩) (by assumption) ?_
      rotate_left
      · ((intro w hSw; (try dsimp only at hSw); go_simp) <;> (try with_reducible rfl))
      show wpAnyH _ _ _ _ _ _ _ (Act.put _ (some 44) _) _
      simp only [Act.put, List.setIfInBounds_toArray, List.set_cons_succ, List.set_cons_zero]
      refine wpAnyH_ready (rs := [10]) (by kernel_rfl) (by simp) ?_
      refine AllReadyH.cons (o := _) rfl (fun KK hKK => ?_) AllReadyH.nil
      go_simp
      (go_at_call 34; refine (AP.out x y LX.out.1 LX.out.2.1 LX.out.2.2 _ i _ (by first | exact K.out | exact K.out.drew)).mono ?_; rintro e w9 ⟨rfl, hT9⟩)
      have K9 := hidT hT9
      clear hT9
      refine hKK.out _ _ ?_ (fun hHeld => ?_)
      · exact CC.out _ K9.out.d
      clear hKK KK
      try simp only [Act.put]
      refine wpAnyH_done (by kernel_rfl) ?_ _
      refine NoPanic.normal ?_
      go_wp2
      exact ⟨⟨i + 1, hlt, by simp, hidT (HW.out _ K9.out)⟩, by simp [intOf]; omega⟩
    · obtain rfl : i = M := by omega
      go_wp2
      go_ret
      exact ⟨_, rfl, K.out.erow (al_len N i (wt p) (wt q)) (fun c hc => al_el i (wt p) (wt q) hc), K2.out.2.trans (K.out.d.mono K2.out.2.size)⟩
set_option linter.unusedSimpArgs false in
set_option linter.unusedVariables false in
set_option maxHeartbeats 8000000 in
set_option maxRecDepth 100000 in
theorem alike_ok (k : Nat) (hk : k < 8) (N : Nat) (hN : N = 2 ^ k) (n : Nat) (hn : n ≤ 16) (a1 a2 : Option Addr) (c1 c2 : Nat) (p q : List (Nat × Nat)) (hp : p.length = n) (hq : q.length = n) (lp : ltE p) (lq : ltE q) (op : ofT k p) (oq : ofT k q) (W : World) (rp : ERow W a1 p) (rq : ERow W a2 q) :
    Calls Try.prog 29 #[.int .i64 (k : Int), .slice a1 n c1, .slice a2 n c2] W fun e w' => ∃ g, e = .returned (.tuple #[.slice (some ⟨g, 0, none⟩) N N, .int .i64 0]) ∧ ERow w' (some ⟨g, 0, none⟩) (alk N p q n) ∧ Below W.heap.size W w' := by
  have n1 : N ≤ 128 := by rw [hN]; exact pow128 hk
  have n0 : 0 < N := by rw [hN]; exact Nat.two_pow_pos k
  have HL := hidT (plev_yes (k : Int) (by omega))
  have AL1 := hidT (fun w (hw : Below W.heap.size W w) => pall_any (k : Int) a1 c1 p lp w (rp.below hw) (by omega))
  have AL2 := hidT (fun w (hw : Below W.heap.size W w) => pall_any (k : Int) a2 c2 q lq w (rq.below hw) (by omega))
  rw [List.all_eq_true.2 (fun e he => op e he), hp] at AL1
  rw [List.all_eq_true.2 (fun e he => oq e he), hq] at AL2
  have HO := hidT (fun w => one_ok k hk N hN w)
  have HZ := hidT (alk_zero N p q)
  have HX := hidT (fun i (h : i < n) => show addv 3 N [alk N p q i, trns N (rgt (trns N (alk N p q i)) (el p i)), rgt (alk N p q i) (el q i)] = alk N p q (i + 1) from by rw [hN]; exact alk_succ hk lp lq op oq (by omega) (by omega))
  have HB := hidT (fun i (h : i < n) => And.intro (And.intro (ltE_el lp i) (op.el hk i)) (And.intro (ltE_el lq i) (oq.el hk i)))
  have BL0 := hidT (fun (i : Nat) (a : Nat × Nat) (la : lt2 a) (oa : ofE k a) (w : World) (g : Nat) (h : ERow w (some ⟨g, 0, none⟩) (alk N p q i)) => byleft_any k hk N hN g 0 N (alk N p q i) (alk_len _ _ _ _) (lt_alk _ _ _ _) (of_alk hk _ _ oq _) a la oa w h)
  have BR0 := hidT (fun (i : Nat) (a : Nat × Nat) (la : lt2 a) (oa : ofE k a) (w : World) (g : Nat) (h : ERow w (some ⟨g, 0, none⟩) (alk N p q i)) => (byright_any k hk N n1 g 0 N (alk N p q i) (alk_len _ _ _ _) (lt_alk _ _ _ _) (of_alk hk _ _ oq _) a la oa w h).mono fun e w' ⟨g, h1, h2, h3⟩ => (⟨g, h1, h2.1, h3⟩ : ∃ g : Nat, e = Ending.returned (.slice (some ⟨g, 0, none⟩) N N) ∧ ERow w' (some ⟨g, 0, none⟩) (rgt (alk N p q i) a) ∧ Below w.heap.size w w'))
  have HP := hidT (And.intro rp (And.intro rq (And.intro hp hq)))
  have LK := hidT (fun i => And.intro (alk_len N p q i) (lt_alk N p q i))
  have q1 : ¬ (16 : Int) < (n : Int) := by omega
  clear hN hp hq lp lq op oq rp rq
  go_enter Try.func29, Try.ntmps29
  go_wp2_with (first
      | (have _g := K3; clear _g; go_at_call 11; refine (HO.out _).mono ?_; rintro e w4 ⟨g0, rfl, ⟨hr, _⟩, _, hb⟩; have K4 := hidT (show ERow w4 (some ⟨g0, 0, none⟩) (alk N p q 0) ∧ Below W.heap.size W w4 from ⟨HZ.out ▸ hr, K3.out.trans (hb.mono K3.out.size)⟩); clear hr hb)
      | (have _g := K2; clear _g; go_at_call 50; refine (AL2.out _ K2.out).mono ?_; rintro e w3 ⟨rfl, hb⟩; have K3 := hidT (K2.out.trans (hb.mono K2.out.size)); clear hb)
      | (have _g := K1; clear _g; go_at_call 50; refine (AL1.out _ K1.out).mono ?_; rintro e w2 ⟨rfl, hb⟩; have K2 := hidT (K1.out.trans (hb.mono K1.out.size)); clear hb)
      | (go_at_call 49; refine (HL.out.go _).mono ?_; rintro e w1 ⟨rfl, hb⟩; have K1 := hidT hb; clear hb))
  go_loopw [8, 40] (fun v u wr => ∃ i g : Nat, i ≤ n ∧ u = .int .i64 i ∧ v = .slice (some ⟨g, 0, none⟩) N N ∧ Hid (ERow wr (some ⟨g, 0, none⟩) (alk N p q i) ∧ Below W.heap.size W wr)) (fun _ u _ => n - (intOf u).toNat)
  case atStart => exact ⟨0, g0, Nat.zero_le _, rfl, rfl, K4⟩
  case round =>
    obtain ⟨i, g, hi, rfl, rfl, O⟩ := hrel
    clear K4
    by_cases hlt : i < n
    · have i1 : (i : Int) < (n : Int) := by omega
      have i0' : (0 : Int) ≤ (i : Int) := by omega
      obtain ⟨b1, o1, rfl, _⟩ := HP.out.1.cells i (by rw [HP.out.2.2.1]; exact hlt)
      obtain ⟨b2, o2, rfl, _⟩ := HP.out.2.1.cells i (by rw [HP.out.2.2.2]; exact hlt)
      have c1' := row_cells HP.out.1 (i := i) (by rw [HP.out.2.2.1]; exact hlt)
      have c2' := row_cells HP.out.2.1 (i := i) (by rw [HP.out.2.2.2]; exact hlt)
      obtain ⟨⟨lx, ox⟩, ly, oy⟩ := HB.out i hlt
      have HT := hidT (HX.out i hlt)
      have BL := hidT (BL0.out i (el p i) lx ox)
      have BR := hidT (BR0.out i (el q i) ly oy)
      obtain ⟨TA, hTA⟩ : ∃ x, x = trns N (rgt (trns N (alk N p q i)) (el p i)) := ⟨_, rfl⟩
      obtain ⟨TB, hTB⟩ : ∃ x, x = rgt (alk N p q i) (el q i) := ⟨_, rfl⟩
      obtain ⟨T0, hT0⟩ : ∃ x, x = alk N p q i := ⟨_, rfl⟩
      have LT := hidT (show (T0.length = N ∧ ltE T0) ∧ (TA.length = N ∧ ltE TA) ∧ TB.length = N ∧ ltE TB from ⟨hT0 ▸ LK.out i, ⟨hTA ▸ trns_len _ _, hTA ▸ lt_trns _ _⟩, hTB ▸ (rgt_len _ _).trans (LK.out i).1, hTB ▸ lt_rgt _ _⟩)
      rw [← hTA, ← hTB, ← hT0] at HT
      rw [← hTA, ← hT0] at BL
      rw [← hTB, ← hT0] at BR
      rw [← hT0] at O
      clear hTA hTB hT0 lx ox ly oy
      obtain ⟨TN, hTN⟩ : ∃ x, x = addv 3 N [T0, TA, TB] := ⟨_, rfl⟩
      rw [← hTN] at HT
      have HW := hidT (fun (v : World) (gn : Nat) (h : ERow v (some ⟨gn, 0, none⟩) TN) => show ERow v (some ⟨gn, 0, none⟩) (alk N p q (i + 1)) from HT.out ▸ h)
      clear HT
      have AD : Hid (∀ (w : World) (g ga gb : Nat), ERow w (some ⟨g, 0, none⟩) T0 → ERow w (some ⟨ga, 0, none⟩) TA → ERow w (some ⟨gb, 0, none⟩) TB → Calls Try.prog 40 #[.slice (some ⟨w.heap.size, 0, none⟩) 3 3] (w.alloc (Obj.cells #[.slice (some ⟨g, 0, none⟩) N N, .slice (some ⟨ga, 0, none⟩) N N, .slice (some ⟨gb, 0, none⟩) N N] 26)) fun e w' => ∃ gn, e = .returned (.slice (some ⟨gn, 0, none⟩) N N) ∧ ERow w' (some ⟨gn, 0, none⟩) TN ∧ Below w.heap.size w w') := fun w g ga gb r0 ra rb => by
        have DB : Below w.heap.size w (w.alloc (Obj.cells #[.slice (some ⟨g, 0, none⟩) N N, .slice (some ⟨ga, 0, none⟩) N N, .slice (some ⟨gb, 0, none⟩) N N] 26)) := (Below.refl _ _).alloc (Nat.le_refl _) _
        have := added_row (some ⟨w.heap.size, 0, none⟩) 3 3 N [(some ⟨g, 0, none⟩, N, N), (some ⟨ga, 0, none⟩, N, N), (some ⟨gb, 0, none⟩, N, N)] [T0, TA, TB] rfl (by decide) (by decide) rfl (by omega) (fun i hi => by
          match i, hi with
          | 0, _ => exact Nat.le_of_eq LT.out.1.1.symm
          | 1, _ => exact Nat.le_of_eq LT.out.2.1.1.symm
          | 2, _ => exact Nat.le_of_eq LT.out.2.2.1.symm) _ (grid_new w 26 [(some ⟨g, 0, none⟩, N, N), (some ⟨ga, 0, none⟩, N, N), (some ⟨gb, 0, none⟩, N, N)] _ rfl) (fun i hi => by
          match i, hi with
          | 0, _ => exact ⟨LT.out.1.1.symm, LT.out.1.2, r0.below DB⟩
          | 1, _ => exact ⟨LT.out.2.1.1.symm, LT.out.2.1.2, ra.below DB⟩
          | 2, _ => exact ⟨LT.out.2.2.1.symm, LT.out.2.2.2, rb.below DB⟩)
        rw [← hTN] at this
        exact this.mono fun e w' ⟨gn, h1, h2, _, h4⟩ => ⟨gn, h1, h2.1, DB.trans (h4.mono DB.size)⟩
      clear hTN LT HX BL0 BR0 LK HB
      generalize el p i = x at *
      generalize el q i = y at *
      have CC := hidT (fun (w : World) (hw : Below W.heap.size W w) => show (w.cell? ⟨b1, o1 + i * 2, none⟩ = some (.int .u64 (x.1 : Int)) ∧ w.cell? ⟨b1, o1 + i * 2 + 1, none⟩ = some (.int .u64 (x.2 : Int))) ∧ (w.cell? ⟨b2, o2 + i * 2, none⟩ = some (.int .u64 (y.1 : Int)) ∧ w.cell? ⟨b2, o2 + i * 2 + 1, none⟩ = some (.int .u64 (y.2 : Int))) from ⟨⟨keepc hw c1'.1, keepc hw c1'.2⟩, keepc hw c2'.1, keepc hw c2'.2⟩)
      clear c1' c2'
      go_upto_region 11 with fail
      refine wp_region_noPanic ?_
      refine wp_region_held_drew (S := fun w => (w.cell? ⟨b1, o1 + i * 2, none⟩ = some (.int .u64 (x.1 : Int)) ∧ w.cell? ⟨b1, o1 + i * 2 + 1, none⟩ = some (.int .u64 (x.2 : Int))) ∧ (w.cell? ⟨b2, o2 + i * 2, none⟩ = some (.int .u64 (y.1 : Int)) ∧ w.cell? ⟨b2, o2 + i * 2 + 1, none⟩ = some (.int .u64 (y.2 : Int)))) (by kernel_rfl) (by first | exact CC.out _ O.out.2 | exact CC.out _ O.out.2.drew) (fun hHeld => ?_)
      refine wpAnyH_take (i := 0) (oi := _) (v := ?_) rfl (by kernel_rfl) (by kernel_rfl) (by kernel_rfl) (fun _ _ _ h => h) (Or.inl ⟨by rfl, ?_⟩) (by assumption) ?_
      rotate_left
      · ((intro w hSw; (try dsimp only at hSw); go_simp) <;> (try with_reducible rfl))
      show wpAnyH _ _ _ _ _ _ _ (Act.put _ (some 43) _) _
      simp only [Act.put, List.setIfInBounds_toArray, List.set_cons_succ, List.set_cons_zero]
      refine wpAnyH_take (i := 1) (oi := _) (v := ?_) rfl (by kernel_rfl) (by kernel_rfl) (by kernel_rfl) (fun _ _ _ h => h) (Or.inl ⟨by rfl, ?_⟩) (by assumption) ?_
      rotate_left
      · ((intro w hSw; (try dsimp only at hSw); go_simp) <;> (try with_reducible rfl))
      show wpAnyH _ _ _ _ _ _ _ (Act.put _ (some 44) _) _
      simp only [Act.put, List.setIfInBounds_toArray, List.set_cons_succ, List.set_cons_zero]
      refine wpAnyH_take (i := 2) (oi := _) (v := ?_) rfl (by kernel_rfl) (by kernel_rfl) (by kernel_rfl) (fun _ _ _ h => h) (Or.inl ⟨by rfl, ?_⟩) (by assumption) ?_
      rotate_left
      · ((intro w hSw; (try dsimp only at hSw); go_simp) <;> (try with_reducible rfl))
      show wpAnyH _ _ _ _ _ _ _ (Act.put _ (some 45) _) _
      simp only [Act.put, List.setIfInBounds_toArray, List.set_cons_succ, List.set_cons_zero]
      refine wpAnyH_take (i := 3) (oi := _) (v := ?_) rfl (by kernel_rfl) (by kernel_rfl) (by kernel_rfl) (fun _ _ _ h => h) (Or.inl ⟨by rfl, ?_⟩) (by assumption) ?_
      rotate_left
      · ((intro w hSw; (try dsimp only at hSw); go_simp) <;> (try with_reducible rfl))
      show wpAnyH _ _ _ _ _ _ _ (Act.put _ (some 46) _) _
      simp only [Act.put, List.setIfInBounds_toArray, List.set_cons_succ, List.set_cons_zero]
      refine wpAnyH_take (i := 4) (oi := _) (v := ?_) rfl (by kernel_rfl) (by kernel_rfl) (by kernel_rfl) (fun _ _ _ h => h) (Or.inl ⟨by rfl, ?_⟩) (by assumption) ?_
      rotate_left
      · ((intro w hSw; (try dsimp only at hSw); go_simp) <;> (try with_reducible rfl))
      show wpAnyH _ _ _ _ _ _ _ (Act.put _ (some 47) _) _
      simp only [Act.put, List.setIfInBounds_toArray, List.set_cons_succ, List.set_cons_zero]
      refine wpAnyH_take (i := 5) (oi := _) (v := ?_) rfl (by kernel_rfl) (by kernel_rfl) (by kernel_rfl) (fun _ _ _ h => h) (Or.inl ⟨by rfl, ?_⟩) (by assumption) ?_
      rotate_left
      · ((intro w hSw; (try dsimp only at hSw); go_simp) <;> (try with_reducible rfl))
      show wpAnyH _ _ _ _ _ _ _ (Act.put _ (some 48) _) _
      simp only [Act.put, List.setIfInBounds_toArray, List.set_cons_succ, List.set_cons_zero]
      refine wpAnyH_take (i := 6) (oi := _) (v := ?_) rfl (by kernel_rfl) (by kernel_rfl) (by kernel_rfl) (fun _ _ _ h => h) (Or.inl ⟨by rfl, ?_⟩) (by assumption) ?_
      rotate_left
      · ((intro w hSw; (try dsimp only at hSw); go_simp) <;> (try with_reducible rfl))
      show wpAnyH _ _ _ _ _ _ _ (Act.put _ (some 49) _) _
      simp only [Act.put, List.setIfInBounds_toArray, List.set_cons_succ, List.set_cons_zero]
      refine wpAnyH_take (i := 8) (oi := _) (v := ?_) rfl (by kernel_rfl) (by kernel_rfl) (by kernel_rfl) (fun _ _ _ h => h) (Or.inl ⟨by rfl, ?_⟩) (by assumption) ?_
      rotate_left
      · ((intro w hSw; (try dsimp only at hSw); go_simp) <;> (try with_reducible rfl))
      show wpAnyH _ _ _ _ _ _ _ (Act.put _ (some 51) _) _
      simp only [Act.put, List.setIfInBounds_toArray, List.set_cons_succ, List.set_cons_zero]
      refine wpAnyH_take (i := 9) (oi := _) (v := ?_) rfl (by kernel_rfl) (by kernel_rfl) (by kernel_rfl) (fun _ _ _ h => h) (Or.inl ⟨by rfl, ?_⟩) (by assumption) ?_
      rotate_left
      · ((intro w hSw; (try dsimp only at hSw); go_simp) <;> (try with_reducible rfl))
      show wpAnyH _ _ _ _ _ _ _ (Act.put _ (some 52) _) _
      simp only [Act.put, List.setIfInBounds_toArray, List.set_cons_succ, List.set_cons_zero]
      refine wpAnyH_take (i := 10) (oi := _) (v := ?_) rfl (by kernel_rfl) (by kernel_rfl) (by kernel_rfl) (fun _ _ _ h => h) (Or.inl ⟨by rfl, ?_⟩) (by assumption) ?_
      rotate_left
      · ((intro w hSw; (try dsimp only at hSw); go_simp) <;> (try with_reducible rfl))
      show wpAnyH _ _ _ _ _ _ _ (Act.put _ (some 53) _) _
      simp only [Act.put, List.setIfInBounds_toArray, List.set_cons_succ, List.set_cons_zero]
      refine wpAnyH_take (i := 11) (oi := _) (v := ?_) rfl (by kernel_rfl) (by kernel_rfl) (by kernel_rfl) (fun _ _ _ h => h) (Or.inl ⟨by rfl, ?_⟩) (by assumption) ?_
      rotate_left
      · ((intro w hSw; (try dsimp only at hSw); go_simp) <;> (try with_reducible rfl))
      show wpAnyH _ _ _ _ _ _ _ (Act.put _ (some 54) _) _
      simp only [Act.put, List.setIfInBounds_toArray, List.set_cons_succ, List.set_cons_zero]
      refine wpAnyH_take (i := 12) (oi := _) (v := ?_) rfl (by kernel_rfl) (by kernel_rfl) (by kernel_rfl) (fun _ _ _ h => h) (Or.inl ⟨by rfl, ?_⟩) (by assumption) ?_
      rotate_left
      · ((intro w hSw; (try dsimp only at hSw); go_simp) <;> (try with_reducible rfl))
      show wpAnyH _ _ _ _ _ _ _ (Act.put _ (some 55) _) _
      simp only [Act.put, List.setIfInBounds_toArray, List.set_cons_succ, List.set_cons_zero]
      refine wpAnyH_take (i := 13) (oi := _) (v := ?_) rfl (by kernel_rfl) (by kernel_rfl) (by kernel_rfl) (fun _ _ _ h => h) (Or.inl ⟨by rfl, ?_⟩) (by assumption) ?_
      rotate_left
      · ((intro w hSw; (try dsimp only at hSw); go_simp) <;> (try with_reducible rfl))
      show wpAnyH _ _ _ _ _ _ _ (Act.put _ (some 56) _) _
      simp only [Act.put, List.setIfInBounds_toArray, List.set_cons_succ, List.set_cons_zero]
      refine wpAnyH_ready (rs := [7]) (by kernel_rfl) (by simp) ?_
      refine AllReadyH.cons (o := _) rfl (fun KK hKK => ?_) AllReadyH.nil
      go_simp
      (go_at_call 46; refine (BL.out _ g (by first | exact O.out.1 | exact O.out.1.drew)).mono ?_; rintro e w7 ⟨ga, rfl, hr, hb⟩)
      have O7 := hidT (show (ERow w7 (some ⟨g, 0, none⟩) T0 ∧ ERow w7 (some ⟨ga, 0, none⟩) TA) ∧ Below W.heap.size W w7 from (by first | exact ⟨⟨O.out.1.below hb, hr⟩, O.out.2.trans (hb.mono O.out.2.size)⟩ | exact ⟨⟨O.out.1.drew.below hb, hr⟩, O.out.2.drew.trans (hb.mono O.out.2.drew.size)⟩))
      clear O hb hr
      refine hKK.out _ _ ?_ (fun hHeld => ?_)
      · exact CC.out _ O7.out.2
      clear hKK KK
      try simp only [Act.put]
      refine wpAnyH_ready (rs := [14]) (by kernel_rfl) (by simp) ?_
      refine AllReadyH.cons (o := _) rfl (fun KK hKK => ?_) AllReadyH.nil
      go_simp
      (go_at_call 47; refine (BR.out _ g O7.out.1.1).mono ?_; rintro e w8 ⟨gb, rfl, hr, hb⟩)
      have O8 := hidT (show (ERow w8 (some ⟨g, 0, none⟩) T0 ∧ ERow w8 (some ⟨ga, 0, none⟩) TA ∧ ERow w8 (some ⟨gb, 0, none⟩) TB) ∧ Below W.heap.size W w8 from ⟨⟨O7.out.1.1.below hb, O7.out.1.2.below hb, hr⟩, O7.out.2.trans (hb.mono O7.out.2.size)⟩)
      clear O7 hb hr
      refine hKK.out _ _ ?_ (fun hHeld => ?_)
      · exact CC.out _ O8.out.2
      clear hKK KK
      try simp only [Act.put]
      refine wpAnyH_ready (rs := [15]) (by kernel_rfl) (by simp) ?_
      refine AllReadyH.cons (o := _) rfl (fun KK hKK => ?_) AllReadyH.nil
      go_simp
      (skip)
      skip
      refine hKK.out _ _ ?_ (fun hHeld => ?_)
      · exact CC.out _ (O8.out.2.alloc O8.out.2.size _)
      clear hKK KK
      try simp only [Act.put]
      refine wpAnyH_ready (rs := [16]) (by kernel_rfl) (by simp) ?_
      refine AllReadyH.cons (o := _) rfl (fun KK hKK => ?_) AllReadyH.nil
      go_simp
      (go_at_call 40; refine (AD.out w8 g ga gb O8.out.1.1 O8.out.1.2.1 O8.out.1.2.2).mono ?_; rintro e w9 ⟨gn, rfl, hr, hb⟩)
      have O9 := hidT (show ERow w9 (some ⟨gn, 0, none⟩) TN ∧ Below W.heap.size W w9 from ⟨hr, O8.out.2.trans (hb.mono O8.out.2.size)⟩)
      clear O8 hb hr
      refine hKK.out _ _ ?_ (fun hHeld => ?_)
      · exact CC.out _ O9.out.2
      clear hKK KK
      try simp only [Act.put]
      refine wpAnyH_take (i := 17) (oi := _) (v := ?_) rfl (by kernel_rfl) (by kernel_rfl) (by kernel_rfl) (fun _ _ _ h => h) (Or.inl ⟨by rfl, ?_⟩) (by assumption) ?_
      rotate_left
      · ((intro w hSw; (try dsimp only at hSw); go_simp) <;> (try with_reducible rfl))
      show wpAnyH _ _ _ _ _ _ _ (Act.put _ (some 8) _) _
      simp only [Act.put, List.setIfInBounds_toArray, List.set_cons_succ, List.set_cons_zero]
      refine wpAnyH_done (by kernel_rfl) ?_ _
      refine NoPanic.normal ?_
      go_wp2
      exact ⟨⟨i + 1, gn, hlt, by simp, rfl, ⟨HW.out _ _ O9.out.1, O9.out.2⟩⟩, by simp [intOf]; omega⟩
    · obtain rfl : i = n := by omega
      go_wp2
      refine bodyPost_ret (v := .tuple #[.slice (some ⟨g, 0, none⟩) N N, .int .i64 0]) (by simp [results, Try.results29, go_sem]) rfl ⟨g, rfl, O.out.1, O.out.2⟩
end Pv
end Go.Proofs.Ytcejppibcemdeaa

/- The contract of the document's Alike over the seat's translation. -/
namespace Go.Proofs.Ytcejppibcemdeaa
open Go.RowKit
open Cb Rg
open Tw (pm)
namespace Pv

set_option linter.unusedSimpArgs false in
set_option linter.unusedVariables false in
set_option maxHeartbeats 8000000 in
set_option maxRecDepth 100000 in
theorem ralike (k : Nat) (hk : k < 8) (N : Nat) (hN : N = 2 ^ k) (n M : Nat) (hM : 2 ^ n = M) (hn : n ≤ 8) (a1 a2 : Option Addr) (c1 c2 : Nat) (p q : List (Nat × Nat)) (hp : p.length = n) (hq : q.length = n) (lp : ltE p) (lq : ltE q) (W : World) (rp : ERow W a1 p) (rq : ERow W a2 q) :
    Calls Try.prog 31 #[.int .i64 (k : Int), .slice a1 n c1, .slice a2 n c2] W fun e w' => ∃ g c : Nat, e = .returned (.slice (some ⟨g, 0, none⟩) N c) ∧ ERow w' (some ⟨g, 0, none⟩) (al N M (wt p) (wt q)) ∧ Below W.heap.size W w' := by
  have n1 : N ≤ 128 := by rw [hN]; exact pow128 hk
  have n0 : 0 < N := by rw [hN]; exact Nat.two_pow_pos k
  have Mb : M ≤ 256 := by rw [← hM]; exact Nat.le_trans (Nat.pow_le_pow_right (by decide) hn) (by decide)
  have HZ := hidT (fun w => rpair k hk N hN (0, 0) (0, 0) lt_zero lt_zero w)
  have HP := hidT (fun (i : Nat) w => rpair k hk N hN (wt p i) (wt q i) (lt_wt _ _) (lt_wt _ _) w)
  have HT := hidT (rtwo15 n (by omega))
  rw [hM] at HT
  have W1 := hidT (fun (i : Nat) (hi : i < M) w (hw : Below W.heap.size W w) => rweight_any a1 c1 i p lp (by omega) (by omega) w (rp.below hw))
  have W2 := hidT (fun (i : Nat) (hi : i < M) w (hw : Below W.heap.size W w) => rweight_any a2 c2 i q lq (by omega) (by omega) w (rq.below hw))
  rw [hp] at W1
  rw [hq] at W2
  have A0 := hidT (al_zero N (wt p) (wt q))
  have AS := hidT (fun i => al_snoc N i (wt p) (wt q))
  have HAd := hidT (fun (i g cg gp cp : Nat) (w : World) (h1 : ERow w (some ⟨g, 0, none⟩) (al N i (wt p) (wt q))) (h2 : ERow w (some ⟨gp, 0, none⟩) (pairv N (wt p i) (wt q i))) => rAdd_any N g 0 cg gp 0 cp _ _ n0 (by omega) (al_len _ _ _ _) (pairv_len _ _ _) (lt_al _ _ _ fun i => lt_wt _ i) (lt_pairv _ _ (lt_wt _ _)) w h1 h2)
  clear hN hM hp hq lp lq rp rq hn
  go_enter Try.func31, Try.ntmps31
  go_wp2_with (go_at_call 13; refine (HZ.out _).mono ?_; rintro e w1 ⟨g, c, rfl, _, hr, _, hb⟩; have K1 := hidT (show ERow w1 (some ⟨g, 0, none⟩) (al N 0 (wt p) (wt q)) ∧ Below W.heap.size W w1 from ⟨A0.out ▸ hr, ((Below.refl _ _).alloc (Nat.le_refl _) _).trans (hb.mono (by simp))⟩); clear hr hb)
  go_loopw [8, 9] (fun v u wr => ∃ (i g c : Nat), i ≤ M ∧ u = .int .i64 i ∧ v = .slice (some ⟨g, 0, none⟩) N c ∧ Hid (ERow wr (some ⟨g, 0, none⟩) (al N i (wt p) (wt q)) ∧ Below W.heap.size W wr)) (fun _ u _ => M - (intOf u).toNat)
  case atStart => exact ⟨0, g, c, Nat.zero_le _, rfl, rfl, K1⟩
  case round =>
    obtain ⟨i, g, cg, hi, rfl, rfl, O⟩ := hrel
    clear K1
    by_cases hlt : i < M
    · have i1 : (i : Int) < (M : Int) := by omega
      have i0' : (0 : Int) ≤ (i : Int) := by omega
      have V1 := hidT (W1.out i hlt)
      have V2 := hidT (W2.out i hlt)
      have PP := hidT (HP.out i)
      have AD := hidT (HAd.out i)
      have HS := hidT (AS.out i)
      clear W1 W2 HP HAd AS A0 HZ
      have HW := hidT (fun (v : World) (gn : Nat) (h : ERow v (some ⟨gn, 0, none⟩) (ad2 (al N i (wt p) (wt q)) (pairv N (wt p i) (wt q i)))) => show ERow v (some ⟨gn, 0, none⟩) (al N (i + 1) (wt p) (wt q)) from HS.out ▸ h)
      clear HS
      generalize al N i (wt p) (wt q) = T0 at *
      generalize wt p i = x at *
      generalize wt q i = y at *
      go_wp2_with (first
        | (have _g := O5; clear _g; go_at_call 22; refine (AD.out g cg gp cp _ O5.out.1.1 O5.out.1.2).mono ?_; rintro e w6 ⟨gn, cn, rfl, hr, hb⟩; have O6 := hidT (And.intro (HW.out _ _ hr) (O5.out.2.trans (hb.mono O5.out.2.size))); clear hr hb)
        | (have _g := O4; clear _g; go_at_call 13; refine (PP.out _).mono ?_; rintro e w5 ⟨gp, cp, rfl, _, hr, _, hb⟩; have O5 := hidT (show (ERow w5 (some ⟨g, 0, none⟩) T0 ∧ ERow w5 (some ⟨gp, 0, none⟩) (pairv N x y)) ∧ Below W.heap.size W w5 from ⟨⟨O4.out.1.below hb, hr⟩, O4.out.2.trans (hb.mono O4.out.2.size)⟩); clear hr hb)
        | (have _g := O3; clear _g; go_at_call 52; refine (V2.out _ O3.out.2).mono ?_; rintro e w4 ⟨rfl, hb⟩; have O4 := hidT (And.intro (O3.out.1.below hb) (O3.out.2.trans (hb.mono O3.out.2.size))); clear hb)
        | (have _g := O2; clear _g; go_at_call 52; refine (V1.out _ O2.out.2).mono ?_; rintro e w3 ⟨rfl, hb⟩; have O3 := hidT (And.intro (O2.out.1.below hb) (O2.out.2.trans (hb.mono O2.out.2.size))); clear hb)
        | (go_at_call 51; refine (HT.out.go _).mono ?_; rintro e w2 ⟨rfl, hb⟩; have O2 := hidT (And.intro (O.out.1.below hb) (O.out.2.trans (hb.mono O.out.2.size))); clear hb))
      exact ⟨⟨i + 1, gn, cn, hlt, by simp, rfl, O6⟩, by simp [intOf]; omega⟩
    · obtain rfl : i = M := by omega
      go_wp2_with (go_at_call 51; refine (HT.out.go _).mono ?_; rintro e w2 ⟨rfl, hb⟩; have O2 := hidT (And.intro (O.out.1.below hb) (O.out.2.trans (hb.mono O.out.2.size))); clear hb)
      go_ret
      exact ⟨g, cg, rfl, O2.out.1, O2.out.2⟩
end Pv
end Go.Proofs.Ytcejppibcemdeaa
