/- PackvRing over the seat's translation: all cases. -/
import Derived.Test.YtcejppibcemdeaaPvW
import Derived.Test.YtcejppibcemdeaaPvU
namespace Go.Proofs.Ytcejppibcemdeaa
open Go.RowKit
open Cb Rg
open Tw (pm)
namespace Pv

/-- What Times answers for any two lists. -/
theorem times_gen (k : Nat) (hk : k < 8) (N : Nat) (hN : N = 2 ^ k) (a1 a2 : Option Addr) (c1 c2 : Nat) (s t : List (Nat × Nat)) (ls : ltE s) (lt : ltE t) (h1 : s.length ≤ 100000) (h2 : t.length ≤ 100000) (k1 : s.length ≤ c1) (k2 : t.length ≤ c2) (W : World) (rs : ERow W a1 s) (rt : ERow W a2 t) :
    Calls Try.prog 17 #[.int .i64 (k : Int), .slice a1 s.length c1, .slice a2 t.length c2] W fun e w' => ∃ v, e = .returned (.tuple #[v, .int .i64 (hdv k N [s, t] [])]) ∧ Below W.heap.size W w' := by
  by_cases hE : hdv k N [s, t] [] = 0
  · obtain ⟨z1, z2, z3, z4⟩ := hdv_zero hE
    have n0 : 0 < N := by rw [hN]; exact Nat.two_pow_pos k
    obtain ⟨b1, o1, e1, _⟩ := rs.cells 0 (by omega)
    obtain ⟨b2, o2, e2, _⟩ := rt.cells 0 (by omega)
    subst e1
    subst e2
    have := times_ok k hk N hN b1 o1 c1 b2 o2 c2 s t z1 z2 ls lt z3 z4 (by omega) (by omega) W rs rt
    rw [hE, z1, z2]
    exact this.mono fun e w' ⟨b, f, c, h, _, _, hb⟩ => ⟨_, h, hb⟩
  · exact (times_no (k : Int) _ a1 a2 s.length c1 t.length c2 hE W (hind_two k hk N hN a1 a2 c1 c2 s t ls lt h1 h2 W rs rt)).mono fun e w' h => ⟨_, h.1, h.2⟩
theorem pg_any (l : Int) (a1 a2 a3 : Option Addr) (c1 c2 c3 : Nat) (A B C : List (Nat × Nat)) (la : ltE A) (lb : ltE B) (lc : ltE C) (k1 : A.length ≤ c1) (k2 : B.length ≤ c2) (k3 : C.length ≤ c3) (W : World) (ra : ERow W a1 A) (rb : ERow W a2 B) (rc : ERow W a3 C) :
    Calls Try.prog 6 #[.int .i64 l, .agg #[.slice a1 A.length c1, .slice a2 B.length c2, .slice a3 C.length c3]] W fun e w' => e = .returned (.bool true) ∧ Below W.heap.size W w' := by
  by_cases hl3 : 3 < l
  · exact pg_far l hl3 a1 a2 a3 _ c1 _ c2 _ c3 W
  have HF : ∀ w, Calls Try.prog 15 #[.int .i64 l, .slice (some ⟨w.heap.size, 0, none⟩) 3 3] (w.alloc (Obj.cells #[.slice a1 A.length c1, .slice a2 B.length c2, .slice a3 C.length c3] 25)) fun e w' => e = .returned (.bool (fw19 l [(a1, A.length, c1), (a2, B.length, c2), (a3, C.length, c3)])) ∧ Below w.heap.size w w' := fun w => by
    have := few19 l (some ⟨w.heap.size, 0, none⟩) 3 3 [(a1, A.length, c1), (a2, B.length, c2), (a3, C.length, c3)] rfl (by decide) _ (grid_new w 25 [(a1, A.length, c1), (a2, B.length, c2), (a3, C.length, c3)] _ rfl)
    exact this.mono fun e w' h => ⟨h.1, ((Below.refl w.heap.size w).alloc (Nat.le_refl _) _).trans (h.2.mono (by simp))⟩
  cases hfw : fw19 l [(a1, A.length, c1), (a2, B.length, c2), (a3, C.length, c3)] with
  | false =>
    rw [hfw] at HF
    exact pg_few l hl3 a1 a2 a3 _ c1 _ c2 _ c3 W HF
  | true =>
    rw [hfw] at HF
    have h20 : A.length ≤ 20 ∧ B.length ≤ 20 ∧ C.length ≤ 20 := by
      unfold fw19 at hfw
      simp at hfw
      exact hfw.2
    by_cases hl : 0 ≤ l ∧ l ≤ 7
    · obtain ⟨k, rfl⟩ : ∃ k : Nat, l = (k : Int) := ⟨l.toNat, by omega⟩
      have hk : k < 8 := by omega
      obtain ⟨N, hN⟩ : ∃ N, N = 2 ^ k := ⟨_, rfl⟩
      have n0 : 0 < N := by rw [hN]; exact Nat.two_pow_pos k
      have T1 := fun w (hw : Below W.heap.size W w) => times_gen k hk N hN a1 a2 c1 c2 A B la lb (by omega) (by omega) k1 k2 w (ra.below hw) (rb.below hw)
      have T2 := fun w (hw : Below W.heap.size W w) => times_gen k hk N hN a2 a3 c2 c3 B C lb lc (by omega) (by omega) k2 k3 w (rb.below hw) (rc.below hw)
      have T3 := fun w (hw : Below W.heap.size W w) => times_gen k hk N hN a1 a3 c1 c3 A C la lc (by omega) (by omega) k1 k3 w (ra.below hw) (rc.below hw)
      by_cases e1 : hdv k N [A, B] [] = 0
      · by_cases e2 : hdv k N [B, C] [] = 0
        · obtain ⟨z1, z2, z3, z4⟩ := hdv_zero e1
          obtain ⟨_, z5, _, z6⟩ := hdv_zero e2
          obtain ⟨b1, o1, f1, _⟩ := ra.cells 0 (by omega)
          obtain ⟨b2, o2, f2, _⟩ := rb.cells 0 (by omega)
          obtain ⟨b3, o3, f3, _⟩ := rc.cells 0 (by omega)
          subst f1
          subst f2
          subst f3
          rw [z1, z2, z5] at HF ⊢
          exact pg_ok k (by omega) N hN b1 o1 c1 b2 o2 c2 b3 o3 c3 A B C ⟨z1, la, z3⟩ ⟨z2, lb, z4⟩ ⟨z5, lc, z6⟩ (by omega) (by omega) (by omega) W ra rb rc HF
        · rw [e1] at T1
          exact pg_err2 (k : Int) _ _ e2 hl3 a1 a2 a3 _ c1 _ c2 _ c3 W HF T1 T2 T3
      · exact pg_err1 (k : Int) _ _ _ e1 hl3 a1 a2 a3 _ c1 _ c2 _ c3 W HF T1 T2 T3
    · have HH := fun (a b : Option Addr) (n c n2 c2 : Nat) w => phind_lev l hl a b n c n2 c2 w
      have T := fun (a b : Option Addr) (n c n2 c2 : Nat) w (_ : Below W.heap.size W w) => (times_no l 1 a b n c n2 c2 (by decide) w ((HH none _ 0 0 2 2 _).mono fun e w' h => ⟨h.1, ((Below.refl w.heap.size w).alloc (Nat.le_refl _) _).trans (h.2.mono (by simp))⟩)).mono fun e w' h => (⟨_, h.1, h.2⟩ : ∃ v, e = .returned (.tuple #[v, .int .i64 1]) ∧ Below w.heap.size w w')
      exact pg_err1 l 1 1 1 (by decide) hl3 a1 a2 a3 _ c1 _ c2 _ c3 W HF (T a1 a2 _ c1 _ c2) (T a2 a3 _ c2 _ c3) (T a1 a3 _ c1 _ c3)
end Pv
end Go.Proofs.Ytcejppibcemdeaa

/- The contracts of packv.byRight and byLeft over the seat's translation, and what they are. -/
namespace Go.Proofs.Ytcejppibcemdeaa
open Go.RowKit
open Cb Rg
open Tw (pm)
namespace Pv

/-- Each part times an element. -/
def rgt (X : List (Nat × Nat)) (a : Nat × Nat) : List (Nat × Nat) := (List.range X.length).map fun u => pm (el X u) a
theorem rgt_len (X : List (Nat × Nat)) (a : Nat × Nat) : (rgt X a).length = X.length := by simp [rgt]
theorem rgt_el (X : List (Nat × Nat)) (a : Nat × Nat) {u : Nat} (h : u < X.length) : el (rgt X a) u = pm (el X u) a := by simp [rgt, el, List.getD, h]
theorem lt_rgt (X : List (Nat × Nat)) (a : Nat × Nat) : ltE (rgt X a) := ltE_of fun i hi => by
  rw [rgt_len] at hi
  rw [rgt_el X a hi]
  exact lt_pm _ _
theorem of_rgt {k : Nat} (hk : k < 8) {X : List (Nat × Nat)} {a : Nat × Nat} (oX : ofT k X) (oa : ofE k a) : ofT k (rgt X a) := ofT_of fun i hi => by
  rw [rgt_len] at hi
  rw [rgt_el X a hi]
  exact of_pmP hk (oX.el hk i) oa
def brj (X : List (Nat × Nat)) (a : Nat × Nat) (j c : Nat) : Nat × Nat := if c < j then pm (el X c) a else (0, 0)
theorem bit_nil' : bv ((0 : Nat) : Int) = (0, 1) := bit_nil
/-- Times an element on the right. -/
theorem rgt_prL {k : Nat} (hk : k ≤ 7) {X : List (Nat × Nat)} (hX : X.length = 2 ^ k) (a : Nat × Nat) : prL k X (pairv (2 ^ k) (0, 1) a) = rgt X a := list_ext (by rw [prL_len, rgt_len, hX]) fun w hw => by
  rw [prL_len] at hw
  have n128 := pow128 (show k < 8 by omega)
  rw [prL_el k hk X _ w hX (pairv_len _ _ _) hw, rgt_el X a (by omega)]
  unfold MM
  have e : ∀ u : Nat, u < 2 ^ k → (xs (2 ^ k) fun v => sl (hs (pm (bv (u : Int)) (bv (v : Int))) w) (pm (el X u) (el (pairv (2 ^ k) (0, 1) a) v))) = sl (decide (w = u)) (pm (el X u) a) := fun u hu => by
    have e2 : (xs (2 ^ k) fun v => sl (hs (pm (bv (u : Int)) (bv (v : Int))) w) (pm (el X u) (el (pairv (2 ^ k) (0, 1) a) v))) = xs (2 ^ k) fun v => sl (decide (0 = v)) (sl (hs (pm (bv (u : Int)) (bv (v : Int))) w) (pm (el X u) a)) := xs_congr _ fun v hv => by
      rw [pairv_at _ _ _ v hv, ← bit_nil, hs_bvP (by decide) (by omega), pm_sl, sl_comm, decide_eq_decide.2 (show v = 0 ↔ 0 = v from ⟨Eq.symm, Eq.symm⟩)]
    rw [e2, xs_pick (f := fun v => sl (hs (pm (bv (u : Int)) (bv (v : Int))) w) (pm (el X u) a)) _ (Nat.two_pow_pos k), bit_nil, pm_one (bv_lt2 _), hs_bvP (by omega) (by omega)]
  rw [xs_congr _ e]
  exact xs_pick (f := fun u => pm (el X u) a) _ hw
/-- Times an element on the left. -/
theorem lft_prL {k : Nat} (hk : k ≤ 7) {X : List (Nat × Nat)} (hX : X.length = 2 ^ k) (lX : ltE X) (oX : ofT k X) {a : Nat × Nat} (la : lt2 a) (oa : ofE k a) : trns (2 ^ k) (rgt (trns (2 ^ k) X) a) = prL k X (pairv (2 ^ k) a (0, 1)) := by
  have hk8 : k < 8 := by omega
  have e1 : rgt (trns (2 ^ k) X) a = prL k (trns (2 ^ k) X) (pairv (2 ^ k) (0, 1) a) := (rgt_prL hk (trns_len _ _) a).symm
  have e2 : trns (2 ^ k) (pairv (2 ^ k) (0, 1) a) = pairv (2 ^ k) a (0, 1) := list_ext (by rw [trns_len, pairv_len]) fun w hw => by
    rw [trns_len] at hw
    rw [trns_at _ _ hw, pairv_at _ _ _ w hw]
    unfold trn
    have n128 := pow128 hk8
    rw [xs_congr (g := fun v => sl (decide (0 = v)) (sl (hs a w) (bv (v : Int)))) _ fun v hv => by
      rw [pairv_at _ _ _ v hv, hs_sl, ← bit_nil, hs_bvP (by decide) (by omega), sl_and, decide_eq_decide.2 (show v = 0 ↔ 0 = v from ⟨Eq.symm, Eq.symm⟩)]]
    rw [xs_pick (f := fun v => sl (hs a w) (bv (v : Int))) _ (Nat.two_pow_pos k), bit_nil]
  rw [e1, trns_prL hk (trns_len _ _) (pairv_len _ _ _) (lt_trns _ _) (lt_pairv _ _ la) (of_trns hk8 _) (of_pairv hk8 _ _ oa), trns_twice hk8 hX lX oX, e2]
set_option linter.unusedSimpArgs false in
set_option linter.unusedVariables false in
set_option maxHeartbeats 8000000 in
set_option maxRecDepth 100000 in
theorem byright_any (k : Nat) (hk : k < 8) (N : Nat) (n1 : N ≤ 128) (b off cap : Nat) (X : List (Nat × Nat)) (hX : X.length = N) (lX : ltE X) (oX : ofT k X) (a : Nat × Nat) (la : lt2 a) (oa : ofE k a) (W : World) (rX : ERow W (some ⟨b, off, none⟩) X) :
    Calls Try.prog 47 #[.int .i64 (k : Int), .slice (some ⟨b, off, none⟩) N cap, .agg #[.int .u64 (a.1 : Int), .int .u64 (a.2 : Int)]] W fun e w' => ∃ g, e = .returned (.slice (some ⟨g, 0, none⟩) N N) ∧ (ERow w' (some ⟨g, 0, none⟩) (rgt X a) ∧ ∃ F, w'.rowIs g 24 (N * 2) F) ∧ Below W.heap.size W w' := by
  obtain ⟨i0, hi, hz0, hz1, hz2⟩ := info_elem
  have HI := hidT (show Try.prog.info? 24 = some i0 ∧ i0.zero = some (.agg #[.int .u64 0, .int .u64 0]) ∧ i0.size = 2 ∧ i0.bytes = 16 from ⟨hi, hz0, hz1, hz2⟩)
  obtain ⟨W1, hW1⟩ : ∃ x, x = W.alloc (Obj.cells #[.int .u64 (a.1 : Int), .int .u64 (a.2 : Int)] 24) := ⟨_, rfl⟩
  have D0 := hidT (show Below W.heap.size W W1 from hW1 ▸ (Below.refl _ _).alloc (Nat.le_refl _) _)
  have A0 : El W1 W.heap.size a.1 a.2 := hW1 ▸ El.newP W a _
  obtain ⟨q, hq⟩ : ∃ q, q = W.heap.size := ⟨_, rfl⟩
  have EA := hidT (fun w (hb : Below W1.heap.size W1 w) => show El w q a.1 a.2 from hq ▸ A0.below hb)
  have HR := hidT (show ERow W1 (some ⟨b, off, none⟩) X from rX.below D0.out)
  have HG := hidT (And.intro hX (And.intro lX (And.intro oX (And.intro la oa))))
  clear hi hz0 hz1 hz2 hX lX oX la oa rX A0
  go_enter Try.func47, Try.ntmps47
  go_upto_region 1 with fail
  rw [← hW1, ← hq]
  clear hW1 hq
  go_upto_region 3 with (at_make; refine wpList_make_full _ rfl _ _ 26 rfl 0 24 i0 (.agg #[.int .u64 0, .int .u64 0]) 2 Try.underlying26 HI.out.1 HI.out.2.1 HI.out.2.2.1 .i64 .i64 _ _ N rfl rfl rfl rfl (by rw [HI.out.2.2.2]; omega) (by simp only [maxLen]; omega) (Nat.zero_le _) ?_; intro w3 own3 hgr3; have K0 := hidT (Tn.start own3 hgr3 (brj X a 0) (fun c _ => by unfold brj; rw [if_neg (Nat.not_lt_zero c)])); clear own3 hgr3)
  go_loopw [14] (fun u wr => ∃ j : Nat, j ≤ N ∧ u = .int .i64 j ∧ Hid (Tn W1 wr N (brj X a j))) (fun u _ => N - (intOf u).toNat)
  case atStart => exact ⟨0, Nat.zero_le _, rfl, K0⟩
  case round =>
    obtain ⟨j, hj, rfl, HK⟩ := hrel
    clear K0
    by_cases hjl : j < N
    · have j1 : (j : Int) < (N : Int) := by omega
      have j0 : (0 : Int) ≤ (j : Int) := by omega
      obtain ⟨b', o', e, _, c1, c0⟩ := HR.out.cells j (by rw [HG.out.1]; exact hjl)
      injection e with e
      injection e with e1 e2
      subst e1
      subst e2
      have CC := hidT (fun w (hw : Below W1.heap.size W1 w) => show w.cell? ⟨b, off + j * 2, none⟩ = some (.int .u64 ((el X j).1 : Int)) ∧ w.cell? ⟨b, off + j * 2 + 1, none⟩ = some (.int .u64 ((el X j).2 : Int)) ∧ w.cell? ⟨q, 0, none⟩ = some (.int .u64 (a.1 : Int)) ∧ w.cell? ⟨q, 1, none⟩ = some (.int .u64 (a.2 : Int)) from ⟨keepc hw c1, keepc hw c0, (EA.out w hw).hi, (EA.out w hw).lo⟩)
      have MU : Hid (Ret 57 #[.int .i64 (k : Int), .agg #[.int .u64 ((el X j).1 : Int), .int .u64 ((el X j).2 : Int)], .agg #[.int .u64 (a.1 : Int), .int .u64 (a.2 : Int)]] (.agg #[.int .u64 ((pm (el X j) a).1 : Int), .int .u64 ((pm (el X j) a).2 : Int)])) := by
        have := mul_any (k : Int) (el X j) a (ltE_el HG.out.2.1 j).1 (ltE_el HG.out.2.1 j).2 HG.out.2.2.2.1.1 HG.out.2.2.2.1.2
        rw [mulv_of (HG.out.2.2.1.el hk j) HG.out.2.2.2.2] at this
        exact this
      have HZ := hidT (show ∀ c, c < N → brj X a (j + 1) c = if c = j then pm (el X j) a else brj X a j c from fun c _ => by
        unfold brj
        by_cases e : c = j
        · subst e
          rw [if_pos (by omega), if_pos rfl]
        · rw [if_neg e]
          by_cases e2 : c < j
          · rw [if_pos e2, if_pos (by omega)]
          · rw [if_neg e2, if_neg (by omega)])
      clear c1 c0
      generalize pm (el X j) a = z at *
      generalize el X j = x at *
      go_upto_region 5 with fail
      have K := HK
      clear HK
      refine wp_region_noPanic ?_
      refine wp_region_peel (S := fun w => w.cell? ⟨b, off + j * 2, none⟩ = some (.int .u64 (x.1 : Int)) ∧ w.cell? ⟨b, off + j * 2 + 1, none⟩ = some (.int .u64 (x.2 : Int)) ∧ w.cell? ⟨q, 0, none⟩ = some (.int .u64 (a.1 : Int)) ∧ w.cell? ⟨q, 1, none⟩ = some (.int .u64 (a.2 : Int))) 10 (by kernel_rfl) rfl (by kernel_rfl) ?_ (fun hHeld => ?_)
      · exact by first | exact CC.out _ K.out.d | exact CC.out _ K.out.drew.d
      refine wpAnyH_take (i := 0) (oi := _) (v := ?_) rfl (by kernel_rfl) (by kernel_rfl) (by kernel_rfl) (fun _ _ _ h => h) (Or.inl ⟨by rfl, ?_⟩) (by assumption) ?_
      rotate_left
      · ((intro w hSw; (try dsimp only at hSw); go_simp) <;> (try with_reducible rfl))
      show wpAnyH _ _ _ _ _ _ _ (Act.put _ (some 17) _) _
      simp only [Act.put, List.setIfInBounds_toArray, List.set_cons_succ, List.set_cons_zero]
      refine wpAnyH_take (i := 1) (oi := _) (v := ?_) rfl (by kernel_rfl) (by kernel_rfl) (by kernel_rfl) (fun _ _ _ h => h) (Or.inl ⟨by rfl, ?_⟩) (by assumption) ?_
      rotate_left
      · ((intro w hSw; (try dsimp only at hSw); go_simp) <;> (try with_reducible rfl))
      show wpAnyH _ _ _ _ _ _ _ (Act.put _ (some 18) _) _
      simp only [Act.put, List.setIfInBounds_toArray, List.set_cons_succ, List.set_cons_zero]
      refine wpAnyH_take (i := 2) (oi := _) (v := ?_) rfl (by kernel_rfl) (by kernel_rfl) (by kernel_rfl) (fun _ _ _ h => h) (Or.inl ⟨by rfl, ?_⟩) (by assumption) ?_
      rotate_left
      · ((intro w hSw; (try dsimp only at hSw); go_simp) <;> (try with_reducible rfl))
      show wpAnyH _ _ _ _ _ _ _ (Act.put _ (some 19) _) _
      simp only [Act.put, List.setIfInBounds_toArray, List.set_cons_succ, List.set_cons_zero]
      refine wpAnyH_take (i := 3) (oi := _) (v := ?_) rfl (by kernel_rfl) (by kernel_rfl) (by kernel_rfl) (fun _ _ _ h => h) (Or.inl ⟨by rfl, ?_⟩) (by assumption) ?_
      rotate_left
      · ((intro w hSw; (try dsimp only at hSw); go_simp) <;> (try with_reducible rfl))
      show wpAnyH _ _ _ _ _ _ _ (Act.put _ (some 20) _) _
      simp only [Act.put, List.setIfInBounds_toArray, List.set_cons_succ, List.set_cons_zero]
      refine wpAnyH_take (i := 4) (oi := _) (v := ?_) rfl (by kernel_rfl) (by kernel_rfl) (by kernel_rfl) (fun _ _ _ h => h) (Or.inl ⟨by rfl, ?_⟩) (by assumption) ?_
      rotate_left
      · ((intro w hSw; (try dsimp only at hSw); go_simp) <;> (try with_reducible rfl))
      show wpAnyH _ _ _ _ _ _ _ (Act.put _ (some 21) _) _
      simp only [Act.put, List.setIfInBounds_toArray, List.set_cons_succ, List.set_cons_zero]
      refine wpAnyH_take (i := 5) (oi := _) (v := ?_) rfl (by kernel_rfl) (by kernel_rfl) (by kernel_rfl) (fun _ _ _ h => h) (Or.inl ⟨by rfl, ?_⟩) (by assumption) ?_
      rotate_left
      · ((intro w hSw; (try dsimp only at hSw); go_simp) <;> (try with_reducible rfl))
      show wpAnyH _ _ _ _ _ _ _ (Act.put _ (some 22) _) _
      simp only [Act.put, List.setIfInBounds_toArray, List.set_cons_succ, List.set_cons_zero]
      refine wpAnyH_take (i := 6) (oi := _) (v := ?_) rfl (by kernel_rfl) (by kernel_rfl) (by kernel_rfl) (fun _ _ _ h => h) (Or.inl ⟨by rfl, ?_⟩) (by assumption) ?_
      rotate_left
      · ((intro w hSw; (try dsimp only at hSw); go_simp) <;> (try with_reducible rfl))
      show wpAnyH _ _ _ _ _ _ _ (Act.put _ (some 23) _) _
      simp only [Act.put, List.setIfInBounds_toArray, List.set_cons_succ, List.set_cons_zero]
      refine wpAnyH_take (i := 7) (oi := _) (v := ?_) rfl (by kernel_rfl) (by kernel_rfl) (by kernel_rfl) (fun _ _ _ h => h) (Or.inl ⟨by rfl, ?_⟩) (by assumption) ?_
      rotate_left
      · ((intro w hSw; (try dsimp only at hSw); go_simp) <;> (try with_reducible rfl))
      show wpAnyH _ _ _ _ _ _ _ (Act.put _ (some 24) _) _
      simp only [Act.put, List.setIfInBounds_toArray, List.set_cons_succ, List.set_cons_zero]
      refine wpAnyH_ready (rs := [8]) (by kernel_rfl) (by simp) ?_
      refine AllReadyH.cons (o := _) rfl (fun KK hKK => ?_) AllReadyH.nil
      go_simp
      (go_at_call 57; refine (MU.out.go _).mono ?_; rintro e w' ⟨rfl, hb'⟩)
      have K'' := hidT (by first | exact K.out.below hb' | exact K.out.drew.below hb' : Tn W1 w' N (brj X a j))
      clear K hb'
      have K := K''
      clear K''
      refine hKK.out _ _ ?_ (fun hHeld => ?_)
      · exact by first | exact CC.out _ K.out.d | exact CC.out _ K.out.drew.d
      clear hKK KK
      try simp only [Act.put]
      refine wpAnyH_take (i := 9) (oi := _) (v := ?_) rfl (by kernel_rfl) (by kernel_rfl) (by kernel_rfl) (fun _ _ _ h => h) (Or.inl ⟨by rfl, ?_⟩) (by assumption) ?_
      rotate_left
      · ((intro w hSw; (try dsimp only at hSw); go_simp) <;> (try with_reducible rfl))
      show wpAnyH _ _ _ _ _ _ _ (Act.put _ (some 26) _) _
      simp only [Act.put, List.setIfInBounds_toArray, List.set_cons_succ, List.set_cons_zero]
      refine wpAnyH_done (by kernel_rfl) ?_ _
      refine peel_last rfl (fun KK hKK => ?_)
      clear hHeld
      obtain ⟨r1, r0, f1, f0⟩ := K.out.facts j hjl
      go_simp
      refine hKK _ _ ?_
      refine NoPanic.normal ?_
      clear hKK KK
      have K2 := hidT (K.out.put j z (brj X a (j + 1)) HZ.out)
      clear K r1 r0 f1 f0
      go_wp2
      exact ⟨⟨j + 1, hjl, by simp, K2⟩, by simp [intOf]; omega⟩
    · obtain rfl : j = N := by omega
      have HF := hidT (show (ERow wr (some ⟨W1.heap.size, 0, none⟩) (rgt X a) ∧ ∃ F, wr.rowIs W1.heap.size 24 (j * 2) F) ∧ Below W1.heap.size W1 wr from ⟨⟨HK.out.erow ((rgt_len X a).trans HG.out.1) (fun c hc => by rw [rgt_el X a (by rw [HG.out.1]; exact hc)]; unfold brj; rw [if_pos hc]), _, HK.out.row⟩, HK.out.d⟩)
      clear HK
      go_wp2
      go_ret
      exact ⟨_, rfl, HF.out.1, D0.out.trans (HF.out.2.mono D0.out.size)⟩
set_option linter.unusedSimpArgs false in
set_option linter.unusedVariables false in
set_option maxHeartbeats 8000000 in
set_option maxRecDepth 100000 in
theorem byleft_any (k : Nat) (hk : k < 8) (N : Nat) (hN : N = 2 ^ k) (b off cap : Nat) (X : List (Nat × Nat)) (hX : X.length = N) (lX : ltE X) (oX : ofT k X) (a : Nat × Nat) (la : lt2 a) (oa : ofE k a) (W : World) (rX : ERow W (some ⟨b, off, none⟩) X) :
    Calls Try.prog 46 #[.int .i64 (k : Int), .slice (some ⟨b, off, none⟩) N cap, .agg #[.int .u64 (a.1 : Int), .int .u64 (a.2 : Int)]] W fun e w' => ∃ g, e = .returned (.slice (some ⟨g, 0, none⟩) N N) ∧ ERow w' (some ⟨g, 0, none⟩) (trns N (rgt (trns N X) a)) ∧ Below W.heap.size W w' := by
  have n1 : N ≤ 128 := by rw [hN]; exact pow128 hk
  have T1 := hidT (fun w (hw : Below W.heap.size W w) => turned_any k hk N hN (some ⟨b, off, none⟩) cap X hX lX oX w (rX.below hw))
  have oT : ofT k (trns N X) := hN ▸ of_trns hk X
  have BR := hidT (fun w (g : Nat) (h : ERow w (some ⟨g, 0, none⟩) (trns N X)) => (byright_any k hk N n1 g 0 N (trns N X) (trns_len _ _) (lt_trns _ _) oT a la oa w h).mono fun e w' ⟨g, h1, h2, h3⟩ => (⟨g, h1, h2.1, h3⟩ : ∃ g : Nat, e = Ending.returned (.slice (some ⟨g, 0, none⟩) N N) ∧ ERow w' (some ⟨g, 0, none⟩) (rgt (trns N X) a) ∧ Below w.heap.size w w'))
  have T2 := hidT (fun w (g : Nat) (h : ERow w (some ⟨g, 0, none⟩) (rgt (trns N X) a)) => turned_any k hk N hN (some ⟨g, 0, none⟩) N (rgt (trns N X) a) ((rgt_len _ _).trans (trns_len _ _)) (lt_rgt _ _) (of_rgt hk oT oa) w h)
  obtain ⟨W1, hW1⟩ : ∃ x, x = W.alloc (Obj.cells #[.int .u64 (a.1 : Int), .int .u64 (a.2 : Int)] 24) := ⟨_, rfl⟩
  have D0 := hidT (show Below W.heap.size W W1 from hW1 ▸ (Below.refl _ _).alloc (Nat.le_refl _) _)
  have K := hidT (show El W1 W.heap.size a.1 a.2 ∧ Below W1.heap.size W1 W1 from ⟨hW1 ▸ El.newP W a _, Below.refl _ _⟩)
  clear hN hX lX oX la oa rX oT n1
  go_enter Try.func46, Try.ntmps46
  go_upto_region 1 with fail
  rw [← hW1]
  clear hW1
  refine wp_region_noPanic ?_
  refine wp_region_held_drew (S := fun w => w.cell? ⟨W.heap.size, 0, none⟩ = some (.int .u64 (a.1 : Int)) ∧ w.cell? ⟨W.heap.size, 1, none⟩ = some (.int .u64 (a.2 : Int))) (by kernel_rfl) (⟨K.out.1.drew.hi, K.out.1.drew.lo⟩) (fun hHeld => ?_)
  refine wpAnyH_take (i := 0) (oi := _) (v := ?_) rfl (by kernel_rfl) (by kernel_rfl) (by kernel_rfl) (fun _ _ _ h => h) (Or.inl ⟨by rfl, ?_⟩) (by assumption) ?_
  rotate_left
  · ((intro w hSw; (try dsimp only at hSw); go_simp) <;> (try with_reducible rfl))
  show wpAnyH _ _ _ _ _ _ _ (Act.put _ (some 7) _) _
  simp only [Act.put, List.setIfInBounds_toArray, List.set_cons_succ, List.set_cons_zero]
  refine wpAnyH_take (i := 1) (oi := _) (v := ?_) rfl (by kernel_rfl) (by kernel_rfl) (by kernel_rfl) (fun _ _ _ h => h) (Or.inl ⟨by rfl, ?_⟩) (by assumption) ?_
  rotate_left
  · ((intro w hSw; (try dsimp only at hSw); go_simp) <;> (try with_reducible rfl))
  show wpAnyH _ _ _ _ _ _ _ (Act.put _ (some 8) _) _
  simp only [Act.put, List.setIfInBounds_toArray, List.set_cons_succ, List.set_cons_zero]
  refine wpAnyH_take (i := 3) (oi := _) (v := ?_) rfl (by kernel_rfl) (by kernel_rfl) (by kernel_rfl) (fun _ _ _ h => h) (Or.inl ⟨by rfl, ?_⟩) (by assumption) ?_
  rotate_left
  · ((intro w hSw; (try dsimp only at hSw); go_simp) <;> (try with_reducible rfl))
  show wpAnyH _ _ _ _ _ _ _ (Act.put _ (some 10) _) _
  simp only [Act.put, List.setIfInBounds_toArray, List.set_cons_succ, List.set_cons_zero]
  refine wpAnyH_ready (rs := [2]) (by kernel_rfl) (by simp) ?_
  refine AllReadyH.cons (o := _) rfl (fun KK hKK => ?_) AllReadyH.nil
  go_simp
  (go_at_call 42; refine (T1.out _ (D0.out.trans (K.out.2.drew.mono D0.out.size))).mono ?_; rintro e w2 ⟨g2, rfl, hr, hb⟩)
  have K'' := hidT (show El w2 W.heap.size a.1 a.2 ∧ Below W1.heap.size W1 w2 from (by first | exact ⟨K.out.1.below hb, K.out.2.trans (hb.mono K.out.2.size)⟩ | exact ⟨K.out.1.drew.below hb, K.out.2.drew.trans (hb.mono K.out.2.drew.size)⟩))
  have R2 := hidT hr
  clear hr
  clear K hb
  have K := K''
  clear K''
  refine hKK.out _ _ ?_ (fun hHeld => ?_)
  · exact by first | exact ⟨K.out.1.hi, K.out.1.lo⟩ | exact ⟨K.out.1.drew.hi, K.out.1.drew.lo⟩
  clear hKK KK
  try simp only [Act.put]
  refine wpAnyH_ready (rs := [4]) (by kernel_rfl) (by simp) ?_
  refine AllReadyH.cons (o := _) rfl (fun KK hKK => ?_) AllReadyH.nil
  go_simp
  (go_at_call 47; refine (BR.out _ g2 R2.out).mono ?_; rintro e w3 ⟨g3, rfl, hr, hb⟩)
  have K'' := hidT (show El w3 W.heap.size a.1 a.2 ∧ Below W1.heap.size W1 w3 from (by first | exact ⟨K.out.1.below hb, K.out.2.trans (hb.mono K.out.2.size)⟩ | exact ⟨K.out.1.drew.below hb, K.out.2.drew.trans (hb.mono K.out.2.drew.size)⟩))
  have R3 := hidT hr
  clear hr R2
  clear K hb
  have K := K''
  clear K''
  refine hKK.out _ _ ?_ (fun hHeld => ?_)
  · exact by first | exact ⟨K.out.1.hi, K.out.1.lo⟩ | exact ⟨K.out.1.drew.hi, K.out.1.drew.lo⟩
  clear hKK KK
  try simp only [Act.put]
  refine wpAnyH_ready (rs := [5]) (by kernel_rfl) (by simp) ?_
  refine AllReadyH.cons (o := _) rfl (fun KK hKK => ?_) AllReadyH.nil
  go_simp
  (go_at_call 42; refine (T2.out _ g3 R3.out).mono ?_; rintro e w4 ⟨g4, rfl, hr, hb⟩)
  have K'' := hidT (show El w4 W.heap.size a.1 a.2 ∧ Below W1.heap.size W1 w4 from (by first | exact ⟨K.out.1.below hb, K.out.2.trans (hb.mono K.out.2.size)⟩ | exact ⟨K.out.1.drew.below hb, K.out.2.drew.trans (hb.mono K.out.2.drew.size)⟩))
  have R4 := hidT hr
  clear hr R3
  clear K hb
  have K := K''
  clear K''
  refine hKK.out _ _ ?_ (fun hHeld => ?_)
  · exact by first | exact ⟨K.out.1.hi, K.out.1.lo⟩ | exact ⟨K.out.1.drew.hi, K.out.1.drew.lo⟩
  clear hKK KK
  try simp only [Act.put]
  refine wpAnyH_take (i := 6) (oi := _) (v := ?_) rfl (by kernel_rfl) (by kernel_rfl) (by kernel_rfl) (fun _ _ _ h => h) (Or.inl ⟨by rfl, ?_⟩) (by assumption) ?_
  rotate_left
  · ((intro w hSw; (try dsimp only at hSw); go_simp) <;> (try with_reducible rfl))
  show wpAnyH _ _ _ _ _ _ _ (Act.put _ (some 6) _) _
  simp only [Act.put, List.setIfInBounds_toArray, List.set_cons_succ, List.set_cons_zero]
  refine wpAnyH_done (by kernel_rfl) ?_ _
  refine NoPanic.normal ?_
  go_wp2
  go_ret
  exact ⟨g4, rfl, R4.out, D0.out.trans (K.out.2.mono D0.out.size)⟩
end Pv
end Go.Proofs.Ytcejppibcemdeaa
