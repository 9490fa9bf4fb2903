/- The walk of steeplelaw33.FrobDual over the seat's translation. -/
import Derived.Test.YtjdfbjdbfncofaaPFrG
import Derived.Test.YtjdfbjdbfncofaaPFrM
import Derived.Test.YtjdfbjdbfncofaaPHfS
import Derived.Test.YtjdfbjdbfncofaaRows
import Derived.Test.YtjdfbjdbfncofaaTwBl
import Derived.ProofKit
import Derived.OpenShut
import Derived.ShutString
import Derived.ChangeOld
import Derived.Lib.SmallJoins
namespace Go.Proofs.Ytjdfbjdbfncofaa
open Go.RowKit
open Cb Rg Sq Fr Hf
open Tw (pm)

/-- What the law holds: the element, and the dual list. -/
structure Kd (W w : World) (b6 : Nat) (a : Nat × Nat) (g : Nat) (D : List (Nat × Nat)) : Prop where
  x : El w b6 a.1 a.2
  row : ERow w (some ⟨g, 0, none⟩) D
  d : Below W.heap.size W w
theorem Kd.below {W w w' : World} {b6 : Nat} {a : Nat × Nat} {g : Nat} {D : List (Nat × Nat)} (h : Kd W w b6 a g D) (hb : Below w.heap.size w w') : Kd W w' b6 a g D := ⟨h.x.below hb, h.row.below hb, h.d.trans (hb.mono h.d.size)⟩
theorem Kd.cells {W w : World} {b6 : Nat} {a : Nat × Nat} {g : Nat} {D : List (Nat × Nat)} (h : Kd W w b6 a g D) {i : Nat} (hi : i < D.length) : w.cell? ⟨b6, 0, none⟩ = some (.int .u64 (a.1 : Int)) ∧ w.cell? ⟨b6, 1, none⟩ = some (.int .u64 (a.2 : Int)) ∧ w.cell? ⟨g, i * 2, none⟩ = some (.int .u64 ((el D i).1 : Int)) ∧ w.cell? ⟨g, i * 2 + 1, none⟩ = some (.int .u64 ((el D i).2 : Int)) := by
  obtain ⟨g', o, e, h1, h2, h3⟩ := h.row.cells i hi
  injection e with e; injection e with e1 e2; subst e1 e2
  rw [Nat.zero_add] at h2 h3
  exact ⟨h.x.hi, h.x.lo, h2, h3⟩
set_option maxHeartbeats 2000000 in
theorem fd_far (l : Int) (e : Nat × Nat) (h : 5 < l) (h7 : l ≤ 7) : Ret 3 #[.int .i64 l, .agg #[.int .u64 (e.1 : Int), .int .u64 (e.2 : Int)]] (.bool true) := by
  intro W
  have HA := hidT awake33
  go_enter Try.func3, Try.ntmps3
  go_wp2_with (go_at_call 5; refine (HA.out.go _).mono ?_; rintro e w1 ⟨rfl, hb1⟩)
  go_ret
  exact ⟨rfl, ((Below.refl _ _).alloc (Nat.le_refl _) _).trans (hb1.mono (by simp))⟩
set_option maxHeartbeats 2000000 in
theorem fd_no (l : Int) (e : Nat × Nat) (h : l < 0 ∨ 7 < l) : Ret 3 #[.int .i64 l, .agg #[.int .u64 (e.1 : Int), .int .u64 (e.2 : Int)]] (.bool true) := by
  intro W
  have HA := hidT awake33
  have HD := hidT (dual_no l h)
  rcases h with h | h
  · have h1 : ¬ 5 < l := by omega
    go_enter Try.func3, Try.ntmps3
    go_wp2_with (first
      | (go_at_call 6; refine (HD.out.go _).mono ?_; rintro e w1 ⟨rfl, hb1⟩; have K1 : Hid (Below W.heap.size W w1) := ((Below.refl _ _).alloc (Nat.le_refl _) _).trans (hb1.mono (by simp)); clear hb1)
      | (go_at_call 5; refine (HA.out.go _).mono ?_; rintro e w2 ⟨rfl, hb2⟩))
    go_ret
    exact ⟨rfl, K1.out.trans (hb2.mono K1.out.size)⟩
  · have h1 : 5 < l := by omega
    have h2 : ¬ l ≤ 7 := by omega
    have h3 : ¬ l < 0 := by omega
    go_enter Try.func3, Try.ntmps3
    go_wp2_with (first
      | (go_at_call 6; refine (HD.out.go _).mono ?_; rintro e w1 ⟨rfl, hb1⟩; have K1 : Hid (Below W.heap.size W w1) := ((Below.refl _ _).alloc (Nat.le_refl _) _).trans (hb1.mono (by simp)); clear hb1)
      | (go_at_call 5; refine (HA.out.go _).mono ?_; rintro e w2 ⟨rfl, hb2⟩))
    go_ret
    exact ⟨rfl, K1.out.trans (hb2.mono K1.out.size)⟩
set_option maxRecDepth 100000 in
set_option maxHeartbeats 16000000 in
theorem fd_ok (k : Nat) (hk : k < 6) (e : Nat × Nat) (le : lt2 e) : Ret 3 #[.int .i64 (k : Int), .agg #[.int .u64 (e.1 : Int), .int .u64 (e.2 : Int)]] (.bool true) := by
  intro W
  have hk8 : k < 8 := by omega
  have HA := hidT awake33
  have HD := hidT (fun w => dual_ok k hk8 w)
  have HC := hidT (of33 k hk8 e le)
  have lA : lt2 (cutE k e) := cut_lt k e le.1 le.2
  have oA : ofE k (cutE k e) := cut_closed k hk8 e le.2
  generalize cutE k e = a at *
  have H2 := hidT (rtwoF k (by omega))
  have h128 := pow_128 hk8
  have hDL : Hid ((bkL (fms k)).length = 2 ^ k) := by show _ = _; rw [bkL_len, fms_len]
  have HPr : Hid (∀ i : Nat, Ret 10 #[.agg #[.int .u64 (a.1 : Int), .int .u64 (a.2 : Int)], .agg #[.int .u64 ((el (bkL (fms k)) i).1 : Int), .int .u64 ((el (bkL (fms k)) i).2 : Int)]] (.agg #[.int .u64 ((pm a (el (bkL (fms k)) i)).1 : Int), .int .u64 ((pm a (el (bkL (fms k)) i)).2 : Int)])) := fun i => rprod _ _ lA (ltE_el (lt_bkL (lt_fms k)) i)
  have HTt : Hid (∀ i : Nat, i < 2 ^ k → Ret 9 #[.int .i64 (k : Int), .int .i64 0, .agg #[.int .u64 ((pm a (el (bkL (fms k)) i)).1 : Int), .int .u64 ((pm a (el (bkL (fms k)) i)).2 : Int)]] (.agg #[.int .u64 ((sl (hs a i) (0, 1)).1 : Int), .int .u64 ((sl (hs a i) (0, 1)).2 : Int)])) := fun i hi => by
    have h := rtrace33 k 0 hk8 (Nat.zero_le k) (pm a (el (bkL (fms k)) i)) (lt_pm _ _)
    have e : Fr.tn xa (0, 0) k 0 (pm a (el (bkL (fms k)) i)) = sl (hs a i) (0, 1) := by
      rw [bkL_at _ (by rw [fms_len]; exact hi)]
      exact dl_tr hk8 lA oA hi
    rw [e] at h
    exact h
  have HHa : Hid (∀ i : Nat, i < 2 ^ k → Ret 11 #[.agg #[.int .u64 (a.1 : Int), .int .u64 (a.2 : Int)], .int .i64 (i : Int)] (.bool (hs a i))) := fun i hi => has_any _ _ _ lA.1 lA.2 (by omega)
  have k5 : ¬ (5 : Int) < (k : Int) := by omega
  have k0 : ¬ (k : Int) < 0 := by omega
  have k7 : ¬ (7 : Int) < (k : Int) := by omega
  clear hk hk8 oA lA le
  generalize bkL (fms k) = D at *
  generalize 2 ^ k = N at *
  go_enter Try.func3, Try.ntmps3
  go_upto_region 7 with (first
    | (go_at_call 6; refine (HD.out _).mono ?_; rintro e1 w1 ⟨g, rfl, hr1, hb1⟩; have x1 : w1.cell? ⟨W.heap.size, 0, none⟩ = some (.int .u64 (e.1 : Int)) := keepc hb1 (by simp [go_sem]); have x0 : w1.cell? ⟨W.heap.size, 1, none⟩ = some (.int .u64 (e.2 : Int)) := keepc hb1 (by simp [go_sem]); have K1 : Hid (ERow w1 (some ⟨g, 0, none⟩) D ∧ Below W.heap.size W w1) := ⟨hr1, ((Below.refl _ _).alloc (Nat.le_refl _) _).trans (hb1.mono (by simp))⟩; clear hr1 hb1)
    | (go_at_call 7; refine (HC.out.go _).mono ?_; rintro e1 w2 ⟨rfl, hb2⟩; have K2 : Hid (ERow w2 (some ⟨g, 0, none⟩) D ∧ Below W.heap.size W w2) := ⟨K1.out.1.below hb2, K1.out.2.trans (hb2.mono K1.out.2.size)⟩; clear hb2 K1 x1 x0))
  have K3 : Hid (Kd W (w2.alloc (Obj.cells #[.int .u64 (a.1 : Int), .int .u64 (a.2 : Int)] 24)) w2.heap.size a g D) := ⟨⟨by simp [go_sem], by simp [go_sem]⟩, K2.out.1.below ((Below.refl _ _).alloc (Nat.le_refl _) _), K2.out.2.alloc K2.out.2.size _⟩
  clear K2
  generalize w2.alloc (Obj.cells #[.int .u64 (a.1 : Int), .int .u64 (a.2 : Int)] 24) = w3 at *
  generalize w2.heap.size = b6 at *
  go_wp2_with (go_at_call 8; refine (H2.out.go _).mono ?_; rintro e1 w4 ⟨rfl, hb4⟩; have K4 := hidT (K3.out.below hb4); clear hb4 K3)
  go_loopw [7] (fun u wr => ∃ i : Nat, i ≤ N ∧ u = .int .i64 i ∧ Hid (Kd W wr b6 a g D)) (fun u _ => N - (intOf u).toNat)
  case atStart => exact ⟨0, Nat.zero_le _, rfl, K4⟩
  case round =>
    obtain ⟨i, hi, rfl, K0⟩ := hrel
    clear K4
    by_cases hlt : i < N
    · have i1 : (i : Int) < (N : Int) := by omega
      have i0' : (0 : Int) ≤ (i : Int) := by omega
      have HP := hidT (HPr.out i)
      have HTr := hidT (HTt.out i hlt)
      have HH := hidT (HHa.out i hlt)
      have EE : ∀ w, Below wr.heap.size wr w → w.cell? ⟨b6, 0, none⟩ = some (.int .u64 (a.1 : Int)) ∧ w.cell? ⟨b6, 1, none⟩ = some (.int .u64 (a.2 : Int)) ∧ w.cell? ⟨g, i * 2, none⟩ = some (.int .u64 ((el D i).1 : Int)) ∧ w.cell? ⟨g, i * 2 + 1, none⟩ = some (.int .u64 ((el D i).2 : Int)) := fun w h => (K0.out.below h).cells (by rw [hDL.out]; exact hlt)
      clear HPr HTt HHa HD HC H2 HA
      generalize el D i = d at *
      generalize pm a d = P at *
      generalize hs a i = b at *
      generalize hT : sl b (0, 1) = T at *
      have HTb : Hid (T = sl b (0, 1)) := hT.symm
      clear hT
      obtain ⟨c1, c0, c3, c2⟩ := EE _ (Below.refl _ _)
      go_wp2_with fail
      obtain ⟨N0, hN⟩ : ∃ N0, N0 = wr.heap.size := ⟨_, rfl⟩
      have KK0 := K0
      clear K0 c1 c0 c3 c2
      refine wp_region_noPanic ?_
      refine wp_region_held_drew (S := fun w => w.cell? ⟨b6, 0, none⟩ = some (.int .u64 (a.1 : Int)) ∧ w.cell? ⟨b6, 1, none⟩ = some (.int .u64 (a.2 : Int)) ∧ w.cell? ⟨g, i * 2, none⟩ = some (.int .u64 (d.1 : Int)) ∧ w.cell? ⟨g, i * 2 + 1, none⟩ = some (.int .u64 (d.2 : Int))) (by kernel_rfl) (EE _ (Below.refl _ _).drew) (fun hHeld => ?_)
      refine wpAnyH_take (i := 0) (oi := _) (v := ?_) rfl (by kernel_rfl) (by kernel_rfl) (by kernel_rfl) (fun _ _ _ h => h) (Or.inl ⟨by rfl, ?_⟩) (by assumption) ?_
      rotate_left
      · ((intro w hSw; (try dsimp only at hSw); go_simp) <;> (try with_reducible rfl))
      show wpAnyH _ _ _ _ _ _ _ (Act.put _ (some 44) _) _
      simp only [Act.put, List.setIfInBounds_toArray, List.set_cons_succ, List.set_cons_zero]
      refine wpAnyH_take (i := 1) (oi := _) (v := ?_) rfl (by kernel_rfl) (by kernel_rfl) (by kernel_rfl) (fun _ _ _ h => h) (Or.inl ⟨by rfl, ?_⟩) (by assumption) ?_
      rotate_left
      · ((intro w hSw; (try dsimp only at hSw); go_simp) <;> (try with_reducible rfl))
      show wpAnyH _ _ _ _ _ _ _ (Act.put _ (some 45) _) _
      simp only [Act.put, List.setIfInBounds_toArray, List.set_cons_succ, List.set_cons_zero]
      refine wpAnyH_take (i := 2) (oi := _) (v := ?_) rfl (by kernel_rfl) (by kernel_rfl) (by kernel_rfl) (fun _ _ _ h => h) (Or.inl ⟨by rfl, ?_⟩) (by assumption) ?_
      rotate_left
      · ((intro w hSw; (try dsimp only at hSw); go_simp) <;> (try with_reducible rfl))
      show wpAnyH _ _ _ _ _ _ _ (Act.put _ (some 46) _) _
      simp only [Act.put, List.setIfInBounds_toArray, List.set_cons_succ, List.set_cons_zero]
      refine wpAnyH_take (i := 3) (oi := _) (v := ?_) rfl (by kernel_rfl) (by kernel_rfl) (by kernel_rfl) (fun _ _ _ h => h) (Or.inl ⟨by rfl, ?_⟩) (by assumption) ?_
      rotate_left
      · ((intro w hSw; (try dsimp only at hSw); go_simp) <;> (try with_reducible rfl))
      show wpAnyH _ _ _ _ _ _ _ (Act.put _ (some 47) _) _
      simp only [Act.put, List.setIfInBounds_toArray, List.set_cons_succ, List.set_cons_zero]
      refine wpAnyH_take (i := 4) (oi := _) (v := ?_) rfl (by kernel_rfl) (by kernel_rfl) (by kernel_rfl) (fun _ _ _ h => h) (Or.inl ⟨by rfl, ?_⟩) (by assumption) ?_
      rotate_left
      · ((intro w hSw; (try dsimp only at hSw); go_simp) <;> (try with_reducible rfl))
      show wpAnyH _ _ _ _ _ _ _ (Act.put _ (some 48) _) _
      simp only [Act.put, List.setIfInBounds_toArray, List.set_cons_succ, List.set_cons_zero]
      refine wpAnyH_take (i := 5) (oi := _) (v := ?_) rfl (by kernel_rfl) (by kernel_rfl) (by kernel_rfl) (fun _ _ _ h => h) (Or.inl ⟨by rfl, ?_⟩) (by assumption) ?_
      rotate_left
      · ((intro w hSw; (try dsimp only at hSw); go_simp) <;> (try with_reducible rfl))
      show wpAnyH _ _ _ _ _ _ _ (Act.put _ (some 49) _) _
      simp only [Act.put, List.setIfInBounds_toArray, List.set_cons_succ, List.set_cons_zero]
      refine wpAnyH_inv (fun L ac w => ∃ (p8 v50 v51 : Value) (q8 : Nat), ac = { tmps := #[.int .i64 (k : Int), .agg #[.int .u64 (e.1 : Int), .int .u64 (e.2 : Int)], undef, .pointer (some ⟨W.heap.size, 0, none⟩), u4, .slice (some ⟨g, 0, none⟩) N N, .pointer (some ⟨b6, 0, none⟩), .int .i64 (i : Int), p8, .int .i64 (k : Int), .bool false, .bool false, undef, undef, .bool false, undef, .int .i64 (k : Int), .slice (some ⟨g, 0, none⟩) N N, .int .i64 (k : Int), .bool (decide ((k : Int) < 0)), .bool (decide ((k : Int) < 0)), .int .i64 (k : Int), .bool (decide (7 < (k : Int))), .bool (decide ((k : Int) < 0) || decide (7 < (k : Int))), undef, undef, undef, undef, undef, undef, .int .i64 (k : Int), .agg #[.int .u64 (e.1 : Int), .int .u64 (e.2 : Int)], .agg #[.int .u64 (a.1 : Int), .int .u64 (a.2 : Int)], .slice (some ⟨g, 0, none⟩) N N, .int .i64 (N : Int), .int .i64 (k : Int), .int .i64 (N : Int), .bool false, .int .i64 (i : Int), .slice (some ⟨g, 0, none⟩) N N, .int .i64 (N : Int), .bool true, u42, u43, .int .i64 (k : Int), .agg #[.int .u64 (a.1 : Int), .int .u64 (a.2 : Int)], .slice (some ⟨g, 0, none⟩) N N, .int .i64 (i : Int), .pointer (some ⟨g, i * 2, none⟩), .agg #[.int .u64 (d.1 : Int), .int .u64 (d.2 : Int)], v50, v51, u52, u53, u54, u55, u56, u57, u58, undef], defers := [] } ∧ Hid (([0, 1, 2, 3, 4, 5].all fun i => L i) = true ∧ (L 6 = true → v50 = .agg #[.int .u64 (P.1 : Int), .int .u64 (P.2 : Int)]) ∧ (L 7 = true → v51 = .agg #[.int .u64 (T.1 : Int), .int .u64 (T.2 : Int)]) ∧ (Vas N0 w L [⟨8, 9, q8, p8, T⟩]) ∧ (Below N0 wr w))) (by kernel_rfl) ?hIS ?step ?done _ _ _ _ (by rfl) (by decide) ?init
      case hIS =>
        rintro L ac w ⟨_, _, _, _, rfl, hI⟩
        obtain ⟨hP, h6, h7, hV, hB⟩ := hI.out
        exact EE _ (hN ▸ hB)
      case init =>
        exact ⟨u8, u50, u51, 0, rfl, by rfl, fun h => absurd h (by decide), fun h => absurd h (by decide), Vas.start (by simp), hN ▸ (Below.refl wr.heap.size wr).drew⟩
      case step =>
        rintro L ac w ⟨p8, v50, v51, q8, rfl, hI⟩
        refine (EachAt.cons (fun h _ => absurd (all_at hI.out.1 0 (by decide)) (by rw [show L 0 = false from h]; decide)) (EachAt.cons (fun h _ => absurd (all_at hI.out.1 1 (by decide)) (by rw [show L 1 = false from h]; decide)) (EachAt.cons (fun h _ => absurd (all_at hI.out.1 2 (by decide)) (by rw [show L 2 = false from h]; decide)) (EachAt.cons (fun h _ => absurd (all_at hI.out.1 3 (by decide)) (by rw [show L 3 = false from h]; decide)) (EachAt.cons (fun h _ => absurd (all_at hI.out.1 4 (by decide)) (by rw [show L 4 = false from h]; decide)) (EachAt.cons (fun h _ => absurd (all_at hI.out.1 5 (by decide)) (by rw [show L 5 = false from h]; decide)) (EachAt.cons ?s6 (EachAt.cons ?s7 (EachAt.cons ?s8 (EachAt.cons ?s9 EachAt.nil))))))))))
        case s6 =>
          intro hl hw
          have D := waits hw
          replace hl : L 6 = false := hl
          clear hw
          refine wpOp_shut (o := _) rfl (fun KK hKK => ?_)
          obtain ⟨hP, h6, h7, hV, hB⟩ := hI.out
          have hz : N0 ≤ w.heap.size := hN ▸ hB.size
          clear D hl
          go_simp
          (go_at_call 10; refine (HP.out.go _).mono ?_; rintro e w9 ⟨rfl, hb⟩)
          exact hKK.out _ _ ⟨p8, _, v51, q8, rfl, all_setL 6 hP, fun _ => rfl, setL_un (show 7 ≠ 6 by decide) h7, (hV.below hb).step (by simp [nums]), hB.trans (hb.mono hz)⟩
        case s7 =>
          intro hl hw
          have D := waits hw
          replace hl : L 7 = false := hl
          clear hw
          refine wpOp_shut (o := _) rfl (fun KK hKK => ?_)
          obtain ⟨hP, h6, h7, hV, hB⟩ := hI.out
          have hz : N0 ≤ w.heap.size := hN ▸ hB.size
          obtain rfl := h6 (D 6 (by decide))
          clear D hl
          go_simp
          (go_at_call 9; refine (HTr.out.go _).mono ?_; rintro e w9 ⟨rfl, hb⟩)
          exact hKK.out _ _ ⟨p8, _, _, q8, rfl, all_setL 7 hP, setL_un (show 6 ≠ 7 by decide) h6, fun _ => rfl, (hV.below hb).step (by simp [nums]), hB.trans (hb.mono hz)⟩
        case s8 =>
          intro hl hw
          have D := waits hw
          replace hl : L 8 = false := hl
          clear hw
          refine wpOp_shut (o := _) rfl (fun KK hKK => ?_)
          obtain ⟨hP, h6, h7, hV, hB⟩ := hI.out
          have hz : N0 ≤ w.heap.size := hN ▸ hB.size
          clear D
          go_simp
          exact hKK.out _ _ ⟨_, v50, v51, _, rfl, all_setL 8 hP, setL_un (show 6 ≠ 8 by decide) h6, setL_un (show 7 ≠ 8 by decide) h7, Vas.laid (l1 := []) (l2 := []) hV hl hz (by simp [nums]), hB.alloc hz _⟩
        case s9 =>
          intro hl hw
          have D := waits hw
          replace hl : L 9 = false := hl
          clear hw
          refine wpOp_shut (o := _) rfl (fun KK hKK => ?_)
          obtain ⟨hP, h6, h7, hV, hB⟩ := hI.out
          have hz : N0 ≤ w.heap.size := hN ▸ hB.size
          have e9 : p8 = .pointer (some ⟨q8, 0, none⟩) := (hV.ok ⟨8, 9, q8, p8, T⟩ (by simp)).ptr (D 8 (by decide))
          obtain rfl := h7 (D 7 (by decide))
          subst e9
          obtain ⟨c, hE, _⟩ := (hV.ok ⟨8, 9, q8, .pointer (some ⟨q8, 0, none⟩), T⟩ (by simp)).room (D 8 (by decide))
          have hlow : N0 ≤ q8 := (hV.ok ⟨8, 9, q8, .pointer (some ⟨q8, 0, none⟩), T⟩ (by simp)).low (D 8 (by decide))
          obtain ⟨⟨e1, e0⟩, f1, f0⟩ := hE
          dsimp only at e1 e0 f1 f0
          have D8 := D 8 (by decide)
          clear D hl
          go_simp
          exact hKK.out _ _ ⟨_, v50, _, q8, rfl, all_setL 9 hP, setL_un (show 6 ≠ 9 by decide) h6, setL_un (show 7 ≠ 9 by decide) h7, Vas.fill (l1 := []) (l2 := []) (x := ⟨8, 9, q8, .pointer (some ⟨q8, 0, none⟩), T⟩) hV D8 (fun y hy => by simp at hy) (by simp [nums]), (hB.setCell hlow _).setCell hlow _⟩
      case done =>
        rintro L ac w ⟨p8, v50, v51, q8, rfl, hI⟩ hAll
        obtain ⟨hP, h6, h7, hV, hB⟩ := hI.out
        clear hI hP
        have ep8 : p8 = .pointer (some ⟨q8, 0, none⟩) := (hV.ok ⟨8, 9, q8, p8, T⟩ (by simp)).ptr (hAll 8 (by decide))
        have Eq8 : El w q8 T.1 T.2 := (hV.ok ⟨8, 9, q8, p8, T⟩ (by simp)).el (hAll 9 (by decide))
        obtain rfl := h6 (hAll 6 (by decide))
        obtain rfl := h7 (hAll 7 (by decide))
        subst ep8
        clear h6 h7 hV hAll hHeld
        refine NoPanic.normal ?_
        have K : Hid (Kd W w b6 a g D ∧ El w q8 T.1 T.2) := ⟨KK0.out.below (hN ▸ hB), Eq8⟩
        clear EE Eq8 hB hN KK0 HP HTr
        obtain ⟨y1, y0⟩ := K.out.1.x
        obtain ⟨z1, z0⟩ := K.out.2
        cases b
        · have hT := HTb.out
          clear HTb
          obtain rfl : T = (0, 0) := hT
          replace z1 : w.cell? ⟨q8, 0, none⟩ = some (.int .u64 0) := z1
          replace z0 : w.cell? ⟨q8, 1, none⟩ = some (.int .u64 0) := z0
          go_upto_region 13 with fail
          go_region_held3 (fun w => w.cell? ⟨b6, 0, none⟩ = some (.int .u64 (a.1 : Int)) ∧ w.cell? ⟨b6, 1, none⟩ = some (.int .u64 (a.2 : Int)) ∧ w.cell? ⟨q8, 0, none⟩ = some (.int .u64 0) ∧ w.cell? ⟨q8, 1, none⟩ = some (.int .u64 0)) (go_keep) (first | (go_at_call 11; refine (HH.out.go _).mono ?_; rintro e w' ⟨rfl, hb'⟩; have K'' : Hid (Kd W w' b6 a g D ∧ El w' q8 (0, 0).1 (0, 0).2) := (by first | exact ⟨K.out.1.below hb', K.out.2.below hb'⟩ | exact ⟨(K.out.1.below (Below.refl _ _).drew).below hb', (K.out.2.below (Below.refl _ _).drew).below hb'⟩); clear y1 y0 z1 z0 K hb'; have K := K''; clear K''; obtain ⟨y1, y0⟩ := K.out.1.x; obtain ⟨z1, z0⟩ := K.out.2; replace z1 : w'.cell? ⟨q8, 0, none⟩ = some (.int .u64 0) := z1; replace z0 : w'.cell? ⟨q8, 1, none⟩ = some (.int .u64 0) := z0))
          all_goals
            go_wp2
            exact ⟨⟨i + 1, hlt, by simp, K.out.1⟩, by simp [intOf]; omega⟩
        · have hT := HTb.out
          clear HTb
          obtain rfl : T = (0, 1) := hT
          replace z1 : w.cell? ⟨q8, 0, none⟩ = some (.int .u64 0) := z1
          replace z0 : w.cell? ⟨q8, 1, none⟩ = some (.int .u64 1) := z0
          go_upto_region 13 with fail
          go_region_held3 (fun w => w.cell? ⟨b6, 0, none⟩ = some (.int .u64 (a.1 : Int)) ∧ w.cell? ⟨b6, 1, none⟩ = some (.int .u64 (a.2 : Int)) ∧ w.cell? ⟨q8, 0, none⟩ = some (.int .u64 0) ∧ w.cell? ⟨q8, 1, none⟩ = some (.int .u64 1)) (go_keep) (first | (go_at_call 11; refine (HH.out.go _).mono ?_; rintro e w' ⟨rfl, hb'⟩; have K'' : Hid (Kd W w' b6 a g D ∧ El w' q8 (0, 1).1 (0, 1).2) := (by first | exact ⟨K.out.1.below hb', K.out.2.below hb'⟩ | exact ⟨(K.out.1.below (Below.refl _ _).drew).below hb', (K.out.2.below (Below.refl _ _).drew).below hb'⟩); clear y1 y0 z1 z0 K hb'; have K := K''; clear K''; obtain ⟨y1, y0⟩ := K.out.1.x; obtain ⟨z1, z0⟩ := K.out.2; replace z1 : w'.cell? ⟨q8, 0, none⟩ = some (.int .u64 0) := z1; replace z0 : w'.cell? ⟨q8, 1, none⟩ = some (.int .u64 1) := z0))
          all_goals
            go_wp2
            exact ⟨⟨i + 1, hlt, by simp, K.out.1⟩, by simp [intOf]; omega⟩
    · obtain rfl : N = i := by omega
      clear HPr HTt HHa HD HC H2
      go_wp2_with (go_at_call 5; refine (HA.out.go _).mono ?_; rintro e1 w6 ⟨rfl, hb6⟩; have K6 := hidT (K0.out.below hb6); clear hb6)
      go_ret
      exact ⟨rfl, K6.out.d⟩
theorem fd_any (l : Int) (e : Nat × Nat) (le : lt2 e) : Ret 3 #[.int .i64 l, .agg #[.int .u64 (e.1 : Int), .int .u64 (e.2 : Int)]] (.bool true) := by
  by_cases h : l < 0 ∨ 7 < l
  · exact fd_no l e h
  · by_cases h5 : 5 < l
    · exact fd_far l e h5 (by omega)
    · obtain ⟨k, rfl⟩ : ∃ k : Nat, l = (k : Int) := ⟨l.toNat, by omega⟩
      exact fd_ok k (by omega) e le
end Go.Proofs.Ytjdfbjdbfncofaa

/- Arguments that are elements, or three elements, opened: their values written out, with the bounds of their words. -/
namespace Go.Proofs.Ytjdfbjdbfncofaa
open Go.ChangeShapes Go.WideShapes Go.ChangeAt Go.RowKit Go.Joins

theorem own : ownKnob Try.prog.godebug = none := by kernel_rfl
theorem laidOut : laidOutB Try.prog = true := by kernel_rfl

theorem word_nat {n : Int} (h : (Lit.int .u64 n).wf = true) : ∃ m : Nat, n = (m : Int) ∧ m < 2 ^ 64 := by
  have h2 : 0 ≤ n ∧ n < 18446744073709551616 := by
    have := h
    simp [Lit.wf] at this
    have e1 : IntKind.u64.min = 0 := by decide
    have e2 : IntKind.u64.max = 18446744073709551615 := by decide
    rw [e1, e2] at this
    omega
  exact ⟨n.toNat, by omega, by omega⟩

variable {H : Type} {enc : TypeId × Value → H} {w : World} {base : Nat} {spare : Nat → Bool} {held : Bool}

theorem elem_cells {n : Nat} {c0 c1 : Value} {y : DataW H × List MemPlace} (h : DataW.trod enc Try.prog w base spare held n 24 [c0, c1] = some y) :
    ∃ a b : Nat, c0 = .int .u64 (a : Int) ∧ c1 = .int .u64 (b : Int) ∧ a < 2 ^ 64 ∧ b < 2 ^ 64 := by
  obtain ⟨y0, y1, m, hx, _, h0, h1⟩ := trod_struct2 Try.underlying24 h
  have k0 : Try.prog.cellsOf 22 = 1 := by kernel_rfl
  simp [k0] at h0 h1
  obtain ⟨a, e0, _, w0⟩ := DataW.trod_int Try.underlying22 h0
  obtain ⟨b, e1, _, w1⟩ := DataW.trod_int Try.underlying22 h1
  obtain ⟨a', rfl, ha⟩ := word_nat w0
  obtain ⟨b', rfl, hb⟩ := word_nat w1
  simp at e0 e1
  exact ⟨a', b', e0, e1, ha, hb⟩
set_option maxRecDepth 100000 in
/-- An element by value. -/
theorem open_elem {r : Reach} {b0 : Nat} {v : Value} {d : DataW H} {p : List MemPlace} (hv : Value.okWide Try.prog w r b0 24 v) (h : DataW.Trod enc Try.prog w base spare held 24 v d p) :
    ∃ a b : Nat, v = .agg #[.int .u64 (a : Int), .int .u64 (b : Int)] ∧ a < 2 ^ 64 ∧ b < 2 ^ 64 := by
  obtain ⟨cs, rfl, hsz⟩ := okWide_struct Try.underlying24 hv
  obtain ⟨c0, c1, rfl⟩ := array2 (hsz.trans (by kernel_rfl))
  obtain ⟨fuel, hf⟩ := h
  obtain ⟨a, b, rfl, rfl, ha, hb⟩ := elem_cells (y := (d, p)) (n := fuel) (c0 := c0) (c1 := c1) (by simpa [Value.cells] using hf)
  exact ⟨a, b, rfl, ha, hb⟩
end Go.Proofs.Ytjdfbjdbfncofaa
