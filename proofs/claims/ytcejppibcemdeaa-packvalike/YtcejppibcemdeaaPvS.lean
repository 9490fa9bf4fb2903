/- The document's Times of tensors over the seat's translation. -/
import Derived.Test.YtcejppibcemdeaaPvR
namespace Go.Proofs.Ytcejppibcemdeaa
open Go.RowKit
open Cb Rg
open Tw (pm)
namespace Pv

/-- The document's Times: u rows of pairs done, and v of one more. -/
def tmf (N : Nat) (s t : List (Nat × Nat)) (u v w : Nat) : Nat × Nat := xa (xs u fun i => xs N fun j => sl (hs (pm (bv (i : Int)) (bv (j : Int))) w) (pm (el s i) (el t j))) (xs v fun j => sl (hs (pm (bv (u : Int)) (bv (j : Int))) w) (pm (el s u) (el t j)))
def tml (N : Nat) (s t : List (Nat × Nat)) (u v : Nat) : List (Nat × Nat) := (List.range N).map (tmf N s t u v)
theorem tml_len (N : Nat) (s t : List (Nat × Nat)) (u v : Nat) : (tml N s t u v).length = N := by simp [tml]
theorem tml_el (N : Nat) (s t : List (Nat × Nat)) (u v : Nat) {w : Nat} (h : w < N) : el (tml N s t u v) w = tmf N s t u v w := by simp [tml, el, List.getD, h]
theorem lt_tmf (N : Nat) (s t : List (Nat × Nat)) (u v w : Nat) : lt2 (tmf N s t u v w) := lt_xa (lt_xs (fun _ => lt_xs (fun _ => lt_sl (lt_pm _ _)) _) _) (lt_xs (fun _ => lt_sl (lt_pm _ _)) _)
theorem lt_tml (N : Nat) (s t : List (Nat × Nat)) (u v : Nat) : ltE (tml N s t u v) := ltE_of fun w hw => by
  rw [tml_len] at hw
  rw [tml_el N s t u v hw]
  exact lt_tmf N s t u v w
theorem tml_zero (N : Nat) (s t : List (Nat × Nat)) : tml N s t 0 0 = pairv N (0, 0) (0, 0) := list_ext (by rw [tml_len, pairv_len]) fun w hw => by
  rw [tml_len] at hw
  rw [tml_el N s t 0 0 hw, pairv_at N _ _ w hw]
  show xa (0, 0) (0, 0) = sl _ (0, 0)
  cases hs (0, 0) w <;> rfl
theorem tml_next (N : Nat) (s t : List (Nat × Nat)) (u : Nat) : tml N s t u N = tml N s t (u + 1) 0 := list_ext (by rw [tml_len, tml_len]) fun w hw => by
  rw [tml_len] at hw
  rw [tml_el N s t u N hw, tml_el N s t (u + 1) 0 hw]
  unfold tmf
  show _ = xa (xa _ _) (0, 0)
  rw [xa_zero]
theorem tml_same (N : Nat) (s t : List (Nat × Nat)) (u v : Nat) (h : pm (el s u) (el t v) = (0, 0)) : tml N s t u (v + 1) = tml N s t u v := list_ext (by rw [tml_len, tml_len]) fun w hw => by
  rw [tml_len] at hw
  rw [tml_el N s t u (v + 1) hw, tml_el N s t u v hw]
  unfold tmf
  show xa _ (xa _ (sl _ (pm (el s u) (el t v)))) = _
  rw [h, show sl (hs (pm (bv (u : Int)) (bv (v : Int))) w) (0, 0) = (0, 0) by cases hs (pm (bv (u : Int)) (bv (v : Int))) w <;> rfl, xa_zero]
theorem tml_add (N : Nat) (s t : List (Nat × Nat)) (u v : Nat) : tml N s t u (v + 1) = ad2 (tml N s t u v) (pairv N (pm (bv (u : Int)) (bv (v : Int))) (pm (el s u) (el t v))) := list_ext (by rw [tml_len, ad2_len, tml_len]) fun w hw => by
  rw [tml_len] at hw
  rw [tml_el N s t u (v + 1) hw, ad2_el _ _ (by rw [tml_len]; exact hw), tml_el N s t u v hw, pairv_at N _ _ w hw]
  unfold tmf
  show xa _ (xa _ (sl _ (pm (el s u) (el t v)))) = _
  rw [xa_assoc]
/-- The document's product is the program's. -/
theorem tml_all {k : Nat} (hk : k ≤ 7) (s t : List (Nat × Nat)) (hs' : s.length = 2 ^ k) (ht' : t.length = 2 ^ k) : tml (2 ^ k) s t (2 ^ k) 0 = prL k s t := list_ext (by rw [tml_len, prL_len]) fun w hw => by
  rw [tml_len] at hw
  rw [tml_el _ s t _ 0 hw, prL_el k hk s t w hs' ht' hw]
  unfold tmf
  show xa _ (0, 0) = _
  rw [xa_zero]
  rfl
set_option linter.unusedSimpArgs false in
set_option linter.unusedVariables false in
set_option maxHeartbeats 20000000 in
set_option maxRecDepth 100000 in
theorem rtimes (k : Nat) (hk : k < 8) (N : Nat) (hN : N = 2 ^ k) (g1 f1 c1 g2 f2 c2 : Nat) (s t : List (Nat × Nat)) (hs' : s.length = N) (ht' : t.length = N) (ls : ltE s) (lt : ltE t) (W : World) (rs : ERow W (some ⟨g1, f1, none⟩) s) (rt : ERow W (some ⟨g2, f2, none⟩) t) :
    Calls Try.prog 23 #[.int .i64 (k : Int), .slice (some ⟨g1, f1, none⟩) N c1, .slice (some ⟨g2, f2, none⟩) N c2] W fun e w' => ∃ g c : Nat, e = .returned (.slice (some ⟨g, 0, none⟩) N c) ∧ ERow w' (some ⟨g, 0, none⟩) (prL k s t) ∧ Below W.heap.size W w' := by
  have n1 : N ≤ 128 := by rw [hN]; exact Nat.le_trans (Nat.pow_le_pow_right (by decide) (show k ≤ 7 by omega)) (by decide)
  have n0 : 0 < N := by rw [hN]; exact Nat.two_pow_pos k
  have HZ := hidT (fun w => rpair k hk N hN (0, 0) (0, 0) lt_zero lt_zero w)
  have HPP := hidT (fun (a b : Nat × Nat) (la : lt2 a) (lb : lt2 b) w => rpair k hk N hN a b la lb w)
  have HF := hidT (show tml N s t N 0 = prL k s t from by rw [hN] at hs' ht' ⊢; exact tml_all (by omega) s t hs' ht')
  have HR := hidT (And.intro rs (And.intro rt (And.intro hs' (And.intro ht' (And.intro ls lt)))))
  have HT0 := hidT (tml_zero N s t)
  obtain ⟨W1, hW1⟩ : ∃ x, x = W.alloc (Obj.cells #[.int .u64 0, .int .u64 0] 28) := ⟨_, rfl⟩
  have D0 := hidT (show Below W.heap.size W W1 from hW1 ▸ (Below.refl _ _).alloc (Nat.le_refl _) _)
  have Z0 : El W1 W.heap.size 0 0 := hW1 ▸ (Ew.roomP W 28).toEl
  obtain ⟨B, hB⟩ : ∃ B, B = W1.heap.size := ⟨_, rfl⟩
  have EZ := hidT (fun w (hb : Below B W1 w) => show El w W.heap.size 0 0 from Z0.below (hB ▸ hb))
  have HBB := hidT (show Below B W1 W1 ∧ W.heap.size ≤ B from ⟨Below.refl _ _, hB ▸ D0.out.size⟩)
  have HBE := hidT (fun (w : World) (h : Below B W1 w) => show B ≤ w.heap.size from hB ▸ h.size)
  obtain ⟨y1, y0⟩ := Z0
  clear hN rs rt hs' ht' ls lt
  go_enter Try.func23, Try.ntmps23
  go_upto_region 2 with fail
  rw [← hW1]
  clear hW1
  go_wp2_with (go_at_call 13; refine (HZ.out _).mono ?_; rintro e w1 ⟨g, c, rfl, _, hr, _, hb⟩; have K1 := hidT (show ERow w1 (some ⟨g, 0, none⟩) (tml N s t 0 0) ∧ Below B W1 w1 from ⟨HT0.out ▸ hr, hB ▸ hb⟩); clear hr hb)
  clear hB y1 y0
  go_loopw [8, 9] (fun v u wr => ∃ (i g c : Nat), i ≤ N ∧ u = .int .i64 i ∧ v = .slice (some ⟨g, 0, none⟩) N c ∧ Hid (ERow wr (some ⟨g, 0, none⟩) (tml N s t i 0) ∧ Below B W1 wr)) (fun _ u _ => N - (intOf u).toNat)
  case atStart => exact ⟨0, g, c, Nat.zero_le _, rfl, rfl, K1⟩
  case round =>
    obtain ⟨i, g, cg, hi, rfl, rfl, O⟩ := hrel
    clear K1
    by_cases hlt : i < N
    · have i1 : (i : Int) < (N : Int) := by omega
      have i0' : (0 : Int) ≤ (i : Int) := by omega
      go_wp2_with fail
      go_loopw [8, 10] (fun v u wr => ∃ (j g c : Nat), j ≤ N ∧ u = .int .i64 j ∧ v = .slice (some ⟨g, 0, none⟩) N c ∧ Hid (ERow wr (some ⟨g, 0, none⟩) (tml N s t i j) ∧ Below B W1 wr)) (fun _ u _ => N - (intOf u).toNat)
      case atStart => exact ⟨0, g, cg, Nat.zero_le _, rfl, rfl, O⟩
      case round =>
        obtain ⟨j, g, cg, hj, rfl, rfl, O⟩ := hrel
        by_cases hjl : j < N
        · have j1 : (j : Int) < (N : Int) := by omega
          have j0' : (0 : Int) ≤ (j : Int) := by omega
          obtain ⟨b1, o1, e1, _, x1, x0⟩ := HR.out.1.cells i (by rw [HR.out.2.2.1]; exact hlt)
          obtain ⟨b2, o2, e2, _, y1, y0⟩ := HR.out.2.1.cells j (by rw [HR.out.2.2.2.1]; exact hjl)
          injection e1 with e1
          injection e1 with e1a e1b
          subst e1a
          subst e1b
          injection e2 with e2
          injection e2 with e2a e2b
          subst e2a
          subst e2b
          have CC := hidT (fun (w : World) (hw : Below B W1 w) => show w.cell? ⟨g1, f1 + i * 2, none⟩ = some (.int .u64 ((el s i).1 : Int)) ∧ w.cell? ⟨g1, f1 + i * 2 + 1, none⟩ = some (.int .u64 ((el s i).2 : Int)) ∧ w.cell? ⟨g2, f2 + j * 2, none⟩ = some (.int .u64 ((el t j).1 : Int)) ∧ w.cell? ⟨g2, f2 + j * 2 + 1, none⟩ = some (.int .u64 ((el t j).2 : Int)) from by
            have hw' : Below W.heap.size W w := D0.out.trans (hw.mono HBB.out.2)
            exact ⟨keepc hw' x1, keepc hw' x0, keepc hw' y1, keepc hw' y0⟩)
          have HM := hidT (rprod (el s i) (el t j) (ltE_el HR.out.2.2.2.2.1 i) (ltE_el HR.out.2.2.2.2.2 j))
          have HP := hidT (HPP.out (pm (bv (i : Int)) (bv (j : Int))) (pm (el s i) (el t j)) (lt_pm _ _) (lt_pm _ _))
          have BI := hidT (rbit_any (i : Int))
          have BJ := hidT (rbit_any (j : Int))
          have BP := hidT (rprod (bv (i : Int)) (bv (j : Int)) (bv_lt2 _) (bv_lt2 _))
          have HN0 := hidT (And.intro (tml_same N s t i j) (fun _ : ¬ pm (el s i) (el t j) = (0, 0) => tml_add N s t i j))
          have HAd := hidT (fun (g cg gp cp : Nat) (w : World) (h1 : ERow w (some ⟨g, 0, none⟩) (tml N s t i j)) (h2 : ERow w (some ⟨gp, 0, none⟩) (pairv N (pm (bv (i : Int)) (bv (j : Int))) (pm (el s i) (el t j)))) => rAdd_any N g 0 cg gp 0 cp (tml N s t i j) _ n0 (by omega) (tml_len _ _ _ _ _) (pairv_len _ _ _) (lt_tml _ _ _ _ _) (lt_pairv _ _ (lt_pm _ _)) w h1 h2)
          clear x1 x0 y1 y0
          generalize ad2 (tml N s t i j) (pairv N (pm (bv (i : Int)) (bv (j : Int))) (pm (el s i) (el t j))) = R2 at *
          generalize tml N s t i j = R at *
          generalize pm (el s i) (el t j) = x at *
          generalize pm (bv (i : Int)) (bv (j : Int)) = pb at *
          generalize el s i = a at *
          generalize el t j = b at *
          generalize bv (i : Int) = bi at *
          generalize bv (j : Int) = bj at *
          go_upto_region 9 with fail
          refine wp_region_noPanic ?_
          refine wp_region_held_drew (S := fun w => w.cell? ⟨g1, f1 + i * 2, none⟩ = some (.int .u64 (a.1 : Int)) ∧ w.cell? ⟨g1, f1 + i * 2 + 1, none⟩ = some (.int .u64 (a.2 : Int)) ∧ w.cell? ⟨g2, f2 + j * 2, none⟩ = some (.int .u64 (b.1 : Int)) ∧ w.cell? ⟨g2, f2 + j * 2 + 1, none⟩ = some (.int .u64 (b.2 : Int))) (by kernel_rfl) (CC.out _ O.out.2.drew) (fun hHeld => ?_)
          refine wpAnyH_take (i := 0) (oi := _) (v := ?_) rfl (by kernel_rfl) (by kernel_rfl) (by kernel_rfl) (fun _ _ _ h => h) (Or.inl ⟨by rfl, ?_⟩) (by assumption) ?_
          rotate_left
          · ((intro w hSw; (try dsimp only at hSw); go_simp) <;> (try with_reducible rfl))
          show wpAnyH _ _ _ _ _ _ _ (Act.put _ (some 28) _) _
          simp only [Act.put, List.setIfInBounds_toArray, List.set_cons_succ, List.set_cons_zero]
          refine wpAnyH_take (i := 1) (oi := _) (v := ?_) rfl (by kernel_rfl) (by kernel_rfl) (by kernel_rfl) (fun _ _ _ h => h) (Or.inl ⟨by rfl, ?_⟩) (by assumption) ?_
          rotate_left
          · ((intro w hSw; (try dsimp only at hSw); go_simp) <;> (try with_reducible rfl))
          show wpAnyH _ _ _ _ _ _ _ (Act.put _ (some 29) _) _
          simp only [Act.put, List.setIfInBounds_toArray, List.set_cons_succ, List.set_cons_zero]
          refine wpAnyH_take (i := 2) (oi := _) (v := ?_) rfl (by kernel_rfl) (by kernel_rfl) (by kernel_rfl) (fun _ _ _ h => h) (Or.inl ⟨by rfl, ?_⟩) (by assumption) ?_
          rotate_left
          · ((intro w hSw; (try dsimp only at hSw); go_simp) <;> (try with_reducible rfl))
          show wpAnyH _ _ _ _ _ _ _ (Act.put _ (some 30) _) _
          simp only [Act.put, List.setIfInBounds_toArray, List.set_cons_succ, List.set_cons_zero]
          refine wpAnyH_take (i := 3) (oi := _) (v := ?_) rfl (by kernel_rfl) (by kernel_rfl) (by kernel_rfl) (fun _ _ _ h => h) (Or.inl ⟨by rfl, ?_⟩) (by assumption) ?_
          rotate_left
          · ((intro w hSw; (try dsimp only at hSw); go_simp) <;> (try with_reducible rfl))
          show wpAnyH _ _ _ _ _ _ _ (Act.put _ (some 31) _) _
          simp only [Act.put, List.setIfInBounds_toArray, List.set_cons_succ, List.set_cons_zero]
          refine wpAnyH_take (i := 4) (oi := _) (v := ?_) rfl (by kernel_rfl) (by kernel_rfl) (by kernel_rfl) (fun _ _ _ h => h) (Or.inl ⟨by rfl, ?_⟩) (by assumption) ?_
          rotate_left
          · ((intro w hSw; (try dsimp only at hSw); go_simp) <;> (try with_reducible rfl))
          show wpAnyH _ _ _ _ _ _ _ (Act.put _ (some 32) _) _
          simp only [Act.put, List.setIfInBounds_toArray, List.set_cons_succ, List.set_cons_zero]
          refine wpAnyH_take (i := 5) (oi := _) (v := ?_) rfl (by kernel_rfl) (by kernel_rfl) (by kernel_rfl) (fun _ _ _ h => h) (Or.inl ⟨by rfl, ?_⟩) (by assumption) ?_
          rotate_left
          · ((intro w hSw; (try dsimp only at hSw); go_simp) <;> (try with_reducible rfl))
          show wpAnyH _ _ _ _ _ _ _ (Act.put _ (some 33) _) _
          simp only [Act.put, List.setIfInBounds_toArray, List.set_cons_succ, List.set_cons_zero]
          refine wpAnyH_take (i := 6) (oi := _) (v := ?_) rfl (by kernel_rfl) (by kernel_rfl) (by kernel_rfl) (fun _ _ _ h => h) (Or.inl ⟨by rfl, ?_⟩) (by assumption) ?_
          rotate_left
          · ((intro w hSw; (try dsimp only at hSw); go_simp) <;> (try with_reducible rfl))
          show wpAnyH _ _ _ _ _ _ _ (Act.put _ (some 34) _) _
          simp only [Act.put, List.setIfInBounds_toArray, List.set_cons_succ, List.set_cons_zero]
          refine wpAnyH_take (i := 7) (oi := _) (v := ?_) rfl (by kernel_rfl) (by kernel_rfl) (by kernel_rfl) (fun _ _ _ h => h) (Or.inl ⟨by rfl, ?_⟩) (by assumption) ?_
          rotate_left
          · ((intro w hSw; (try dsimp only at hSw); go_simp) <;> (try with_reducible rfl))
          show wpAnyH _ _ _ _ _ _ _ (Act.put _ (some 35) _) _
          simp only [Act.put, List.setIfInBounds_toArray, List.set_cons_succ, List.set_cons_zero]
          refine wpAnyH_ready (rs := [8, 9]) (by kernel_rfl) (by simp) ?_
          refine AllReadyH.cons (o := _) rfl (fun KK hKK => ?_) (AllReadyH.cons (o := _) rfl (fun KK hKK => ?_) AllReadyH.nil)
          ·
            go_simp
            (go_at_call 45; refine (HM.out.go _).mono ?_; rintro e w9 ⟨rfl, hb⟩)
            have K9 := hidT (show Below wr.heap.size wr w9 from (Below.refl wr.heap.size wr).drew.trans hb)
            clear hb
            refine hKK.out _ _ (CC.out _ (O.out.2.trans (K9.out.mono (HBE.out _ O.out.2)))) (fun hHeld => ?_)
            clear hKK KK
            try simp only [Act.put]
            refine wpAnyH_ready (rs := [9]) (by kernel_rfl) (by simp) ?_
            refine AllReadyH.cons (o := _) rfl (fun KK hKK => ?_) AllReadyH.nil
            go_simp
            refine hKK.out _ _ (CC.out _ (O.out.2.trans ((K9.out.alloc K9.out.size _).mono (HBE.out _ O.out.2)))) (fun hHeld => ?_)
            clear hKK KK
            try simp only [Act.put]
            refine wpAnyH_ready (rs := [10]) (by kernel_rfl) (by simp) ?_
            refine AllReadyH.cons (o := _) rfl (fun KK hKK => ?_) AllReadyH.nil
            go_simp
            refine hKK.out _ _ (CC.out _ (O.out.2.trans ((K9.out.alloc K9.out.size _).mono (HBE.out _ O.out.2)))) (fun hHeld => ?_)
            clear hKK KK
            try simp only [Act.put]
            obtain ⟨wz, hwz⟩ : ∃ z, z = w9.alloc (Obj.cells #[.int .u64 (x.1 : Int), .int .u64 (x.2 : Int)] 28) := ⟨_, rfl⟩
            rw [← hwz]
            obtain ⟨q, hq⟩ : ∃ q, q = w9.heap.size := ⟨_, rfl⟩
            have KZ := hidT (show Below wr.heap.size wr wz ∧ El wz q x.1 x.2 from ⟨hwz ▸ K9.out.alloc K9.out.size _, hq ▸ hwz ▸ El.newP w9 x _⟩)
            rw [← hq]
            clear hwz hq K9
            refine wpAnyH_done (by kernel_rfl) ?_ _
            refine NoPanic.normal ?_
            have KO := hidT (show ERow wz (some ⟨g, 0, none⟩) R ∧ Below B W1 wz from ⟨O.out.1.below KZ.out.1, O.out.2.trans (KZ.out.1.mono (HBE.out _ O.out.2))⟩)
            have KX := hidT KZ.out.2
            clear KZ O hHeld
            obtain ⟨h1, h0⟩ := KX.out
            obtain ⟨y1, y0⟩ := EZ.out _ KO.out.2
            by_cases hx : x = (0, 0)
            · have xa1 : (x.1 : Int) = 0 := by rw [hx]; rfl
              have xa2 : (x.2 : Int) = 0 := by rw [hx]; rfl
              have xa3 : x.1 = 0 := by omega
              have xa4 : x.2 = 0 := by omega
              have HN := hidT (HN0.out.1 hx)
              clear hx HN0
              go_wp2
              exact ⟨⟨j + 1, g, cg, hjl, by simp, rfl, ⟨by rw [HN.out]; exact KO.out.1, KO.out.2⟩⟩, by simp [intOf]; omega⟩
            · have HN := hidT (HN0.out.2 hx)
              clear HN0
              by_cases hx1 : x.1 = 0
              · have xa2 : ¬ (x.2 : Int) = 0 := fun h => hx (Prod.ext hx1 (by show x.2 = 0; omega))
                have xa3 : ¬ x.2 = 0 := by omega
                have xa1 : (x.1 : Int) = 0 := by omega
                clear hx
                go_upto_region 11 with fail
                clear xa1 xa2 xa3 hx1
                refine wp_region_noPanic ?_
                refine wp_region_held_drew (S := fun w => w.cell? ⟨q, 0, none⟩ = some (.int .u64 (x.1 : Int)) ∧ w.cell? ⟨q, 1, none⟩ = some (.int .u64 (x.2 : Int))) (by kernel_rfl) (by exact ⟨KX.out.drew.hi, KX.out.drew.lo⟩) (fun hHeld => ?_)
                refine wpAnyH_take (i := 0) (oi := _) (v := ?_) rfl (by kernel_rfl) (by kernel_rfl) (by kernel_rfl) (fun _ _ _ h => h) (Or.inl ⟨by rfl, ?_⟩) (by assumption) ?_
                rotate_left
                · ((intro w hSw; (try dsimp only at hSw); go_simp) <;> (try with_reducible rfl))
                show wpAnyH _ _ _ _ _ _ _ (Act.put _ (some 40) _) _
                simp only [Act.put, List.setIfInBounds_toArray, List.set_cons_succ, List.set_cons_zero]
                refine wpAnyH_take (i := 1) (oi := _) (v := ?_) rfl (by kernel_rfl) (by kernel_rfl) (by kernel_rfl) (fun _ _ _ h => h) (Or.inl ⟨by rfl, ?_⟩) (by assumption) ?_
                rotate_left
                · ((intro w hSw; (try dsimp only at hSw); go_simp) <;> (try with_reducible rfl))
                show wpAnyH _ _ _ _ _ _ _ (Act.put _ (some 41) _) _
                simp only [Act.put, List.setIfInBounds_toArray, List.set_cons_succ, List.set_cons_zero]
                refine wpAnyH_take (i := 2) (oi := _) (v := ?_) rfl (by kernel_rfl) (by kernel_rfl) (by kernel_rfl) (fun _ _ _ h => h) (Or.inl ⟨by rfl, ?_⟩) (by assumption) ?_
                rotate_left
                · ((intro w hSw; (try dsimp only at hSw); go_simp) <;> (try with_reducible rfl))
                show wpAnyH _ _ _ _ _ _ _ (Act.put _ (some 42) _) _
                simp only [Act.put, List.setIfInBounds_toArray, List.set_cons_succ, List.set_cons_zero]
                refine wpAnyH_take (i := 4) (oi := _) (v := ?_) rfl (by kernel_rfl) (by kernel_rfl) (by kernel_rfl) (fun _ _ _ h => h) (Or.inl ⟨by rfl, ?_⟩) (by assumption) ?_
                rotate_left
                · ((intro w hSw; (try dsimp only at hSw); go_simp) <;> (try with_reducible rfl))
                show wpAnyH _ _ _ _ _ _ _ (Act.put _ (some 44) _) _
                simp only [Act.put, List.setIfInBounds_toArray, List.set_cons_succ, List.set_cons_zero]
                refine wpAnyH_take (i := 7) (oi := _) (v := ?_) rfl (by kernel_rfl) (by kernel_rfl) (by kernel_rfl) (fun _ _ _ h => h) (Or.inl ⟨by rfl, ?_⟩) (by assumption) ?_
                rotate_left
                · ((intro w hSw; (try dsimp only at hSw); go_simp) <;> (try with_reducible rfl))
                show wpAnyH _ _ _ _ _ _ _ (Act.put _ (some 47) _) _
                simp only [Act.put, List.setIfInBounds_toArray, List.set_cons_succ, List.set_cons_zero]
                refine wpAnyH_ready (rs := [3]) (by kernel_rfl) (by simp) ?_
                refine AllReadyH.cons (o := _) rfl (fun KK hKK => ?_) AllReadyH.nil
                go_simp
                (go_at_call 43; refine (BI.out.go _).mono ?_; rintro e v1 ⟨rfl, hb⟩)
                have KO' := hidT (show ERow v1 (some ⟨g, 0, none⟩) R ∧ Below B W1 v1 from (by first | exact ⟨KO.out.1.below hb, KO.out.2.trans (hb.mono (HBE.out _ KO.out.2))⟩ | exact ⟨KO.out.1.drew.below hb, KO.out.2.drew.trans (hb.mono (HBE.out _ KO.out.2.drew))⟩))
                have KX' := hidT (show El v1 q x.1 x.2 from (by first | exact KX.out.below hb | exact KX.out.drew.below hb))
                clear KO KX hb
                have KO := KO'
                have KX := KX'
                clear KO' KX'
                refine hKK.out _ _ ?_ (fun hHeld => ?_)
                · exact by first | exact ⟨KX.out.hi, KX.out.lo⟩ | exact ⟨KX.out.drew.hi, KX.out.drew.lo⟩
                clear hKK KK
                try simp only [Act.put]
                refine wpAnyH_ready (rs := [5]) (by kernel_rfl) (by simp) ?_
                refine AllReadyH.cons (o := _) rfl (fun KK hKK => ?_) AllReadyH.nil
                go_simp
                (go_at_call 43; refine (BJ.out.go _).mono ?_; rintro e v2 ⟨rfl, hb⟩)
                have KO' := hidT (show ERow v2 (some ⟨g, 0, none⟩) R ∧ Below B W1 v2 from (by first | exact ⟨KO.out.1.below hb, KO.out.2.trans (hb.mono (HBE.out _ KO.out.2))⟩ | exact ⟨KO.out.1.drew.below hb, KO.out.2.drew.trans (hb.mono (HBE.out _ KO.out.2.drew))⟩))
                have KX' := hidT (show El v2 q x.1 x.2 from (by first | exact KX.out.below hb | exact KX.out.drew.below hb))
                clear KO KX hb
                have KO := KO'
                have KX := KX'
                clear KO' KX'
                refine hKK.out _ _ ?_ (fun hHeld => ?_)
                · exact by first | exact ⟨KX.out.hi, KX.out.lo⟩ | exact ⟨KX.out.drew.hi, KX.out.drew.lo⟩
                clear hKK KK
                try simp only [Act.put]
                refine wpAnyH_ready (rs := [6]) (by kernel_rfl) (by simp) ?_
                refine AllReadyH.cons (o := _) rfl (fun KK hKK => ?_) AllReadyH.nil
                go_simp
                (go_at_call 45; refine (BP.out.go _).mono ?_; rintro e v3 ⟨rfl, hb⟩)
                have KO' := hidT (show ERow v3 (some ⟨g, 0, none⟩) R ∧ Below B W1 v3 from (by first | exact ⟨KO.out.1.below hb, KO.out.2.trans (hb.mono (HBE.out _ KO.out.2))⟩ | exact ⟨KO.out.1.drew.below hb, KO.out.2.drew.trans (hb.mono (HBE.out _ KO.out.2.drew))⟩))
                have KX' := hidT (show El v3 q x.1 x.2 from (by first | exact KX.out.below hb | exact KX.out.drew.below hb))
                clear KO KX hb
                have KO := KO'
                have KX := KX'
                clear KO' KX'
                refine hKK.out _ _ ?_ (fun hHeld => ?_)
                · exact by first | exact ⟨KX.out.hi, KX.out.lo⟩ | exact ⟨KX.out.drew.hi, KX.out.drew.lo⟩
                clear hKK KK
                try simp only [Act.put]
                refine wpAnyH_ready (rs := [8]) (by kernel_rfl) (by simp) ?_
                refine AllReadyH.cons (o := _) rfl (fun KK hKK => ?_) AllReadyH.nil
                go_simp
                (go_at_call 13; refine (HP.out _).mono ?_; rintro e v4 ⟨gp, cp, rfl, _, hrp, _, hb⟩)
                have PR := hidT hrp
                clear hrp
                have KO' := hidT (show ERow v4 (some ⟨g, 0, none⟩) R ∧ Below B W1 v4 from (by first | exact ⟨KO.out.1.below hb, KO.out.2.trans (hb.mono (HBE.out _ KO.out.2))⟩ | exact ⟨KO.out.1.drew.below hb, KO.out.2.drew.trans (hb.mono (HBE.out _ KO.out.2.drew))⟩))
                have KX' := hidT (show El v4 q x.1 x.2 from (by first | exact KX.out.below hb | exact KX.out.drew.below hb))
                clear KO KX hb
                have KO := KO'
                have KX := KX'
                clear KO' KX'
                refine hKK.out _ _ ?_ (fun hHeld => ?_)
                · exact by first | exact ⟨KX.out.hi, KX.out.lo⟩ | exact ⟨KX.out.drew.hi, KX.out.drew.lo⟩
                clear hKK KK
                try simp only [Act.put]
                refine wpAnyH_ready (rs := [9]) (by kernel_rfl) (by simp) ?_
                refine AllReadyH.cons (o := _) rfl (fun KK hKK => ?_) AllReadyH.nil
                go_simp
                (go_at_call 22; refine (HAd.out g cg gp cp _ KO.out.1 PR.out).mono ?_; rintro e v5 ⟨ga, ca, rfl, hra, hb⟩)
                have K5 := hidT (show ERow v5 (some ⟨ga, 0, none⟩) R2 ∧ Below B W1 v5 from ⟨hra, KO.out.2.trans (hb.mono (HBE.out _ KO.out.2))⟩)
                have KX' := hidT (KX.out.below hb)
                clear KO KX hb hra PR
                have KX := KX'
                clear KX'
                refine hKK.out _ _ ?_ (fun hHeld => ?_)
                · exact by first | exact ⟨KX.out.hi, KX.out.lo⟩ | exact ⟨KX.out.drew.hi, KX.out.drew.lo⟩
                clear hKK KK
                try simp only [Act.put]
                refine wpAnyH_take (i := 10) (oi := _) (v := ?_) rfl (by kernel_rfl) (by kernel_rfl) (by kernel_rfl) (fun _ _ _ h => h) (Or.inl ⟨by rfl, ?_⟩) (by assumption) ?_
                rotate_left
                · ((intro w hSw; (try dsimp only at hSw); go_simp) <;> (try with_reducible rfl))
                show wpAnyH _ _ _ _ _ _ _ (Act.put _ (some 8) _) _
                simp only [Act.put, List.setIfInBounds_toArray, List.set_cons_succ, List.set_cons_zero]
                refine wpAnyH_done (by kernel_rfl) ?_ _
                refine NoPanic.normal ?_
                go_wp2
                exact ⟨⟨j + 1, ga, ca, hjl, by simp, rfl, ⟨by rw [HN.out]; exact K5.out.1, K5.out.2⟩⟩, by simp [intOf]; omega⟩
              · have xa1 : ¬ (x.1 : Int) = 0 := by omega
                clear hx
                go_upto_region 11 with fail
                clear xa1 hx1
                refine wp_region_noPanic ?_
                refine wp_region_held_drew (S := fun w => w.cell? ⟨q, 0, none⟩ = some (.int .u64 (x.1 : Int)) ∧ w.cell? ⟨q, 1, none⟩ = some (.int .u64 (x.2 : Int))) (by kernel_rfl) (by exact ⟨KX.out.drew.hi, KX.out.drew.lo⟩) (fun hHeld => ?_)
                refine wpAnyH_take (i := 0) (oi := _) (v := ?_) rfl (by kernel_rfl) (by kernel_rfl) (by kernel_rfl) (fun _ _ _ h => h) (Or.inl ⟨by rfl, ?_⟩) (by assumption) ?_
                rotate_left
                · ((intro w hSw; (try dsimp only at hSw); go_simp) <;> (try with_reducible rfl))
                show wpAnyH _ _ _ _ _ _ _ (Act.put _ (some 40) _) _
                simp only [Act.put, List.setIfInBounds_toArray, List.set_cons_succ, List.set_cons_zero]
                refine wpAnyH_take (i := 1) (oi := _) (v := ?_) rfl (by kernel_rfl) (by kernel_rfl) (by kernel_rfl) (fun _ _ _ h => h) (Or.inl ⟨by rfl, ?_⟩) (by assumption) ?_
                rotate_left
                · ((intro w hSw; (try dsimp only at hSw); go_simp) <;> (try with_reducible rfl))
                show wpAnyH _ _ _ _ _ _ _ (Act.put _ (some 41) _) _
                simp only [Act.put, List.setIfInBounds_toArray, List.set_cons_succ, List.set_cons_zero]
                refine wpAnyH_take (i := 2) (oi := _) (v := ?_) rfl (by kernel_rfl) (by kernel_rfl) (by kernel_rfl) (fun _ _ _ h => h) (Or.inl ⟨by rfl, ?_⟩) (by assumption) ?_
                rotate_left
                · ((intro w hSw; (try dsimp only at hSw); go_simp) <;> (try with_reducible rfl))
                show wpAnyH _ _ _ _ _ _ _ (Act.put _ (some 42) _) _
                simp only [Act.put, List.setIfInBounds_toArray, List.set_cons_succ, List.set_cons_zero]
                refine wpAnyH_take (i := 4) (oi := _) (v := ?_) rfl (by kernel_rfl) (by kernel_rfl) (by kernel_rfl) (fun _ _ _ h => h) (Or.inl ⟨by rfl, ?_⟩) (by assumption) ?_
                rotate_left
                · ((intro w hSw; (try dsimp only at hSw); go_simp) <;> (try with_reducible rfl))
                show wpAnyH _ _ _ _ _ _ _ (Act.put _ (some 44) _) _
                simp only [Act.put, List.setIfInBounds_toArray, List.set_cons_succ, List.set_cons_zero]
                refine wpAnyH_take (i := 7) (oi := _) (v := ?_) rfl (by kernel_rfl) (by kernel_rfl) (by kernel_rfl) (fun _ _ _ h => h) (Or.inl ⟨by rfl, ?_⟩) (by assumption) ?_
                rotate_left
                · ((intro w hSw; (try dsimp only at hSw); go_simp) <;> (try with_reducible rfl))
                show wpAnyH _ _ _ _ _ _ _ (Act.put _ (some 47) _) _
                simp only [Act.put, List.setIfInBounds_toArray, List.set_cons_succ, List.set_cons_zero]
                refine wpAnyH_ready (rs := [3]) (by kernel_rfl) (by simp) ?_
                refine AllReadyH.cons (o := _) rfl (fun KK hKK => ?_) AllReadyH.nil
                go_simp
                (go_at_call 43; refine (BI.out.go _).mono ?_; rintro e v1 ⟨rfl, hb⟩)
                have KO' := hidT (show ERow v1 (some ⟨g, 0, none⟩) R ∧ Below B W1 v1 from (by first | exact ⟨KO.out.1.below hb, KO.out.2.trans (hb.mono (HBE.out _ KO.out.2))⟩ | exact ⟨KO.out.1.drew.below hb, KO.out.2.drew.trans (hb.mono (HBE.out _ KO.out.2.drew))⟩))
                have KX' := hidT (show El v1 q x.1 x.2 from (by first | exact KX.out.below hb | exact KX.out.drew.below hb))
                clear KO KX hb
                have KO := KO'
                have KX := KX'
                clear KO' KX'
                refine hKK.out _ _ ?_ (fun hHeld => ?_)
                · exact by first | exact ⟨KX.out.hi, KX.out.lo⟩ | exact ⟨KX.out.drew.hi, KX.out.drew.lo⟩
                clear hKK KK
                try simp only [Act.put]
                refine wpAnyH_ready (rs := [5]) (by kernel_rfl) (by simp) ?_
                refine AllReadyH.cons (o := _) rfl (fun KK hKK => ?_) AllReadyH.nil
                go_simp
                (go_at_call 43; refine (BJ.out.go _).mono ?_; rintro e v2 ⟨rfl, hb⟩)
                have KO' := hidT (show ERow v2 (some ⟨g, 0, none⟩) R ∧ Below B W1 v2 from (by first | exact ⟨KO.out.1.below hb, KO.out.2.trans (hb.mono (HBE.out _ KO.out.2))⟩ | exact ⟨KO.out.1.drew.below hb, KO.out.2.drew.trans (hb.mono (HBE.out _ KO.out.2.drew))⟩))
                have KX' := hidT (show El v2 q x.1 x.2 from (by first | exact KX.out.below hb | exact KX.out.drew.below hb))
                clear KO KX hb
                have KO := KO'
                have KX := KX'
                clear KO' KX'
                refine hKK.out _ _ ?_ (fun hHeld => ?_)
                · exact by first | exact ⟨KX.out.hi, KX.out.lo⟩ | exact ⟨KX.out.drew.hi, KX.out.drew.lo⟩
                clear hKK KK
                try simp only [Act.put]
                refine wpAnyH_ready (rs := [6]) (by kernel_rfl) (by simp) ?_
                refine AllReadyH.cons (o := _) rfl (fun KK hKK => ?_) AllReadyH.nil
                go_simp
                (go_at_call 45; refine (BP.out.go _).mono ?_; rintro e v3 ⟨rfl, hb⟩)
                have KO' := hidT (show ERow v3 (some ⟨g, 0, none⟩) R ∧ Below B W1 v3 from (by first | exact ⟨KO.out.1.below hb, KO.out.2.trans (hb.mono (HBE.out _ KO.out.2))⟩ | exact ⟨KO.out.1.drew.below hb, KO.out.2.drew.trans (hb.mono (HBE.out _ KO.out.2.drew))⟩))
                have KX' := hidT (show El v3 q x.1 x.2 from (by first | exact KX.out.below hb | exact KX.out.drew.below hb))
                clear KO KX hb
                have KO := KO'
                have KX := KX'
                clear KO' KX'
                refine hKK.out _ _ ?_ (fun hHeld => ?_)
                · exact by first | exact ⟨KX.out.hi, KX.out.lo⟩ | exact ⟨KX.out.drew.hi, KX.out.drew.lo⟩
                clear hKK KK
                try simp only [Act.put]
                refine wpAnyH_ready (rs := [8]) (by kernel_rfl) (by simp) ?_
                refine AllReadyH.cons (o := _) rfl (fun KK hKK => ?_) AllReadyH.nil
                go_simp
                (go_at_call 13; refine (HP.out _).mono ?_; rintro e v4 ⟨gp, cp, rfl, _, hrp, _, hb⟩)
                have PR := hidT hrp
                clear hrp
                have KO' := hidT (show ERow v4 (some ⟨g, 0, none⟩) R ∧ Below B W1 v4 from (by first | exact ⟨KO.out.1.below hb, KO.out.2.trans (hb.mono (HBE.out _ KO.out.2))⟩ | exact ⟨KO.out.1.drew.below hb, KO.out.2.drew.trans (hb.mono (HBE.out _ KO.out.2.drew))⟩))
                have KX' := hidT (show El v4 q x.1 x.2 from (by first | exact KX.out.below hb | exact KX.out.drew.below hb))
                clear KO KX hb
                have KO := KO'
                have KX := KX'
                clear KO' KX'
                refine hKK.out _ _ ?_ (fun hHeld => ?_)
                · exact by first | exact ⟨KX.out.hi, KX.out.lo⟩ | exact ⟨KX.out.drew.hi, KX.out.drew.lo⟩
                clear hKK KK
                try simp only [Act.put]
                refine wpAnyH_ready (rs := [9]) (by kernel_rfl) (by simp) ?_
                refine AllReadyH.cons (o := _) rfl (fun KK hKK => ?_) AllReadyH.nil
                go_simp
                (go_at_call 22; refine (HAd.out g cg gp cp _ KO.out.1 PR.out).mono ?_; rintro e v5 ⟨ga, ca, rfl, hra, hb⟩)
                have K5 := hidT (show ERow v5 (some ⟨ga, 0, none⟩) R2 ∧ Below B W1 v5 from ⟨hra, KO.out.2.trans (hb.mono (HBE.out _ KO.out.2))⟩)
                have KX' := hidT (KX.out.below hb)
                clear KO KX hb hra PR
                have KX := KX'
                clear KX'
                refine hKK.out _ _ ?_ (fun hHeld => ?_)
                · exact by first | exact ⟨KX.out.hi, KX.out.lo⟩ | exact ⟨KX.out.drew.hi, KX.out.drew.lo⟩
                clear hKK KK
                try simp only [Act.put]
                refine wpAnyH_take (i := 10) (oi := _) (v := ?_) rfl (by kernel_rfl) (by kernel_rfl) (by kernel_rfl) (fun _ _ _ h => h) (Or.inl ⟨by rfl, ?_⟩) (by assumption) ?_
                rotate_left
                · ((intro w hSw; (try dsimp only at hSw); go_simp) <;> (try with_reducible rfl))
                show wpAnyH _ _ _ _ _ _ _ (Act.put _ (some 8) _) _
                simp only [Act.put, List.setIfInBounds_toArray, List.set_cons_succ, List.set_cons_zero]
                refine wpAnyH_done (by kernel_rfl) ?_ _
                refine NoPanic.normal ?_
                go_wp2
                exact ⟨⟨j + 1, ga, ca, hjl, by simp, rfl, ⟨by rw [HN.out]; exact K5.out.1, K5.out.2⟩⟩, by simp [intOf]; omega⟩
          ·
            go_simp
            refine hKK.out _ _ (CC.out _ (O.out.2.trans (((Below.refl wr.heap.size wr).alloc (Nat.le_refl _) _).drew.mono (HBE.out _ O.out.2)))) (fun hHeld => ?_)
            clear hKK KK
            try simp only [Act.put]
            obtain ⟨wA, hwA⟩ : ∃ z, z = (wr.alloc (Obj.cells #[.int .u64 0, .int .u64 0] 28)).drew := ⟨_, rfl⟩
            rw [← hwA]
            have KA := hidT (show Below wr.heap.size wr wA ∧ Ew wA wr.heap.size 0 0 from ⟨hwA ▸ ((Below.refl wr.heap.size wr).alloc (Nat.le_refl _) _).drew, hwA ▸ (Ew.roomP wr 28).below (Below.refl _ _).drew⟩)
            clear hwA
            obtain ⟨q, hq⟩ : ∃ q, q = wr.heap.size := ⟨_, rfl⟩
            rw [← hq]
            have HQ := hidT hq
            clear hq
            refine wpAnyH_ready (rs := [8]) (by kernel_rfl) (by simp) ?_
            refine AllReadyH.cons (o := _) rfl (fun KK hKK => ?_) AllReadyH.nil
            go_simp
            (go_at_call 45; refine (HM.out.go _).mono ?_; rintro e w9 ⟨rfl, hb⟩)
            have K9 := hidT (show Below wr.heap.size wr w9 ∧ Ew w9 q 0 0 from ⟨KA.out.1.trans (hb.mono KA.out.1.size), HQ.out ▸ KA.out.2.below hb⟩)
            clear hb KA
            refine hKK.out _ _ (CC.out _ (O.out.2.trans (K9.out.1.mono (HBE.out _ O.out.2)))) (fun hHeld => ?_)
            clear hKK KK
            try simp only [Act.put]
            obtain ⟨⟨e1, e0⟩, z1, z0⟩ := K9.out.2
            refine wpAnyH_ready (rs := [10]) (by kernel_rfl) (by simp) ?_
            refine AllReadyH.cons (o := _) rfl (fun KK hKK => ?_) AllReadyH.nil
            go_simp
            refine hKK.out _ _ (CC.out _ (O.out.2.trans (((K9.out.1.setCell (p := ⟨q, 0, none⟩) (Nat.le_of_eq HQ.out.symm) (.int .u64 (x.1 : Int))).setCell (p := ⟨q, 1, none⟩) (Nat.le_of_eq HQ.out.symm) (.int .u64 (x.2 : Int))).mono (HBE.out _ O.out.2)))) (fun hHeld => ?_)
            clear hKK KK
            try simp only [Act.put]
            obtain ⟨wz, hwz⟩ : ∃ z, z = (w9.setCell ⟨q, 0, none⟩ (.int .u64 (x.1 : Int))).setCell ⟨q, 1, none⟩ (.int .u64 (x.2 : Int)) := ⟨_, rfl⟩
            rw [← hwz]
            have KZ := hidT (show Below wr.heap.size wr wz ∧ El wz q x.1 x.2 from ⟨hwz ▸ (K9.out.1.setCell (Nat.le_of_eq HQ.out.symm) _).setCell (Nat.le_of_eq HQ.out.symm) _, hwz ▸ (K9.out.2.set x.1 x.2).toEl⟩)
            clear hwz HQ K9 e1 e0 z1 z0
            refine wpAnyH_done (by kernel_rfl) ?_ _
            refine NoPanic.normal ?_
            have KO := hidT (show ERow wz (some ⟨g, 0, none⟩) R ∧ Below B W1 wz from ⟨O.out.1.below KZ.out.1, O.out.2.trans (KZ.out.1.mono (HBE.out _ O.out.2))⟩)
            have KX := hidT KZ.out.2
            clear KZ O hHeld
            obtain ⟨h1, h0⟩ := KX.out
            obtain ⟨y1, y0⟩ := EZ.out _ KO.out.2
            by_cases hx : x = (0, 0)
            · have xa1 : (x.1 : Int) = 0 := by rw [hx]; rfl
              have xa2 : (x.2 : Int) = 0 := by rw [hx]; rfl
              have xa3 : x.1 = 0 := by omega
              have xa4 : x.2 = 0 := by omega
              have HN := hidT (HN0.out.1 hx)
              clear hx HN0
              go_wp2
              exact ⟨⟨j + 1, g, cg, hjl, by simp, rfl, ⟨by rw [HN.out]; exact KO.out.1, KO.out.2⟩⟩, by simp [intOf]; omega⟩
            · have HN := hidT (HN0.out.2 hx)
              clear HN0
              by_cases hx1 : x.1 = 0
              · have xa2 : ¬ (x.2 : Int) = 0 := fun h => hx (Prod.ext hx1 (by show x.2 = 0; omega))
                have xa3 : ¬ x.2 = 0 := by omega
                have xa1 : (x.1 : Int) = 0 := by omega
                clear hx
                go_upto_region 11 with fail
                clear xa1 xa2 xa3 hx1
                refine wp_region_noPanic ?_
                refine wp_region_held_drew (S := fun w => w.cell? ⟨q, 0, none⟩ = some (.int .u64 (x.1 : Int)) ∧ w.cell? ⟨q, 1, none⟩ = some (.int .u64 (x.2 : Int))) (by kernel_rfl) (by exact ⟨KX.out.drew.hi, KX.out.drew.lo⟩) (fun hHeld => ?_)
                refine wpAnyH_take (i := 0) (oi := _) (v := ?_) rfl (by kernel_rfl) (by kernel_rfl) (by kernel_rfl) (fun _ _ _ h => h) (Or.inl ⟨by rfl, ?_⟩) (by assumption) ?_
                rotate_left
                · ((intro w hSw; (try dsimp only at hSw); go_simp) <;> (try with_reducible rfl))
                show wpAnyH _ _ _ _ _ _ _ (Act.put _ (some 40) _) _
                simp only [Act.put, List.setIfInBounds_toArray, List.set_cons_succ, List.set_cons_zero]
                refine wpAnyH_take (i := 1) (oi := _) (v := ?_) rfl (by kernel_rfl) (by kernel_rfl) (by kernel_rfl) (fun _ _ _ h => h) (Or.inl ⟨by rfl, ?_⟩) (by assumption) ?_
                rotate_left
                · ((intro w hSw; (try dsimp only at hSw); go_simp) <;> (try with_reducible rfl))
                show wpAnyH _ _ _ _ _ _ _ (Act.put _ (some 41) _) _
                simp only [Act.put, List.setIfInBounds_toArray, List.set_cons_succ, List.set_cons_zero]
                refine wpAnyH_take (i := 2) (oi := _) (v := ?_) rfl (by kernel_rfl) (by kernel_rfl) (by kernel_rfl) (fun _ _ _ h => h) (Or.inl ⟨by rfl, ?_⟩) (by assumption) ?_
                rotate_left
                · ((intro w hSw; (try dsimp only at hSw); go_simp) <;> (try with_reducible rfl))
                show wpAnyH _ _ _ _ _ _ _ (Act.put _ (some 42) _) _
                simp only [Act.put, List.setIfInBounds_toArray, List.set_cons_succ, List.set_cons_zero]
                refine wpAnyH_take (i := 4) (oi := _) (v := ?_) rfl (by kernel_rfl) (by kernel_rfl) (by kernel_rfl) (fun _ _ _ h => h) (Or.inl ⟨by rfl, ?_⟩) (by assumption) ?_
                rotate_left
                · ((intro w hSw; (try dsimp only at hSw); go_simp) <;> (try with_reducible rfl))
                show wpAnyH _ _ _ _ _ _ _ (Act.put _ (some 44) _) _
                simp only [Act.put, List.setIfInBounds_toArray, List.set_cons_succ, List.set_cons_zero]
                refine wpAnyH_take (i := 7) (oi := _) (v := ?_) rfl (by kernel_rfl) (by kernel_rfl) (by kernel_rfl) (fun _ _ _ h => h) (Or.inl ⟨by rfl, ?_⟩) (by assumption) ?_
                rotate_left
                · ((intro w hSw; (try dsimp only at hSw); go_simp) <;> (try with_reducible rfl))
                show wpAnyH _ _ _ _ _ _ _ (Act.put _ (some 47) _) _
                simp only [Act.put, List.setIfInBounds_toArray, List.set_cons_succ, List.set_cons_zero]
                refine wpAnyH_ready (rs := [3]) (by kernel_rfl) (by simp) ?_
                refine AllReadyH.cons (o := _) rfl (fun KK hKK => ?_) AllReadyH.nil
                go_simp
                (go_at_call 43; refine (BI.out.go _).mono ?_; rintro e v1 ⟨rfl, hb⟩)
                have KO' := hidT (show ERow v1 (some ⟨g, 0, none⟩) R ∧ Below B W1 v1 from (by first | exact ⟨KO.out.1.below hb, KO.out.2.trans (hb.mono (HBE.out _ KO.out.2))⟩ | exact ⟨KO.out.1.drew.below hb, KO.out.2.drew.trans (hb.mono (HBE.out _ KO.out.2.drew))⟩))
                have KX' := hidT (show El v1 q x.1 x.2 from (by first | exact KX.out.below hb | exact KX.out.drew.below hb))
                clear KO KX hb
                have KO := KO'
                have KX := KX'
                clear KO' KX'
                refine hKK.out _ _ ?_ (fun hHeld => ?_)
                · exact by first | exact ⟨KX.out.hi, KX.out.lo⟩ | exact ⟨KX.out.drew.hi, KX.out.drew.lo⟩
                clear hKK KK
                try simp only [Act.put]
                refine wpAnyH_ready (rs := [5]) (by kernel_rfl) (by simp) ?_
                refine AllReadyH.cons (o := _) rfl (fun KK hKK => ?_) AllReadyH.nil
                go_simp
                (go_at_call 43; refine (BJ.out.go _).mono ?_; rintro e v2 ⟨rfl, hb⟩)
                have KO' := hidT (show ERow v2 (some ⟨g, 0, none⟩) R ∧ Below B W1 v2 from (by first | exact ⟨KO.out.1.below hb, KO.out.2.trans (hb.mono (HBE.out _ KO.out.2))⟩ | exact ⟨KO.out.1.drew.below hb, KO.out.2.drew.trans (hb.mono (HBE.out _ KO.out.2.drew))⟩))
                have KX' := hidT (show El v2 q x.1 x.2 from (by first | exact KX.out.below hb | exact KX.out.drew.below hb))
                clear KO KX hb
                have KO := KO'
                have KX := KX'
                clear KO' KX'
                refine hKK.out _ _ ?_ (fun hHeld => ?_)
                · exact by first | exact ⟨KX.out.hi, KX.out.lo⟩ | exact ⟨KX.out.drew.hi, KX.out.drew.lo⟩
                clear hKK KK
                try simp only [Act.put]
                refine wpAnyH_ready (rs := [6]) (by kernel_rfl) (by simp) ?_
                refine AllReadyH.cons (o := _) rfl (fun KK hKK => ?_) AllReadyH.nil
                go_simp
                (go_at_call 45; refine (BP.out.go _).mono ?_; rintro e v3 ⟨rfl, hb⟩)
                have KO' := hidT (show ERow v3 (some ⟨g, 0, none⟩) R ∧ Below B W1 v3 from (by first | exact ⟨KO.out.1.below hb, KO.out.2.trans (hb.mono (HBE.out _ KO.out.2))⟩ | exact ⟨KO.out.1.drew.below hb, KO.out.2.drew.trans (hb.mono (HBE.out _ KO.out.2.drew))⟩))
                have KX' := hidT (show El v3 q x.1 x.2 from (by first | exact KX.out.below hb | exact KX.out.drew.below hb))
                clear KO KX hb
                have KO := KO'
                have KX := KX'
                clear KO' KX'
                refine hKK.out _ _ ?_ (fun hHeld => ?_)
                · exact by first | exact ⟨KX.out.hi, KX.out.lo⟩ | exact ⟨KX.out.drew.hi, KX.out.drew.lo⟩
                clear hKK KK
                try simp only [Act.put]
                refine wpAnyH_ready (rs := [8]) (by kernel_rfl) (by simp) ?_
                refine AllReadyH.cons (o := _) rfl (fun KK hKK => ?_) AllReadyH.nil
                go_simp
                (go_at_call 13; refine (HP.out _).mono ?_; rintro e v4 ⟨gp, cp, rfl, _, hrp, _, hb⟩)
                have PR := hidT hrp
                clear hrp
                have KO' := hidT (show ERow v4 (some ⟨g, 0, none⟩) R ∧ Below B W1 v4 from (by first | exact ⟨KO.out.1.below hb, KO.out.2.trans (hb.mono (HBE.out _ KO.out.2))⟩ | exact ⟨KO.out.1.drew.below hb, KO.out.2.drew.trans (hb.mono (HBE.out _ KO.out.2.drew))⟩))
                have KX' := hidT (show El v4 q x.1 x.2 from (by first | exact KX.out.below hb | exact KX.out.drew.below hb))
                clear KO KX hb
                have KO := KO'
                have KX := KX'
                clear KO' KX'
                refine hKK.out _ _ ?_ (fun hHeld => ?_)
                · exact by first | exact ⟨KX.out.hi, KX.out.lo⟩ | exact ⟨KX.out.drew.hi, KX.out.drew.lo⟩
                clear hKK KK
                try simp only [Act.put]
                refine wpAnyH_ready (rs := [9]) (by kernel_rfl) (by simp) ?_
                refine AllReadyH.cons (o := _) rfl (fun KK hKK => ?_) AllReadyH.nil
                go_simp
                (go_at_call 22; refine (HAd.out g cg gp cp _ KO.out.1 PR.out).mono ?_; rintro e v5 ⟨ga, ca, rfl, hra, hb⟩)
                have K5 := hidT (show ERow v5 (some ⟨ga, 0, none⟩) R2 ∧ Below B W1 v5 from ⟨hra, KO.out.2.trans (hb.mono (HBE.out _ KO.out.2))⟩)
                have KX' := hidT (KX.out.below hb)
                clear KO KX hb hra PR
                have KX := KX'
                clear KX'
                refine hKK.out _ _ ?_ (fun hHeld => ?_)
                · exact by first | exact ⟨KX.out.hi, KX.out.lo⟩ | exact ⟨KX.out.drew.hi, KX.out.drew.lo⟩
                clear hKK KK
                try simp only [Act.put]
                refine wpAnyH_take (i := 10) (oi := _) (v := ?_) rfl (by kernel_rfl) (by kernel_rfl) (by kernel_rfl) (fun _ _ _ h => h) (Or.inl ⟨by rfl, ?_⟩) (by assumption) ?_
                rotate_left
                · ((intro w hSw; (try dsimp only at hSw); go_simp) <;> (try with_reducible rfl))
                show wpAnyH _ _ _ _ _ _ _ (Act.put _ (some 8) _) _
                simp only [Act.put, List.setIfInBounds_toArray, List.set_cons_succ, List.set_cons_zero]
                refine wpAnyH_done (by kernel_rfl) ?_ _
                refine NoPanic.normal ?_
                go_wp2
                exact ⟨⟨j + 1, ga, ca, hjl, by simp, rfl, ⟨by rw [HN.out]; exact K5.out.1, K5.out.2⟩⟩, by simp [intOf]; omega⟩
              · have xa1 : ¬ (x.1 : Int) = 0 := by omega
                clear hx
                go_upto_region 11 with fail
                clear xa1 hx1
                refine wp_region_noPanic ?_
                refine wp_region_held_drew (S := fun w => w.cell? ⟨q, 0, none⟩ = some (.int .u64 (x.1 : Int)) ∧ w.cell? ⟨q, 1, none⟩ = some (.int .u64 (x.2 : Int))) (by kernel_rfl) (by exact ⟨KX.out.drew.hi, KX.out.drew.lo⟩) (fun hHeld => ?_)
                refine wpAnyH_take (i := 0) (oi := _) (v := ?_) rfl (by kernel_rfl) (by kernel_rfl) (by kernel_rfl) (fun _ _ _ h => h) (Or.inl ⟨by rfl, ?_⟩) (by assumption) ?_
                rotate_left
                · ((intro w hSw; (try dsimp only at hSw); go_simp) <;> (try with_reducible rfl))
                show wpAnyH _ _ _ _ _ _ _ (Act.put _ (some 40) _) _
                simp only [Act.put, List.setIfInBounds_toArray, List.set_cons_succ, List.set_cons_zero]
                refine wpAnyH_take (i := 1) (oi := _) (v := ?_) rfl (by kernel_rfl) (by kernel_rfl) (by kernel_rfl) (fun _ _ _ h => h) (Or.inl ⟨by rfl, ?_⟩) (by assumption) ?_
                rotate_left
                · ((intro w hSw; (try dsimp only at hSw); go_simp) <;> (try with_reducible rfl))
                show wpAnyH _ _ _ _ _ _ _ (Act.put _ (some 41) _) _
                simp only [Act.put, List.setIfInBounds_toArray, List.set_cons_succ, List.set_cons_zero]
                refine wpAnyH_take (i := 2) (oi := _) (v := ?_) rfl (by kernel_rfl) (by kernel_rfl) (by kernel_rfl) (fun _ _ _ h => h) (Or.inl ⟨by rfl, ?_⟩) (by assumption) ?_
                rotate_left
                · ((intro w hSw; (try dsimp only at hSw); go_simp) <;> (try with_reducible rfl))
                show wpAnyH _ _ _ _ _ _ _ (Act.put _ (some 42) _) _
                simp only [Act.put, List.setIfInBounds_toArray, List.set_cons_succ, List.set_cons_zero]
                refine wpAnyH_take (i := 4) (oi := _) (v := ?_) rfl (by kernel_rfl) (by kernel_rfl) (by kernel_rfl) (fun _ _ _ h => h) (Or.inl ⟨by rfl, ?_⟩) (by assumption) ?_
                rotate_left
                · ((intro w hSw; (try dsimp only at hSw); go_simp) <;> (try with_reducible rfl))
                show wpAnyH _ _ _ _ _ _ _ (Act.put _ (some 44) _) _
                simp only [Act.put, List.setIfInBounds_toArray, List.set_cons_succ, List.set_cons_zero]
                refine wpAnyH_take (i := 7) (oi := _) (v := ?_) rfl (by kernel_rfl) (by kernel_rfl) (by kernel_rfl) (fun _ _ _ h => h) (Or.inl ⟨by rfl, ?_⟩) (by assumption) ?_
                rotate_left
                · ((intro w hSw; (try dsimp only at hSw); go_simp) <;> (try with_reducible rfl))
                show wpAnyH _ _ _ _ _ _ _ (Act.put _ (some 47) _) _
                simp only [Act.put, List.setIfInBounds_toArray, List.set_cons_succ, List.set_cons_zero]
                refine wpAnyH_ready (rs := [3]) (by kernel_rfl) (by simp) ?_
                refine AllReadyH.cons (o := _) rfl (fun KK hKK => ?_) AllReadyH.nil
                go_simp
                (go_at_call 43; refine (BI.out.go _).mono ?_; rintro e v1 ⟨rfl, hb⟩)
                have KO' := hidT (show ERow v1 (some ⟨g, 0, none⟩) R ∧ Below B W1 v1 from (by first | exact ⟨KO.out.1.below hb, KO.out.2.trans (hb.mono (HBE.out _ KO.out.2))⟩ | exact ⟨KO.out.1.drew.below hb, KO.out.2.drew.trans (hb.mono (HBE.out _ KO.out.2.drew))⟩))
                have KX' := hidT (show El v1 q x.1 x.2 from (by first | exact KX.out.below hb | exact KX.out.drew.below hb))
                clear KO KX hb
                have KO := KO'
                have KX := KX'
                clear KO' KX'
                refine hKK.out _ _ ?_ (fun hHeld => ?_)
                · exact by first | exact ⟨KX.out.hi, KX.out.lo⟩ | exact ⟨KX.out.drew.hi, KX.out.drew.lo⟩
                clear hKK KK
                try simp only [Act.put]
                refine wpAnyH_ready (rs := [5]) (by kernel_rfl) (by simp) ?_
                refine AllReadyH.cons (o := _) rfl (fun KK hKK => ?_) AllReadyH.nil
                go_simp
                (go_at_call 43; refine (BJ.out.go _).mono ?_; rintro e v2 ⟨rfl, hb⟩)
                have KO' := hidT (show ERow v2 (some ⟨g, 0, none⟩) R ∧ Below B W1 v2 from (by first | exact ⟨KO.out.1.below hb, KO.out.2.trans (hb.mono (HBE.out _ KO.out.2))⟩ | exact ⟨KO.out.1.drew.below hb, KO.out.2.drew.trans (hb.mono (HBE.out _ KO.out.2.drew))⟩))
                have KX' := hidT (show El v2 q x.1 x.2 from (by first | exact KX.out.below hb | exact KX.out.drew.below hb))
                clear KO KX hb
                have KO := KO'
                have KX := KX'
                clear KO' KX'
                refine hKK.out _ _ ?_ (fun hHeld => ?_)
                · exact by first | exact ⟨KX.out.hi, KX.out.lo⟩ | exact ⟨KX.out.drew.hi, KX.out.drew.lo⟩
                clear hKK KK
                try simp only [Act.put]
                refine wpAnyH_ready (rs := [6]) (by kernel_rfl) (by simp) ?_
                refine AllReadyH.cons (o := _) rfl (fun KK hKK => ?_) AllReadyH.nil
                go_simp
                (go_at_call 45; refine (BP.out.go _).mono ?_; rintro e v3 ⟨rfl, hb⟩)
                have KO' := hidT (show ERow v3 (some ⟨g, 0, none⟩) R ∧ Below B W1 v3 from (by first | exact ⟨KO.out.1.below hb, KO.out.2.trans (hb.mono (HBE.out _ KO.out.2))⟩ | exact ⟨KO.out.1.drew.below hb, KO.out.2.drew.trans (hb.mono (HBE.out _ KO.out.2.drew))⟩))
                have KX' := hidT (show El v3 q x.1 x.2 from (by first | exact KX.out.below hb | exact KX.out.drew.below hb))
                clear KO KX hb
                have KO := KO'
                have KX := KX'
                clear KO' KX'
                refine hKK.out _ _ ?_ (fun hHeld => ?_)
                · exact by first | exact ⟨KX.out.hi, KX.out.lo⟩ | exact ⟨KX.out.drew.hi, KX.out.drew.lo⟩
                clear hKK KK
                try simp only [Act.put]
                refine wpAnyH_ready (rs := [8]) (by kernel_rfl) (by simp) ?_
                refine AllReadyH.cons (o := _) rfl (fun KK hKK => ?_) AllReadyH.nil
                go_simp
                (go_at_call 13; refine (HP.out _).mono ?_; rintro e v4 ⟨gp, cp, rfl, _, hrp, _, hb⟩)
                have PR := hidT hrp
                clear hrp
                have KO' := hidT (show ERow v4 (some ⟨g, 0, none⟩) R ∧ Below B W1 v4 from (by first | exact ⟨KO.out.1.below hb, KO.out.2.trans (hb.mono (HBE.out _ KO.out.2))⟩ | exact ⟨KO.out.1.drew.below hb, KO.out.2.drew.trans (hb.mono (HBE.out _ KO.out.2.drew))⟩))
                have KX' := hidT (show El v4 q x.1 x.2 from (by first | exact KX.out.below hb | exact KX.out.drew.below hb))
                clear KO KX hb
                have KO := KO'
                have KX := KX'
                clear KO' KX'
                refine hKK.out _ _ ?_ (fun hHeld => ?_)
                · exact by first | exact ⟨KX.out.hi, KX.out.lo⟩ | exact ⟨KX.out.drew.hi, KX.out.drew.lo⟩
                clear hKK KK
                try simp only [Act.put]
                refine wpAnyH_ready (rs := [9]) (by kernel_rfl) (by simp) ?_
                refine AllReadyH.cons (o := _) rfl (fun KK hKK => ?_) AllReadyH.nil
                go_simp
                (go_at_call 22; refine (HAd.out g cg gp cp _ KO.out.1 PR.out).mono ?_; rintro e v5 ⟨ga, ca, rfl, hra, hb⟩)
                have K5 := hidT (show ERow v5 (some ⟨ga, 0, none⟩) R2 ∧ Below B W1 v5 from ⟨hra, KO.out.2.trans (hb.mono (HBE.out _ KO.out.2))⟩)
                have KX' := hidT (KX.out.below hb)
                clear KO KX hb hra PR
                have KX := KX'
                clear KX'
                refine hKK.out _ _ ?_ (fun hHeld => ?_)
                · exact by first | exact ⟨KX.out.hi, KX.out.lo⟩ | exact ⟨KX.out.drew.hi, KX.out.drew.lo⟩
                clear hKK KK
                try simp only [Act.put]
                refine wpAnyH_take (i := 10) (oi := _) (v := ?_) rfl (by kernel_rfl) (by kernel_rfl) (by kernel_rfl) (fun _ _ _ h => h) (Or.inl ⟨by rfl, ?_⟩) (by assumption) ?_
                rotate_left
                · ((intro w hSw; (try dsimp only at hSw); go_simp) <;> (try with_reducible rfl))
                show wpAnyH _ _ _ _ _ _ _ (Act.put _ (some 8) _) _
                simp only [Act.put, List.setIfInBounds_toArray, List.set_cons_succ, List.set_cons_zero]
                refine wpAnyH_done (by kernel_rfl) ?_ _
                refine NoPanic.normal ?_
                go_wp2
                exact ⟨⟨j + 1, ga, ca, hjl, by simp, rfl, ⟨by rw [HN.out]; exact K5.out.1, K5.out.2⟩⟩, by simp [intOf]; omega⟩
        · obtain rfl : j = N := by omega
          have K6 := hidT (show ERow wr (some ⟨g, 0, none⟩) (tml j s t (i + 1) 0) ∧ Below B W1 wr from ⟨tml_next j s t i ▸ O.out.1, O.out.2⟩)
          clear O
          go_wp2
          exact ⟨⟨i + 1, g, cg, hlt, by simp, rfl, K6⟩, by simp [intOf]; omega⟩
    · obtain rfl : i = N := by omega
      have K6 := hidT (show ERow wr (some ⟨g, 0, none⟩) (prL k s t) ∧ Below W.heap.size W wr from ⟨HF.out ▸ O.out.1, D0.out.trans (O.out.2.mono HBB.out.2)⟩)
      clear O
      go_wp2
      go_ret
      exact ⟨g, cg, rfl, K6.out.1, K6.out.2⟩
end Pv
end Go.Proofs.Ytcejppibcemdeaa
