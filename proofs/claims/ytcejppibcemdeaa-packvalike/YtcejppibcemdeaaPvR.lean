/- The document's Add and Turned of tensors over the seat's translation. -/
import Derived.Test.YtcejppibcemdeaaPvK
import Derived.Test.YtcejppibcemdeaaPvQ
import Derived.Deep.AppendLies
namespace Go.Proofs.Ytcejppibcemdeaa
open Go.RowKit
open Cb Rg
open Tw (pm)
namespace Pv

/-- Two lists, added place by place. -/
def ad2 (s t : List (Nat × Nat)) : List (Nat × Nat) := (List.range s.length).map fun u => xa (el s u) (el t u)
theorem ad2_len (s t : List (Nat × Nat)) : (ad2 s t).length = s.length := by simp [ad2]
theorem ad2_el (s t : List (Nat × Nat)) {u : Nat} (h : u < s.length) : el (ad2 s t) u = xa (el s u) (el t u) := by simp [ad2, el, List.getD, h]
theorem lt_ad2 {s t : List (Nat × Nat)} (h1 : ltE s) (h2 : ltE t) : ltE (ad2 s t) := ltE_of fun i hi => by
  rw [ad2_len] at hi
  rw [ad2_el s t hi]
  exact lt_xa (ltE_el h1 i) (ltE_el h2 i)
def adp (s t : List (Nat × Nat)) (i : Nat) : List (Nat × Nat) := (List.range i).map fun u => xa (el s u) (el t u)
theorem adp_succ (s t : List (Nat × Nat)) (i : Nat) : adp s t (i + 1) = adp s t i ++ [xa (el s i) (el t i)] := by simp [adp, List.range_succ]
set_option linter.unusedSimpArgs false in
set_option linter.unusedVariables false in
set_option maxHeartbeats 8000000 in
set_option maxRecDepth 100000 in
theorem rAdd_any (n g1 f1 c1 g2 f2 c2 : Nat) (s t : List (Nat × Nat)) (n0 : 0 < n) (n1 : n ≤ 1000) (hs : s.length = n) (ht : t.length = n) (ls : ltE s) (lt : ltE t) (W : World) (rs : ERow W (some ⟨g1, f1, none⟩) s) (rt : ERow W (some ⟨g2, f2, none⟩) t) :
    Calls Try.prog 22 #[.slice (some ⟨g1, f1, none⟩) n c1, .slice (some ⟨g2, f2, none⟩) n c2] W fun e w' => ∃ g c : Nat, e = .returned (.slice (some ⟨g, 0, none⟩) n c) ∧ ERow w' (some ⟨g, 0, none⟩) (ad2 s t) ∧ Below W.heap.size W w' := by
  obtain ⟨i0, hi, hz0, hz1, hz2⟩ := info_relem
  have HI := hidT (show Try.prog.info? 28 = some i0 ∧ i0.zero = some (.agg #[.int .u64 0, .int .u64 0]) ∧ i0.size = 2 ∧ i0.bytes = 16 from ⟨hi, hz0, hz1, hz2⟩)
  have HR := hidT (And.intro rs (And.intro rt (And.intro hs (And.intro ht (And.intro ls lt)))))
  clear hi hz0 hz1 hz2 rs rt hs ht ls lt
  go_enter Try.func22, Try.ntmps22
  go_wp2_with fail
  go_loopw [5, 6] (fun v u wr => ∃ i : Nat, i ≤ n ∧ u = .int .i64 i ∧ Hid (wr.ownsRow W.heap.size 28 2 v i (flat (adp s t i)) ∧ Below W.heap.size W wr)) (fun _ u _ => n - (intOf u).toNat)
  case atStart => exact ⟨0, Nat.zero_le _, rfl, ⟨by simp [flat, adp], .inl ⟨rfl, rfl⟩⟩, Below.refl _ _⟩
  case round =>
    obtain ⟨i, hi, rfl, O⟩ := hrel
    by_cases hlt : i < n
    · have i1 : (i : Int) < (n : Int) := by omega
      have i0' : (0 : Int) ≤ (i : Int) := by omega
      obtain ⟨b1, o1, e1, _, x1, x0⟩ := HR.out.1.cells i (by rw [HR.out.2.2.1]; exact hlt)
      obtain ⟨b2, o2, e2, _, y1, y0⟩ := HR.out.2.1.cells i (by rw [HR.out.2.2.2.1]; exact hlt)
      injection e1 with e1
      injection e1 with e1a e1b
      subst e1a
      subst e1b
      injection e2 with e2
      injection e2 with e2a e2b
      subst e2a
      subst e2b
      have CC := hidT (fun (w : World) (hw : Below W.heap.size W w) => show w.cell? ⟨g1, f1 + i * 2, none⟩ = some (.int .u64 ((el s i).1 : Int)) ∧ w.cell? ⟨g1, f1 + i * 2 + 1, none⟩ = some (.int .u64 ((el s i).2 : Int)) ∧ w.cell? ⟨g2, f2 + i * 2, none⟩ = some (.int .u64 ((el t i).1 : Int)) ∧ w.cell? ⟨g2, f2 + i * 2 + 1, none⟩ = some (.int .u64 ((el t i).2 : Int)) from ⟨keepc hw x1, keepc hw x0, keepc hw y1, keepc hw y0⟩)
      have HA := hidT (rsum (el s i) (el t i) (ltE_el HR.out.2.2.2.2.1 i) (ltE_el HR.out.2.2.2.2.2 i))
      have HN := hidT (adp_succ s t i)
      clear x1 x0 y1 y0
      generalize adp s t i = R at *
      generalize xa (el s i) (el t i) = z at *
      generalize el s i = x at *
      generalize el t i = y at *
      go_upto_region 5 with fail
      refine wp_region_noPanic ?_
      refine wp_region_held_drew (S := fun w => w.cell? ⟨g1, f1 + i * 2, none⟩ = some (.int .u64 (x.1 : Int)) ∧ w.cell? ⟨g1, f1 + i * 2 + 1, none⟩ = some (.int .u64 (x.2 : Int)) ∧ w.cell? ⟨g2, f2 + i * 2, none⟩ = some (.int .u64 (y.1 : Int)) ∧ w.cell? ⟨g2, f2 + i * 2 + 1, none⟩ = some (.int .u64 (y.2 : Int))) (by kernel_rfl) (CC.out _ O.out.2.drew) (fun hHeld => ?_)
      refine wpAnyH_take (i := 0) (oi := _) (v := ?_) rfl (by kernel_rfl) (by kernel_rfl) (by kernel_rfl) (fun _ _ _ h => h) (Or.inl ⟨by rfl, ?_⟩) (by assumption) ?_
      rotate_left
      · ((intro w hSw; (try dsimp only at hSw); go_simp) <;> (try with_reducible rfl))
      show wpAnyH _ _ _ _ _ _ _ (Act.put _ (some 13) _) _
      simp only [Act.put, List.setIfInBounds_toArray, List.set_cons_succ, List.set_cons_zero]
      refine wpAnyH_take (i := 1) (oi := _) (v := ?_) rfl (by kernel_rfl) (by kernel_rfl) (by kernel_rfl) (fun _ _ _ h => h) (Or.inl ⟨by rfl, ?_⟩) (by assumption) ?_
      rotate_left
      · ((intro w hSw; (try dsimp only at hSw); go_simp) <;> (try with_reducible rfl))
      show wpAnyH _ _ _ _ _ _ _ (Act.put _ (some 14) _) _
      simp only [Act.put, List.setIfInBounds_toArray, List.set_cons_succ, List.set_cons_zero]
      refine wpAnyH_take (i := 2) (oi := _) (v := ?_) rfl (by kernel_rfl) (by kernel_rfl) (by kernel_rfl) (fun _ _ _ h => h) (Or.inl ⟨by rfl, ?_⟩) (by assumption) ?_
      rotate_left
      · ((intro w hSw; (try dsimp only at hSw); go_simp) <;> (try with_reducible rfl))
      show wpAnyH _ _ _ _ _ _ _ (Act.put _ (some 15) _) _
      simp only [Act.put, List.setIfInBounds_toArray, List.set_cons_succ, List.set_cons_zero]
      refine wpAnyH_take (i := 3) (oi := _) (v := ?_) rfl (by kernel_rfl) (by kernel_rfl) (by kernel_rfl) (fun _ _ _ h => h) (Or.inl ⟨by rfl, ?_⟩) (by assumption) ?_
      rotate_left
      · ((intro w hSw; (try dsimp only at hSw); go_simp) <;> (try with_reducible rfl))
      show wpAnyH _ _ _ _ _ _ _ (Act.put _ (some 16) _) _
      simp only [Act.put, List.setIfInBounds_toArray, List.set_cons_succ, List.set_cons_zero]
      refine wpAnyH_take (i := 4) (oi := _) (v := ?_) rfl (by kernel_rfl) (by kernel_rfl) (by kernel_rfl) (fun _ _ _ h => h) (Or.inl ⟨by rfl, ?_⟩) (by assumption) ?_
      rotate_left
      · ((intro w hSw; (try dsimp only at hSw); go_simp) <;> (try with_reducible rfl))
      show wpAnyH _ _ _ _ _ _ _ (Act.put _ (some 17) _) _
      simp only [Act.put, List.setIfInBounds_toArray, List.set_cons_succ, List.set_cons_zero]
      refine wpAnyH_take (i := 5) (oi := _) (v := ?_) rfl (by kernel_rfl) (by kernel_rfl) (by kernel_rfl) (fun _ _ _ h => h) (Or.inl ⟨by rfl, ?_⟩) (by assumption) ?_
      rotate_left
      · ((intro w hSw; (try dsimp only at hSw); go_simp) <;> (try with_reducible rfl))
      show wpAnyH _ _ _ _ _ _ _ (Act.put _ (some 18) _) _
      simp only [Act.put, List.setIfInBounds_toArray, List.set_cons_succ, List.set_cons_zero]
      refine wpAnyH_take (i := 6) (oi := _) (v := ?_) rfl (by kernel_rfl) (by kernel_rfl) (by kernel_rfl) (fun _ _ _ h => h) (Or.inl ⟨by rfl, ?_⟩) (by assumption) ?_
      rotate_left
      · ((intro w hSw; (try dsimp only at hSw); go_simp) <;> (try with_reducible rfl))
      show wpAnyH _ _ _ _ _ _ _ (Act.put _ (some 19) _) _
      simp only [Act.put, List.setIfInBounds_toArray, List.set_cons_succ, List.set_cons_zero]
      refine wpAnyH_take (i := 7) (oi := _) (v := ?_) rfl (by kernel_rfl) (by kernel_rfl) (by kernel_rfl) (fun _ _ _ h => h) (Or.inl ⟨by rfl, ?_⟩) (by assumption) ?_
      rotate_left
      · ((intro w hSw; (try dsimp only at hSw); go_simp) <;> (try with_reducible rfl))
      show wpAnyH _ _ _ _ _ _ _ (Act.put _ (some 20) _) _
      simp only [Act.put, List.setIfInBounds_toArray, List.set_cons_succ, List.set_cons_zero]
      refine wpAnyH_take (i := 8) (oi := _) (v := ?_) rfl (by kernel_rfl) (by kernel_rfl) (by kernel_rfl) (fun _ _ _ h => h) (Or.inl ⟨by rfl, ?_⟩) (by assumption) ?_
      rotate_left
      · ((intro w hSw; (try dsimp only at hSw); go_simp) <;> (try with_reducible rfl))
      show wpAnyH _ _ _ _ _ _ _ (Act.put _ (some 21) _) _
      simp only [Act.put, List.setIfInBounds_toArray, List.set_cons_succ, List.set_cons_zero]
      refine wpAnyH_ready (rs := [9]) (by kernel_rfl) (by simp) ?_
      refine AllReadyH.cons (o := _) rfl (fun KK hKK => ?_) AllReadyH.nil
      go_simp
      (go_at_call 44; refine (HA.out.go _).mono ?_; rintro e w9 ⟨rfl, hb⟩)
      have O' : Hid (w9.ownsRow W.heap.size 28 2 u5 i (flat (R)) ∧ Below W.heap.size W w9) := (by first | exact ⟨own_below O.out.1 hb, O.out.2.trans (hb.mono O.out.2.size)⟩ | exact ⟨own_below O.out.1.drew hb, O.out.2.drew.trans (hb.mono O.out.2.size)⟩)
      clear O hb
      have O := O'
      clear O'
      refine hKK.out _ _ ?_ (fun hHeld => ?_)
      · exact by first | exact CC.out _ O.out.2 | exact CC.out _ O.out.2.drew
      clear hKK KK
      try simp only [Act.put]
      refine wpAnyH_ready (rs := [10]) (by kernel_rfl) (by simp) ?_
      refine AllReadyH.cons (o := _) rfl (fun KK hKK => ?_) AllReadyH.nil
      go_simp
      (skip)
      skip
      refine hKK.out _ _ ?_ (fun hHeld => ?_)
      · exact CC.out _ (O.out.2.alloc O.out.2.size _)
      clear hKK KK
      try simp only [Act.put]
      refine wpAnyH_ready (rs := [11]) (by kernel_rfl) (by simp) ?_
      refine AllReadyH.cons (o := _) rfl (fun KK hKK => ?_) AllReadyH.nil
      (refine step_append_lies _ (by rfl) _ _ _ (by rfl) W.heap.size 28 i0 _ 2 16 Try.underlying32 HI.out.1 HI.out.2.1 HI.out.2.2.1 HI.out.2.2.2 rfl (by omega) u5 i _ (by rfl) (own_below O.out.1 ((Below.refl w9.heap.size w9).alloc (Nat.le_refl _) _)) ⟨w9.heap.size, 0, none⟩ 1 1 [.int .u64 (z.1 : Int), .int .u64 (z.2 : Int)] (by rfl) (by rfl) (World.news_of_block (cs := #[.int .u64 (z.1 : Int), .int .u64 (z.2 : Int)]) (t := 28) (fr := (0, 0)) (heap_alloc_new w9 _)) (by simp [Value.oneCell']) (by omega) (by simp only [maxLen]; omega) (by omega) (by have := O.out.2.size; simp; omega) (w9.heap.size + 1) (by simp) ?_; intro gg cap w5 hown5 hgrow hat hlt5)
      have O' : Hid (w5.ownsRow W.heap.size 28 2 (.slice (some ⟨gg, 0, none⟩) (i + 1) cap) (i + 1) (flat R ++ [.int .u64 (z.1 : Int), .int .u64 (z.2 : Int)]) ∧ Below W.heap.size W w5) := ⟨hown5, (O.out.2.alloc O.out.2.size _).grown hgrow (by have := O.out.2.size; simp; omega) (fun g hg => (O.out.1.lt g hg).1)⟩
      clear O hown5 hgrow hat hlt5
      have O := O'
      clear O'
      refine hKK.out _ _ ?_ (fun hHeld => ?_)
      · exact by first | exact CC.out _ O.out.2 | exact CC.out _ O.out.2.drew
      clear hKK KK
      try simp only [Act.put]
      refine wpAnyH_take (i := 12) (oi := _) (v := ?_) rfl (by kernel_rfl) (by kernel_rfl) (by kernel_rfl) (fun _ _ _ h => h) (Or.inl ⟨by rfl, ?_⟩) (by assumption) ?_
      rotate_left
      · ((intro w hSw; (try dsimp only at hSw); go_simp) <;> (try with_reducible rfl))
      show wpAnyH _ _ _ _ _ _ _ (Act.put _ (some 5) _) _
      simp only [Act.put, List.setIfInBounds_toArray, List.set_cons_succ, List.set_cons_zero]
      refine wpAnyH_done (by kernel_rfl) ?_ _
      refine NoPanic.normal ?_
      go_wp2
      refine ⟨⟨i + 1, hlt, by simp, ?_⟩, by simp [intOf]; omega⟩
      exact ⟨by rw [HN.out, flat_snocP]; exact O.out.1, O.out.2⟩
    · obtain rfl : i = n := by omega
      go_wp2
      go_ret
      have hown := O.out.1
      rcases hown.2 with ⟨_, h1⟩ | ⟨g, cap, cur, hu, hb2, hg, hn, _⟩
      · omega
      · subst hu
        obtain ⟨ra, c, e, hE⟩ := own_row (es := adp s t i) (by rw [show (adp s t i).length = i by simp [adp]]; exact hown)
        injection e with e1 e2 e3
        subst e1
        have e4 : ad2 s t = adp s t i := by unfold ad2 adp; rw [HR.out.2.2.1]
        exact ⟨g, cap, rfl, by rw [e4]; exact hE, O.out.2⟩
/-- What the document's Turned has after i parts. -/
def tup (N : Nat) (t : List (Nat × Nat)) (i : Nat) : List (Nat × Nat) := (List.range N).map fun w => xs i fun u => sl (hs (el t u) w) (bv (u : Int))
theorem tup_len (N : Nat) (t : List (Nat × Nat)) (i : Nat) : (tup N t i).length = N := by simp [tup]
theorem tup_el (N : Nat) (t : List (Nat × Nat)) (i : Nat) {w : Nat} (h : w < N) : el (tup N t i) w = xs i fun u => sl (hs (el t u) w) (bv (u : Int)) := by simp [tup, el, List.getD, h]
theorem lt_tup (N : Nat) (t : List (Nat × Nat)) (i : Nat) : ltE (tup N t i) := ltE_of fun w hw => by
  rw [tup_len] at hw
  rw [tup_el N t i hw]
  exact lt_xs (fun u => lt_sl (bv_lt2 _)) _
theorem lt_pairv (N : Nat) (a : Nat × Nat) {b : Nat × Nat} (hb : lt2 b) : ltE (pairv N a b) := ltE_of fun w hw => by
  rw [pairv_len] at hw
  rw [pairv_at N a b w hw]
  exact lt_sl hb
theorem tup_zero (N : Nat) (t : List (Nat × Nat)) : tup N t 0 = pairv N (0, 0) (0, 0) := list_ext (by rw [tup_len, pairv_len]) fun w hw => by
  rw [tup_len] at hw
  rw [tup_el N t 0 hw, pairv_at N _ _ w hw]
  show (0, 0) = sl _ (0, 0)
  cases hs (0, 0) w <;> rfl
theorem tup_succ (N : Nat) (t : List (Nat × Nat)) (i : Nat) : tup N t (i + 1) = ad2 (tup N t i) (pairv N (el t i) (bv (i : Int))) := list_ext (by rw [tup_len, ad2_len, tup_len]) fun w hw => by
  rw [tup_len] at hw
  rw [tup_el N t _ hw, ad2_el _ _ (by rw [tup_len]; exact hw), tup_el N t _ hw, pairv_at N _ _ w hw]
  rfl
theorem tup_all (N : Nat) (t : List (Nat × Nat)) : tup N t N = trns N t := rfl
set_option linter.unusedSimpArgs false in
set_option linter.unusedVariables false in
set_option maxHeartbeats 8000000 in
set_option maxRecDepth 100000 in
theorem rturned (k : Nat) (hk : k < 8) (N : Nat) (hN : N = 2 ^ k) (g1 f1 c1 : Nat) (t : List (Nat × Nat)) (ht : t.length = N) (lt : ltE t) (W : World) (rt : ERow W (some ⟨g1, f1, none⟩) t) :
    Calls Try.prog 21 #[.int .i64 (k : Int), .slice (some ⟨g1, f1, none⟩) N c1] W fun e w' => ∃ g c : Nat, e = .returned (.slice (some ⟨g, 0, none⟩) N c) ∧ ERow w' (some ⟨g, 0, none⟩) (trns N t) ∧ Below W.heap.size W w' := by
  have n1 : N ≤ 128 := by rw [hN]; exact Nat.le_trans (Nat.pow_le_pow_right (by decide) (show k ≤ 7 by omega)) (by decide)
  have n0 : 0 < N := by rw [hN]; exact Nat.two_pow_pos k
  have HZ := hidT (fun w => rpair k hk N hN (0, 0) (0, 0) lt_zero lt_zero w)
  have HPP := hidT (fun (i : Nat) w => rpair k hk N hN (el t i) (bv (i : Int)) (ltE_el lt i) (bv_lt2 _) w)
  have HR := hidT (And.intro rt ht)
  have HT0 := hidT (tup_zero N t)
  clear hN rt ht lt
  go_enter Try.func21, Try.ntmps21
  go_wp2_with (go_at_call 13; refine (HZ.out _).mono ?_; rintro e w1 ⟨g, c, rfl, _, hr, _, hb⟩; have K1 := hidT (show ERow w1 (some ⟨g, 0, none⟩) (tup N t 0) ∧ Below W.heap.size W w1 from ⟨HT0.out ▸ hr, ((Below.refl _ _).alloc (Nat.le_refl _) _).trans (hb.mono (by simp))⟩); clear hr hb)
  go_loopw [6, 7] (fun v u wr => ∃ (i g c : Nat), i ≤ N ∧ u = .int .i64 i ∧ v = .slice (some ⟨g, 0, none⟩) N c ∧ Hid (ERow wr (some ⟨g, 0, none⟩) (tup N t i) ∧ Below W.heap.size W wr)) (fun _ u _ => N - (intOf u).toNat)
  case atStart => exact ⟨0, g, c, Nat.zero_le _, rfl, rfl, K1⟩
  case round =>
    obtain ⟨i, g, cg, hi, rfl, rfl, O⟩ := hrel
    clear K1
    by_cases hlt : i < N
    · have i1 : (i : Int) < (N : Int) := by omega
      have i0' : (0 : Int) ≤ (i : Int) := by omega
      obtain ⟨b1, o1, e1, _, x1, x0⟩ := HR.out.1.cells i (by rw [HR.out.2]; exact hlt)
      injection e1 with e1
      injection e1 with e1a e1b
      subst e1a
      subst e1b
      have CC := hidT (fun (w : World) (hw : Below W.heap.size W w) => show w.cell? ⟨g1, f1 + i * 2, none⟩ = some (.int .u64 ((el t i).1 : Int)) ∧ w.cell? ⟨g1, f1 + i * 2 + 1, none⟩ = some (.int .u64 ((el t i).2 : Int)) from ⟨keepc hw x1, keepc hw x0⟩)
      have HP := hidT (HPP.out i)
      have HB := hidT (rbit_any (i : Int))
      have HN := hidT (tup_succ N t i)
      have HAd := hidT (fun (g cg gp cp : Nat) (w : World) (h1 : ERow w (some ⟨g, 0, none⟩) (tup N t i)) (h2 : ERow w (some ⟨gp, 0, none⟩) (pairv N (el t i) (bv (i : Int)))) => rAdd_any N g 0 cg gp 0 cp (tup N t i) (pairv N (el t i) (bv (i : Int))) n0 (by omega) (tup_len _ _ _) (pairv_len _ _ _) (lt_tup _ _ _) (lt_pairv _ _ (bv_lt2 _)) w h1 h2)
      clear x1 x0
      generalize ad2 (tup N t i) (pairv N (el t i) (bv (i : Int))) = R2 at *
      generalize tup N t i = R at *
      generalize el t i = x at *
      generalize bv (i : Int) = y at *
      go_upto_region 6 with fail
      refine wp_region_noPanic ?_
      refine wp_region_held_drew (S := fun w => w.cell? ⟨g1, f1 + i * 2, none⟩ = some (.int .u64 (x.1 : Int)) ∧ w.cell? ⟨g1, f1 + i * 2 + 1, none⟩ = some (.int .u64 (x.2 : Int))) (by kernel_rfl) (CC.out _ O.out.2.drew) (fun hHeld => ?_)
      refine wpAnyH_take (i := 0) (oi := _) (v := ?_) rfl (by kernel_rfl) (by kernel_rfl) (by kernel_rfl) (fun _ _ _ h => h) (Or.inl ⟨by rfl, ?_⟩) (by assumption) ?_
      rotate_left
      · ((intro w hSw; (try dsimp only at hSw); go_simp) <;> (try with_reducible rfl))
      show wpAnyH _ _ _ _ _ _ _ (Act.put _ (some 18) _) _
      simp only [Act.put, List.setIfInBounds_toArray, List.set_cons_succ, List.set_cons_zero]
      refine wpAnyH_take (i := 1) (oi := _) (v := ?_) rfl (by kernel_rfl) (by kernel_rfl) (by kernel_rfl) (fun _ _ _ h => h) (Or.inl ⟨by rfl, ?_⟩) (by assumption) ?_
      rotate_left
      · ((intro w hSw; (try dsimp only at hSw); go_simp) <;> (try with_reducible rfl))
      show wpAnyH _ _ _ _ _ _ _ (Act.put _ (some 19) _) _
      simp only [Act.put, List.setIfInBounds_toArray, List.set_cons_succ, List.set_cons_zero]
      refine wpAnyH_take (i := 2) (oi := _) (v := ?_) rfl (by kernel_rfl) (by kernel_rfl) (by kernel_rfl) (fun _ _ _ h => h) (Or.inl ⟨by rfl, ?_⟩) (by assumption) ?_
      rotate_left
      · ((intro w hSw; (try dsimp only at hSw); go_simp) <;> (try with_reducible rfl))
      show wpAnyH _ _ _ _ _ _ _ (Act.put _ (some 20) _) _
      simp only [Act.put, List.setIfInBounds_toArray, List.set_cons_succ, List.set_cons_zero]
      refine wpAnyH_take (i := 3) (oi := _) (v := ?_) rfl (by kernel_rfl) (by kernel_rfl) (by kernel_rfl) (fun _ _ _ h => h) (Or.inl ⟨by rfl, ?_⟩) (by assumption) ?_
      rotate_left
      · ((intro w hSw; (try dsimp only at hSw); go_simp) <;> (try with_reducible rfl))
      show wpAnyH _ _ _ _ _ _ _ (Act.put _ (some 21) _) _
      simp only [Act.put, List.setIfInBounds_toArray, List.set_cons_succ, List.set_cons_zero]
      refine wpAnyH_take (i := 4) (oi := _) (v := ?_) rfl (by kernel_rfl) (by kernel_rfl) (by kernel_rfl) (fun _ _ _ h => h) (Or.inl ⟨by rfl, ?_⟩) (by assumption) ?_
      rotate_left
      · ((intro w hSw; (try dsimp only at hSw); go_simp) <;> (try with_reducible rfl))
      show wpAnyH _ _ _ _ _ _ _ (Act.put _ (some 22) _) _
      simp only [Act.put, List.setIfInBounds_toArray, List.set_cons_succ, List.set_cons_zero]
      refine wpAnyH_take (i := 5) (oi := _) (v := ?_) rfl (by kernel_rfl) (by kernel_rfl) (by kernel_rfl) (fun _ _ _ h => h) (Or.inl ⟨by rfl, ?_⟩) (by assumption) ?_
      rotate_left
      · ((intro w hSw; (try dsimp only at hSw); go_simp) <;> (try with_reducible rfl))
      show wpAnyH _ _ _ _ _ _ _ (Act.put _ (some 23) _) _
      simp only [Act.put, List.setIfInBounds_toArray, List.set_cons_succ, List.set_cons_zero]
      refine wpAnyH_take (i := 6) (oi := _) (v := ?_) rfl (by kernel_rfl) (by kernel_rfl) (by kernel_rfl) (fun _ _ _ h => h) (Or.inl ⟨by rfl, ?_⟩) (by assumption) ?_
      rotate_left
      · ((intro w hSw; (try dsimp only at hSw); go_simp) <;> (try with_reducible rfl))
      show wpAnyH _ _ _ _ _ _ _ (Act.put _ (some 24) _) _
      simp only [Act.put, List.setIfInBounds_toArray, List.set_cons_succ, List.set_cons_zero]
      refine wpAnyH_ready (rs := [7]) (by kernel_rfl) (by simp) ?_
      refine AllReadyH.cons (o := _) rfl (fun KK hKK => ?_) AllReadyH.nil
      go_simp
      (go_at_call 43; refine (HB.out.go _).mono ?_; rintro e w9 ⟨rfl, hb⟩)
      have O' := hidT (show ERow w9 (some ⟨g, 0, none⟩) R ∧ Below W.heap.size W w9 from (by first | exact ⟨O.out.1.below hb, O.out.2.trans (hb.mono O.out.2.size)⟩ | exact ⟨O.out.1.drew.below hb, O.out.2.drew.trans (hb.mono O.out.2.drew.size)⟩))
      clear O hb
      have O := O'
      clear O'
      refine hKK.out _ _ ?_ (fun hHeld => ?_)
      · exact by first | exact CC.out _ O.out.2 | exact CC.out _ O.out.2.drew
      clear hKK KK
      try simp only [Act.put]
      refine wpAnyH_ready (rs := [8]) (by kernel_rfl) (by simp) ?_
      refine AllReadyH.cons (o := _) rfl (fun KK hKK => ?_) AllReadyH.nil
      go_simp
      (go_at_call 13; refine (HP.out _).mono ?_; rintro e w8 ⟨gp, cp, rfl, _, hrp, _, hb⟩)
      have PR := hidT hrp
      clear hrp
      have O' := hidT (show ERow w8 (some ⟨g, 0, none⟩) R ∧ Below W.heap.size W w8 from (by first | exact ⟨O.out.1.below hb, O.out.2.trans (hb.mono O.out.2.size)⟩ | exact ⟨O.out.1.drew.below hb, O.out.2.drew.trans (hb.mono O.out.2.drew.size)⟩))
      clear O hb
      have O := O'
      clear O'
      refine hKK.out _ _ ?_ (fun hHeld => ?_)
      · exact by first | exact CC.out _ O.out.2 | exact CC.out _ O.out.2.drew
      clear hKK KK
      try simp only [Act.put]
      refine wpAnyH_ready (rs := [9]) (by kernel_rfl) (by simp) ?_
      refine AllReadyH.cons (o := _) rfl (fun KK hKK => ?_) AllReadyH.nil
      go_simp
      (go_at_call 22; refine (HAd.out g cg gp cp _ O.out.1 PR.out).mono ?_; rintro e w7 ⟨ga, ca, rfl, hra, hb⟩)
      have O' := hidT (show ERow w7 (some ⟨ga, 0, none⟩) R2 ∧ Below W.heap.size W w7 from ⟨hra, O.out.2.trans (hb.mono O.out.2.size)⟩)
      clear O hb hra PR
      have O := O'
      clear O'
      refine hKK.out _ _ ?_ (fun hHeld => ?_)
      · exact by first | exact CC.out _ O.out.2 | exact CC.out _ O.out.2.drew
      clear hKK KK
      try simp only [Act.put]
      refine wpAnyH_take (i := 10) (oi := _) (v := ?_) rfl (by kernel_rfl) (by kernel_rfl) (by kernel_rfl) (fun _ _ _ h => h) (Or.inl ⟨by rfl, ?_⟩) (by assumption) ?_
      rotate_left
      · ((intro w hSw; (try dsimp only at hSw); go_simp) <;> (try with_reducible rfl))
      show wpAnyH _ _ _ _ _ _ _ (Act.put _ (some 6) _) _
      simp only [Act.put, List.setIfInBounds_toArray, List.set_cons_succ, List.set_cons_zero]
      refine wpAnyH_done (by kernel_rfl) ?_ _
      refine NoPanic.normal ?_
      go_wp2
      exact ⟨⟨i + 1, ga, ca, hlt, by simp, rfl, ⟨by rw [HN.out]; exact O.out.1, O.out.2⟩⟩, by simp [intOf]; omega⟩
    · obtain rfl : i = N := by omega
      go_wp2
      go_ret
      exact ⟨g, cg, rfl, O.out.1, O.out.2⟩
end Pv
end Go.Proofs.Ytcejppibcemdeaa
