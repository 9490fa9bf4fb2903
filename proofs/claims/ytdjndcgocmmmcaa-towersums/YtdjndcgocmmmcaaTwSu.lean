/- Walk of steeplelaw02.TowerSums over the seat's translation, over the contracts of what it calls. -/
import Derived.Test.YtdjndcgocmmmcaaSlA
import Derived.Test.YtdjndcgocmmmcaaTwBl
import Derived.Test.YtdjndcgocmmmcaaTwMx
namespace Go.Proofs.Ytdjndcgocmmmcaa
open Go.RowKit

/-- A sum, as the law lays it. -/
structure Sst (W w : World) (sh sl : Nat) : Prop where
  s : Ew w W.heap.size sh sl
  d : Below W.heap.size W w
theorem Sst.below {W w w' : World} {sh sl : Nat} (h : Sst W w sh sl) (hb : Below w.heap.size w w') : Sst W w' sh sl := ⟨h.s.below hb, h.d.trans (hb.mono h.d.size)⟩
theorem Sst.drew {W w : World} {sh sl : Nat} (h : Sst W w sh sl) : Sst W w.drew sh sl := ⟨h.s.drew, h.d.drew⟩
theorem Sst.put {W w : World} {sh sl : Nat} (h : Sst W w sh sl) (u v : Nat) : Sst W ((w.setCell ⟨W.heap.size, 0, none⟩ (.int .u64 (u : Int))).setCell ⟨W.heap.size, 1, none⟩ (.int .u64 (v : Int))) u v :=
  ⟨h.s.set _ _, below2 (p := W.heap.size) h.d (Nat.le_refl _) _ _⟩
theorem Sst.facts {W w : World} {sh sl : Nat} (h : Sst W w sh sl) : w.cell? ⟨W.heap.size, 0, none⟩ = some (.int .u64 (sh : Int)) ∧ w.cell? ⟨W.heap.size, 1, none⟩ = some (.int .u64 (sl : Int)) ∧ w.frozen? ⟨W.heap.size, 0, none⟩ = false ∧ w.frozen? ⟨W.heap.size, 1, none⟩ = false :=
  ⟨h.s.hi, h.s.lo, h.s.fhi, h.s.flo⟩
theorem Sst.old {W w : World} {sh sl b o x1 x0 : Nat} (h : Sst W w sh sl) (A : b < W.heap.size ∧ W.cell? ⟨b, o, none⟩ = some (.int .u64 (x1 : Int)) ∧ W.cell? ⟨b, o + 1, none⟩ = some (.int .u64 (x0 : Int))) :
    w.cell? ⟨b, o, none⟩ = some (.int .u64 (x1 : Int)) ∧ w.cell? ⟨b, o + 1, none⟩ = some (.int .u64 (x0 : Int)) :=
  ⟨by rw [h.d.cell (p := ⟨b, o, none⟩) A.1]; exact A.2.1, by rw [h.d.cell (p := ⟨b, o + 1, none⟩) A.1]; exact A.2.2⟩
set_option maxHeartbeats 1000000 in
theorem sums_long (l : Int) (a c : Option Addr) (n m cap cap2 : Nat) (h : 30 < n ∨ 30 < m) (AW : Ret 9 #[] (.bool true)) :
    Ret 6 #[.int .i64 l, .slice a n cap, .slice c m cap2] (.bool true) := by
  intro W
  by_cases h1 : 30 < n
  · have h2 : (30 : Int) < (n : Int) := by omega
    clear h
    go_enter Try.func6, Try.ntmps6
    go_wp2_with fail
    refine (AW.go _).mono ?_
    rintro e w1 ⟨rfl, hb1⟩
    go_wp2
    go_ret
    exact ⟨rfl, hb1⟩
  · have h2 : (30 : Int) < (m : Int) := by omega
    have h3 : ¬ (30 : Int) < (n : Int) := by omega
    clear h
    go_enter Try.func6, Try.ntmps6
    go_wp2_with fail
    refine (AW.go _).mono ?_
    rintro e w1 ⟨rfl, hb1⟩
    go_wp2
    go_ret
    exact ⟨rfl, hb1⟩
set_option maxHeartbeats 4000000 in
set_option maxRecDepth 100000 in
theorem sums_core (l : Int) (a c : Option Addr) (cap cap2 : Nat) (es fs : List (Nat × Nat)) (W : World) (hra : ERow W a es) (h1 : es.length ≤ 30) (h2 : fs.length ≤ 30) (sv : Nat → Nat × Nat) (th tl dh dl : Nat)
    (S0 : Hid (sv 0 = (0, 0))) (SN : Hid (sv es.length = (th, tl)))
    (AW : Ret 9 #[] (.bool true))
    (RF : Hid (∀ j : Nat, j < es.length → Ret 13 #[.agg #[.int .u64 ((es.getD j (0, 0)).1 : Int), .int .u64 ((es.getD j (0, 0)).2 : Int)]] (.agg #[.int .u64 ((es.getD j (0, 0)).1 : Int), .int .u64 ((es.getD j (0, 0)).2 : Int)])))
    (AD : Hid (∀ j : Nat, j < es.length → Ret 12 #[.agg #[.int .u64 ((sv j).1 : Int), .int .u64 ((sv j).2 : Int)], .agg #[.int .u64 ((es.getD j (0, 0)).1 : Int), .int .u64 ((es.getD j (0, 0)).2 : Int)]] (.agg #[.int .u64 ((sv (j + 1)).1 : Int), .int .u64 ((sv (j + 1)).2 : Int)])))
    (HS : ∀ w, Below W.heap.size W w → Calls Try.prog 35 #[.slice a es.length cap] w fun e w' => e = .returned (.agg #[.int .u64 (th : Int), .int .u64 (tl : Int)]) ∧ Below w.heap.size w w')
    (HD : ∀ w, Below W.heap.size W w → Calls Try.prog 36 #[.int .i64 l, .slice a es.length cap, .slice c fs.length cap2] w fun e w' => e = .returned (.agg #[.int .u64 (dh : Int), .int .u64 (dl : Int)]) ∧ Below w.heap.size w w')
    (HRA : ∀ w, Below W.heap.size W w → Calls Try.prog 38 #[.slice a es.length cap] w fun e w' => ∃ a' cap', e = .returned (.slice a' es.length cap') ∧ ERow w' a' es ∧ Below w.heap.size w w')
    (HRB : ∀ w, Below W.heap.size W w → Calls Try.prog 38 #[.slice c fs.length cap2] w fun e w' => ∃ a' cap', e = .returned (.slice a' fs.length cap') ∧ ERow w' a' fs ∧ Below w.heap.size w w')
    (HRD : ∀ w a' c' q q', ERow w a' es → ERow w c' fs → Calls Try.prog 37 #[.int .i64 l, .slice a' es.length q, .slice c' fs.length q'] w fun e w' => e = .returned (.agg #[.int .u64 (dh : Int), .int .u64 (dl : Int)]) ∧ Below w.heap.size w w')
    (S1 : Ret 10 #[.agg #[.int .u64 (th : Int), .int .u64 (tl : Int)], .agg #[.int .u64 (th : Int), .int .u64 (tl : Int)]] (.bool true)) (S2 : Ret 10 #[.agg #[.int .u64 (dh : Int), .int .u64 (dl : Int)], .agg #[.int .u64 (dh : Int), .int .u64 (dl : Int)]] (.bool true)) :
    Calls Try.prog 6 #[.int .i64 l, .slice a es.length cap, .slice c fs.length cap2] W fun e w' => e = .returned (.bool true) ∧ Below W.heap.size W w' := by
  have HRow : Hid (ERow W a es) := hra
  have g1 : ¬ (30 : Int) < (es.length : Int) := by omega
  have g2 : ¬ (30 : Int) < (fs.length : Int) := by omega
  clear hra
  go_enter Try.func6, Try.ntmps6
  go_wp2_with fail
  go_loopw [8] (fun u wr => ∃ j : Nat, j ≤ es.length ∧ u = .int .i64 j ∧ Sst W wr (sv j).1 (sv j).2) (fun u _ => es.length - (intOf u).toNat)
  case atStart =>
    refine ⟨0, Nat.zero_le _, rfl, ?_⟩
    rw [S0.out]
    exact ⟨⟨⟨by simp [go_sem], by simp [go_sem]⟩, by simp [go_sem], by simp [go_sem]⟩, by go_grown⟩
  case round =>
    obtain ⟨j, hj, rfl, K⟩ := hrel
    by_cases hlt : j < es.length
    · obtain ⟨b, off, rfl, hb, c1, c0⟩ := HRow.out.cells j hlt
      have HA : Hid (b < W.heap.size ∧ W.cell? ⟨b, off + j * 2, none⟩ = some (.int .u64 ((es.getD j (0, 0)).1 : Nat)) ∧ W.cell? ⟨b, off + j * 2 + 1, none⟩ = some (.int .u64 ((es.getD j (0, 0)).2 : Nat))) := ⟨hb, c1, c0⟩
      have H3 := RF.out j hlt
      have H4 := AD.out j hlt
      clear c1 c0 HRow RF AD HS HD HRA HRB HRD
      generalize es.getD j (0, 0) = x at *
      go_upto_region 7 with fail
      obtain ⟨s1, s0, t1, t0⟩ := K.facts
      obtain ⟨x1, x0⟩ := K.old HA.out
      go_region_with (first | (go_at_call 13; refine (H3.go _).mono ?_; rintro e w' ⟨rfl, hb'⟩; have K'' := Sst.below (w' := w') (by first | exact K | exact K.drew) hb'; clear s1 s0 t1 t0 x1 x0 K hb'; have K := K''; clear K''; obtain ⟨s1, s0, t1, t0⟩ := K.facts; obtain ⟨x1, x0⟩ := K.old HA.out) | (go_at_call 12; refine (H4.go _).mono ?_; rintro e w' ⟨rfl, hb'⟩; have K'' := Sst.below (w' := w') (by first | exact K | exact K.drew) hb'; clear s1 s0 t1 t0 x1 x0 K hb'; have K := K''; clear K''; obtain ⟨s1, s0, t1, t0⟩ := K.facts; obtain ⟨x1, x0⟩ := K.old HA.out))
      all_goals
        go_wp2
        exact ⟨⟨j + 1, hlt, by simp, K.put _ _⟩, by simp [intOf]; omega⟩
    · obtain rfl : j = es.length := by omega
      rw [SN.out] at K
      clear RF AD HRow
      go_upto_region 8 with fail
      have F := K.facts
      go_region_held3 (fun w => w.cell? ⟨W.heap.size, 0, none⟩ = some (.int .u64 (th : Int)) ∧ w.cell? ⟨W.heap.size, 1, none⟩ = some (.int .u64 (tl : Int))) (go_keep) (first | (go_at_call 9; refine (AW.go _).mono ?_; rintro e w' ⟨rfl, hb'⟩; have K'' := Sst.below (w' := w') (by first | exact K | exact K.drew) hb'; clear F K hb'; have K := K''; clear K''; have F := K.facts) | (go_at_call 35; refine (HS _ (by first | exact K.d | exact K.drew.d)).mono ?_; rintro e w' ⟨rfl, hb'⟩; have K'' := Sst.below (w' := w') (by first | exact K | exact K.drew) hb'; clear F K hb'; have K := K''; clear K''; have F := K.facts) | (go_at_call 36; refine (HD _ (by first | exact K.d | exact K.drew.d)).mono ?_; rintro e w' ⟨rfl, hb'⟩; have K'' := Sst.below (w' := w') (by first | exact K | exact K.drew) hb'; clear F K hb'; have K := K''; clear K''; have F := K.facts) | (go_at_call_of 38 (#[.slice a es.length cap] : Array Value); refine (HRA _ (by first | exact K.d | exact K.drew.d)).mono ?_; rintro e w' ⟨va, ca, rfl, RA, hb'⟩; have K'' := Sst.below (w' := w') (by first | exact K | exact K.drew) hb'; clear F K hb'; have K := K''; clear K''; have F := K.facts) | (go_at_call_of 38 (#[.slice c fs.length cap2] : Array Value); refine (HRB _ (by first | exact K.d | exact K.drew.d)).mono ?_; rintro e w' ⟨vb, cb, rfl, RB, hb'⟩; have RA := ERow.below (w' := w') (by first | exact RA | exact RA.drew) hb'; have K'' := Sst.below (w' := w') (by first | exact K | exact K.drew) hb'; clear F K hb'; have K := K''; clear K''; have F := K.facts) | (go_at_call 37; refine (HRD _ _ _ _ _ (by first | exact RA | exact RA.drew) (by first | exact RB | exact RB.drew)).mono ?_; rintro e w' ⟨rfl, hb'⟩; have K'' := Sst.below (w' := w') (by first | exact K | exact K.drew) hb'; clear F K hb'; have K := K''; clear K''; have F := K.facts) | (go_at_call_of 10 (#[.agg #[.int .u64 (th : Int), .int .u64 (tl : Int)], .agg #[.int .u64 (th : Int), .int .u64 (tl : Int)]] : Array Value); refine (S1.go _).mono ?_; rintro e w' ⟨rfl, hb'⟩; have K'' := Sst.below (w' := w') (by first | exact K | exact K.drew) hb'; clear F K hb'; have K := K''; clear K''; have F := K.facts) | (go_at_call_of 10 (#[.agg #[.int .u64 (dh : Int), .int .u64 (dl : Int)], .agg #[.int .u64 (dh : Int), .int .u64 (dl : Int)]] : Array Value); refine (S2.go _).mono ?_; rintro e w' ⟨rfl, hb'⟩; have K'' := Sst.below (w' := w') (by first | exact K | exact K.drew) hb'; clear F K hb'; have K := K''; clear K''; have F := K.facts))
      all_goals
        go_wp2
        go_ret
        exact ⟨rfl, K.d⟩
end Go.Proofs.Ytdjndcgocmmmcaa
