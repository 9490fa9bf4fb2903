/- The walk of LineApart over the seat's translation: level 0. -/
import Derived.Test.YtcnbaoijgfaljaaLnG
namespace Go.Proofs.Ytcnbaoijgfaljaa
open Go.RowKit
open Cb Ln
open Tw (pm)

set_option maxHeartbeats 20000000 in
set_option maxRecDepth 100000 in
theorem la_ok0 (l : Int) (k N : Nat) (hlk : l = (k : Int)) (hkN : l = 0 ∧ N = 2) (a c : Option Addr) (cap cap2 : Nat) (t s : List (Nat × Nat)) (ht : ltE t) (hs : ltE s) (h0 : 0 < t.length) (h9 : t.length ≤ 9) (hl : s.length = t.length) (hm : lmy l t = 0) (hm2 : lmy l s = 0) (W : World) (ha : ERow W a t) (hc : ERow W c s) :
    Calls Try.prog 6 #[.int .i64 l, .slice a t.length cap, .slice c t.length cap2] W fun e w' => e = .returned (.bool true) ∧ Below W.heap.size W w' := by
  have AW : Hid (Ret 9 #[] (.bool true)) := awake17
  have hk : k < 8 := by omega
  have HM : Hid (∀ w, Below W.heap.size W w → Calls Try.prog 11 #[.int .i64 l, .slice a t.length cap] w fun e w' => e = .returned (.int .i64 0) ∧ Below w.heap.size w w') := fun w hb => by
    have := lmay l a cap t ht (by omega) w (ha.below hb)
    rw [hm] at this
    exact this
  have HM2 : Hid (∀ w, Below W.heap.size W w → Calls Try.prog 11 #[.int .i64 l, .slice c t.length cap2] w fun e w' => e = .returned (.int .i64 0) ∧ Below w.heap.size w w') := fun w hb => by
    have := lmay l c cap2 s hs (by omega) w (hc.below hb)
    rw [hm2, hl] at this
    exact this
  obtain ⟨k1, _, e1, _, _, _, ot, hf⟩ := lmy_zero hm
  obtain ⟨k2, _, e2, _, _, _, os, hf2⟩ := lmy_zero hm2
  obtain rfl : k = k1 := by omega
  obtain rfl : k = k2 := by omega
  have hof : ∀ i, i < N → ofE k (pl i) := fun i hi => by
    show ofB (k : Int) ((0 : Nat) : Int) (i : Int) = true
    rw [ofB_iff _ _ _ hk]
    right
    refine ⟨rfl, ?_⟩
    obtain ⟨h, rfl⟩ := hkN
    obtain rfl : k = 0 := by omega
    simpa using hi
  have HA : Hid (∀ i, i < N → ∀ w, Below W.heap.size W w → Calls Try.prog 10 #[.int .i64 l, .slice a t.length cap, .agg #[.int .u64 0, .int .u64 (i : Int)]] w fun e w' => e = .returned (.tuple #[.agg #[.int .u64 ((atv t (pl i)).1 : Int), .int .u64 ((atv t (pl i)).2 : Int)], .int .i64 0]) ∧ Below w.heap.size w w') := fun i hi w hb => by
    rw [hlk] at hf ⊢
    exact lat_ok k hk a cap t (pl i) ht (lt_pl (by omega)) h0 h9 hf ot (hof i hi) w (ha.below hb)
  have HB : Hid (∀ i, i < N → ∀ w, Below W.heap.size W w → Calls Try.prog 10 #[.int .i64 l, .slice c t.length cap2, .agg #[.int .u64 0, .int .u64 (i : Int)]] w fun e w' => e = .returned (.tuple #[.agg #[.int .u64 ((atv s (pl i)).1 : Int), .int .u64 ((atv s (pl i)).2 : Int)], .int .i64 0]) ∧ Below w.heap.size w w') := fun i hi w hb => by
    rw [hlk] at hf2 ⊢
    have := lat_ok k hk c cap2 s (pl i) hs (lt_pl (by omega)) (by omega) (by omega) hf2 os (hof i hi) w (hc.below hb)
    rw [hl] at this
    exact this
  have HT : Hid (ERow W a t ∧ ERow W c s ∧ ltE t ∧ ltE s ∧ s.length = t.length ∧ 0 < t.length ∧ t.length ≤ 9 ∧ N ≤ 256) := ⟨ha, hc, ht, hs, hl, h0, h9, by omega⟩
  have g9 : ¬ (9 : Int) < (t.length : Int) := by omega
  have gw : IntKind.i64.wrap ((t.length : Int) - 1) = (t.length : Int) - 1 := by rw [IntKind.wrap_i64]; omega
  clear ha hc ht hs hl h0 h9 hm hm2 ot hf os hf2 hof e1 e2 hk hlk
  obtain ⟨rfl, rfl⟩ := hkN
  go_enter Try.func6, Try.ntmps6
  go_wp2_with (first | (go_at_call_of 11 (#[.int .i64 _, .slice a t.length cap] : Array Value); refine (HM.out _ (Below.refl _ _)).mono ?_; rintro e w1 ⟨rfl, hb1⟩; have K1 : Hid (Below W.heap.size W w1) := hb1; clear hb1 HM) | (go_at_call 11; first | (refine (HM.out _ (Below.refl _ _)).mono ?_; rintro e w1 ⟨rfl, hb1⟩; have K1 : Hid (Below W.heap.size W w1) := hb1; clear hb1 HM) | (refine (HM2.out _ K1.out).mono ?_; rintro e w2 ⟨rfl, hb2⟩; have K2 : Hid (Below W.heap.size W w2) := K1.out.trans (hb2.mono K1.out.size); clear hb2 HM2)))
  go_loopw [7, 8] (fun vn u wr => ∃ i : Nat, i ≤ 2 ∧ u = .int .i64 i ∧ vn = .int .i64 (agr t s i : Nat) ∧ Below W.heap.size W wr) (fun _ u _ => 2 - (intOf u).toNat)
  case atStart => exact ⟨0, Nat.zero_le _, rfl, rfl, K2.out⟩
  case round =>
    obtain ⟨i, hi, rfl, rfl, hD⟩ := hrel
    have HD : Hid (Below W.heap.size W wr) := hD
    clear K1 K2 hD
    have hag : agr t s i ≤ 256 := Nat.le_trans (agr_le t s i) (by omega)
    by_cases hiN : i < 2
    · have HA1 := HA.out i hiN
      have HB1 := HB.out i hiN
      have hiI : (i : Int) < 2 := by omega
      have HY : Hid ((atv t (pl i) = atv s (pl i) → agr t s (i + 1) = agr t s i + 1) ∧ (¬ atv t (pl i) = atv s (pl i) → agr t s (i + 1) = agr t s i)) := ⟨agr_yes, agr_no⟩
      generalize atv t (pl i) = A at *
      generalize atv s (pl i) = B at *
      generalize agr t s i = m at *
      have HA2 : Hid (∀ w, Below W.heap.size W w → Calls Try.prog 10 #[.int .i64 0, .slice a t.length cap, .agg #[.int .u64 0, .int .u64 (i : Int)]] w fun e w' => e = .returned (.tuple #[.agg #[.int .u64 (A.1 : Int), .int .u64 (A.2 : Int)], .int .i64 0]) ∧ Below w.heap.size w w') := HA1
      have HB2 : Hid (∀ w, Below W.heap.size W w → Calls Try.prog 10 #[.int .i64 0, .slice c t.length cap2, .agg #[.int .u64 0, .int .u64 (i : Int)]] w fun e w' => e = .returned (.tuple #[.agg #[.int .u64 (B.1 : Int), .int .u64 (B.2 : Int)], .int .i64 0]) ∧ Below w.heap.size w w') := HB1
      clear HA1 HB1 HA HB
      have D1 : Hid (Below W.heap.size W (wr.alloc (Obj.cells #[.int .i64 2, .int .i64 4, .int .i64 16, .int .i64 256] 3))) := HD.out.alloc HD.out.size _
      have X2 : Hid (La W ((wr.alloc (Obj.cells #[.int .i64 2, .int .i64 4, .int .i64 16, .int .i64 256] 3)).alloc (Obj.cells #[.int .u64 0, .int .u64 (i : Int)] 25)) (wr.heap.size + 1) (0, i)) := ⟨⟨by simp [go_sem], by simp [go_sem]⟩, D1.out.alloc D1.out.size _⟩
      by_cases hAB : A = B
      · subst hAB
        have HZ : Hid (agr t s (i + 1) = m + 1) := HY.out.1 rfl
        clear HY
        go_wp2_with (first | (go_at_call_of 10 (#[.int .i64 0, .slice a t.length cap, .agg #[.int .u64 0, .int .u64 (i : Int)]] : Array Value); refine (HA2.out _ X2.out.d).mono ?_; rintro e w3 ⟨rfl, hb3⟩; have X3 : Hid (La W (w3.alloc (Obj.cells #[.int .u64 (A.1 : Int), .int .u64 (A.2 : Int)] 25)) (wr.heap.size + 1) (0, i) ∧ La W (w3.alloc (Obj.cells #[.int .u64 (A.1 : Int), .int .u64 (A.2 : Int)] 25)) w3.heap.size A) := ⟨(X2.out.below hb3).alloc _, La.new (X2.out.below hb3).d A⟩; clear hb3 HA2; have x1 : (w3.alloc (Obj.cells #[.int .u64 (A.1 : Int), .int .u64 (A.2 : Int)] 25)).cell? ⟨wr.heap.size + 1, 0, none⟩ = some (.int .u64 0) := X3.out.1.x.hi; have x0 : (w3.alloc (Obj.cells #[.int .u64 (A.1 : Int), .int .u64 (A.2 : Int)] 25)).cell? ⟨wr.heap.size + 1, 1, none⟩ = some (.int .u64 (i : Int)) := X3.out.1.x.lo) | (go_at_call 10; refine (HB2.out _ X3.out.1.d).mono ?_; rintro e w4 ⟨rfl, hb4⟩; have X4 : Hid (La W (w4.alloc (Obj.cells #[.int .u64 (A.1 : Int), .int .u64 (A.2 : Int)] 25)) w3.heap.size A ∧ La W (w4.alloc (Obj.cells #[.int .u64 (A.1 : Int), .int .u64 (A.2 : Int)] 25)) w4.heap.size A) := ⟨(X3.out.2.below hb4).alloc _, La.new (X3.out.1.below hb4).d A⟩; clear hb4 x1 x0; have a1 := X4.out.1.x.hi; have a0 := X4.out.1.x.lo; have b1 := X4.out.2.x.hi; have b0 := X4.out.2.x.lo))
        exact ⟨⟨i + 1, hiN, by simp, by rw [HZ.out]; simp, X4.out.1.d⟩, by simp [intOf]; omega⟩
      · have HZ : Hid (agr t s (i + 1) = m) := HY.out.2 hAB
        clear HY
        go_wp2_with (first | (go_at_call_of 10 (#[.int .i64 0, .slice a t.length cap, .agg #[.int .u64 0, .int .u64 (i : Int)]] : Array Value); refine (HA2.out _ X2.out.d).mono ?_; rintro e w3 ⟨rfl, hb3⟩; have X3 : Hid (La W (w3.alloc (Obj.cells #[.int .u64 (A.1 : Int), .int .u64 (A.2 : Int)] 25)) (wr.heap.size + 1) (0, i) ∧ La W (w3.alloc (Obj.cells #[.int .u64 (A.1 : Int), .int .u64 (A.2 : Int)] 25)) w3.heap.size A) := ⟨(X2.out.below hb3).alloc _, La.new (X2.out.below hb3).d A⟩; clear hb3 HA2; have x1 : (w3.alloc (Obj.cells #[.int .u64 (A.1 : Int), .int .u64 (A.2 : Int)] 25)).cell? ⟨wr.heap.size + 1, 0, none⟩ = some (.int .u64 0) := X3.out.1.x.hi; have x0 : (w3.alloc (Obj.cells #[.int .u64 (A.1 : Int), .int .u64 (A.2 : Int)] 25)).cell? ⟨wr.heap.size + 1, 1, none⟩ = some (.int .u64 (i : Int)) := X3.out.1.x.lo) | (go_at_call 10; refine (HB2.out _ X3.out.1.d).mono ?_; rintro e w4 ⟨rfl, hb4⟩; have X4 : Hid (La W (w4.alloc (Obj.cells #[.int .u64 (B.1 : Int), .int .u64 (B.2 : Int)] 25)) w3.heap.size A ∧ La W (w4.alloc (Obj.cells #[.int .u64 (B.1 : Int), .int .u64 (B.2 : Int)] 25)) w4.heap.size B) := ⟨(X3.out.2.below hb4).alloc _, La.new (X3.out.1.below hb4).d B⟩; clear hb4 x1 x0; have a1 := X4.out.1.x.hi; have a0 := X4.out.1.x.lo; have b1 := X4.out.2.x.hi; have b0 := X4.out.2.x.lo))
        all_goals first | (exfalso; apply hAB; apply Prod.ext <;> omega) | exact ⟨⟨i + 1, hiN, by simp, by rw [HZ.out], X4.out.1.d⟩, by simp [intOf]; omega⟩
    · have HI : Hid (i = 2) := by show i = 2; omega
      have hiI : ¬ (i : Int) < 2 := by omega
      clear HA HB hiN hi
      go_wp2_with fail
      go_loopw [14, 15] (fun vs u wq => ∃ j : Nat, j ≤ t.length ∧ u = .int .i64 j ∧ vs = .bool (decide (t.take j = s.take j)) ∧ Below W.heap.size W wq) (fun _ u _ => t.length - (intOf u).toNat)
      case atStart => exact ⟨0, Nat.zero_le _, rfl, (by simp), HD.out.alloc HD.out.size _⟩
      case round =>
        obtain ⟨j, hj, rfl, rfl, hD2⟩ := hrel
        have HD2 : Hid (Below W.heap.size W wr) := hD2
        clear hD2
        by_cases hjl : j < t.length
        · obtain ⟨bt, ot, rfl, hbt, c1, c0⟩ := HT.out.1.cells j hjl
          obtain ⟨bs, os, rfl, hbs, d1, d0⟩ := HT.out.2.1.cells j (by rw [HT.out.2.2.2.2.1]; exact hjl)
          have p1 : wr.cell? ⟨bt, ot + j * 2, none⟩ = some (.int .u64 ((t.getD j (0, 0)).1 : Int)) := keepc HD2.out c1
          have p0 : wr.cell? ⟨bt, ot + j * 2 + 1, none⟩ = some (.int .u64 ((t.getD j (0, 0)).2 : Int)) := keepc HD2.out c0
          have q1 : wr.cell? ⟨bs, os + j * 2, none⟩ = some (.int .u64 ((s.getD j (0, 0)).1 : Int)) := keepc HD2.out d1
          have q0 : wr.cell? ⟨bs, os + j * 2 + 1, none⟩ = some (.int .u64 ((s.getD j (0, 0)).2 : Int)) := keepc HD2.out d0
          have HS : Hid (t.take (j + 1) = s.take (j + 1) ↔ t.take j = s.take j ∧ t.getD j (0, 0) = s.getD j (0, 0)) := take_eq hjl (by rw [HT.out.2.2.2.2.1]; exact hjl)
          clear c1 c0 d1 d0 hbt hbs HT
          generalize t.getD j (0, 0) = x at *
          generalize s.getD j (0, 0) = y at *
          have hjI : (j : Int) < (t.length : Int) := by omega
          by_cases hsm : t.take j = s.take j
          · rw [decide_eq_true hsm]
            by_cases h1 : x.1 = y.1
            · by_cases h2 : x.2 = y.2
              · obtain rfl : x = y := Prod.ext h1 h2
                have HR : Hid (decide (t.take (j + 1) = s.take (j + 1)) = true) := decide_eq_true (HS.out.2 ⟨hsm, rfl⟩)
                clear HS hsm h1 h2
                go_upto_region 18 with fail
                go_region_held3 (fun w => w.cell? ⟨bt, ot + j * 2, none⟩ = some (.int .u64 (x.1 : Int)) ∧ w.cell? ⟨bt, ot + j * 2 + 1, none⟩ = some (.int .u64 (x.2 : Int)) ∧ w.cell? ⟨bs, os + j * 2, none⟩ = some (.int .u64 (x.1 : Int)) ∧ w.cell? ⟨bs, os + j * 2 + 1, none⟩ = some (.int .u64 (x.2 : Int))) (go_keep) (fail)
                go_wp2
                exact ⟨⟨j + 1, hjl, by simp, by rw [HR.out], HD2.out.drew⟩, by simp [intOf]; omega⟩
              · have HR : Hid (decide (t.take (j + 1) = s.take (j + 1)) = false) := decide_eq_false fun h => h2 (by rw [(HS.out.1 h).2])
                have h2' : ¬ (x.2 : Int) = (y.2 : Int) := by omega
                clear HS hsm h2
                go_upto_region 18 with fail
                go_region_held3 (fun w => w.cell? ⟨bt, ot + j * 2, none⟩ = some (.int .u64 (x.1 : Int)) ∧ w.cell? ⟨bt, ot + j * 2 + 1, none⟩ = some (.int .u64 (x.2 : Int)) ∧ w.cell? ⟨bs, os + j * 2, none⟩ = some (.int .u64 (y.1 : Int)) ∧ w.cell? ⟨bs, os + j * 2 + 1, none⟩ = some (.int .u64 (y.2 : Int))) (go_keep) (fail)
                go_wp2
                exact ⟨⟨j + 1, hjl, by simp, by rw [HR.out], HD2.out.drew⟩, by simp [intOf]; omega⟩
            · have HR : Hid (decide (t.take (j + 1) = s.take (j + 1)) = false) := decide_eq_false fun h => h1 (by rw [(HS.out.1 h).2])
              have h1' : ¬ (x.1 : Int) = (y.1 : Int) := by omega
              clear HS hsm h1
              go_upto_region 18 with fail
              go_region_held3 (fun w => w.cell? ⟨bt, ot + j * 2, none⟩ = some (.int .u64 (x.1 : Int)) ∧ w.cell? ⟨bt, ot + j * 2 + 1, none⟩ = some (.int .u64 (x.2 : Int)) ∧ w.cell? ⟨bs, os + j * 2, none⟩ = some (.int .u64 (y.1 : Int)) ∧ w.cell? ⟨bs, os + j * 2 + 1, none⟩ = some (.int .u64 (y.2 : Int))) (go_keep) (fail)
              go_wp2
              exact ⟨⟨j + 1, hjl, by simp, by rw [HR.out], HD2.out.drew⟩, by simp [intOf]; omega⟩
          · rw [decide_eq_false hsm]
            have HR : Hid (decide (t.take (j + 1) = s.take (j + 1)) = false) := decide_eq_false fun h => hsm (HS.out.1 h).1
            clear HS hsm
            go_upto_region 18 with fail
            refine wp_region_noPanic ?_
            refine wp_region_peel (S := fun _ => True) 12 (by kernel_rfl) rfl (by kernel_rfl) trivial (fun hHeld => ?_)
            refine wpAnyH_take (i := 0) (oi := _) (v := ?_) rfl (by kernel_rfl) (by kernel_rfl) (by kernel_rfl) (fun _ _ _ h => h) (Or.inl ⟨by rfl, ?_⟩) (by assumption) ?_
            rotate_left
            · ((intro w hSw; (try dsimp only at hSw); go_simp) <;> (try with_reducible rfl))
            try simp only [Act.put]
            refine wpAnyH_take (i := 1) (oi := _) (v := ?_) rfl (by kernel_rfl) (by kernel_rfl) (by kernel_rfl) (fun _ _ _ h => h) (Or.inl ⟨by rfl, ?_⟩) (by assumption) ?_
            rotate_left
            · ((intro w hSw; (try dsimp only at hSw); go_simp) <;> (try with_reducible rfl))
            try simp only [Act.put]
            refine wpAnyH_take (i := 2) (oi := _) (v := _) rfl (by kernel_rfl) (by kernel_rfl) (by kernel_rfl) (fun _ _ _ h => h) (Or.inr ⟨by kernel_rfl, rfl⟩) (by assumption) ?_
            try simp only [Act.put]
            refine wpAnyH_take (i := 3) (oi := _) (v := _) rfl (by kernel_rfl) (by kernel_rfl) (by kernel_rfl) (fun _ _ _ h => h) (Or.inr ⟨by kernel_rfl, rfl⟩) (by assumption) ?_
            try simp only [Act.put]
            refine wpAnyH_take (i := 4) (oi := _) (v := _) rfl (by kernel_rfl) (by kernel_rfl) (by kernel_rfl) (fun _ _ _ h => h) (Or.inr ⟨by kernel_rfl, rfl⟩) (by assumption) ?_
            try simp only [Act.put]
            refine wpAnyH_take (i := 5) (oi := _) (v := _) rfl (by kernel_rfl) (by kernel_rfl) (by kernel_rfl) (fun _ _ _ h => h) (Or.inr ⟨by kernel_rfl, rfl⟩) (by assumption) ?_
            try simp only [Act.put]
            refine wpAnyH_take (i := 6) (oi := _) (v := _) rfl (by kernel_rfl) (by kernel_rfl) (by kernel_rfl) (fun _ _ _ h => h) (Or.inr ⟨by kernel_rfl, rfl⟩) (by assumption) ?_
            try simp only [Act.put]
            refine wpAnyH_take (i := 7) (oi := _) (v := _) rfl (by kernel_rfl) (by kernel_rfl) (by kernel_rfl) (fun _ _ _ h => h) (Or.inr ⟨by kernel_rfl, rfl⟩) (by assumption) ?_
            try simp only [Act.put]
            refine wpAnyH_take (i := 8) (oi := _) (v := _) rfl (by kernel_rfl) (by kernel_rfl) (by kernel_rfl) (fun _ _ _ h => h) (Or.inr ⟨by kernel_rfl, rfl⟩) (by assumption) ?_
            try simp only [Act.put]
            refine wpAnyH_take (i := 9) (oi := _) (v := _) rfl (by kernel_rfl) (by kernel_rfl) (by kernel_rfl) (fun _ _ _ h => h) (Or.inr ⟨by kernel_rfl, rfl⟩) (by assumption) ?_
            try simp only [Act.put]
            refine wpAnyH_take (i := 10) (oi := _) (v := _) rfl (by kernel_rfl) (by kernel_rfl) (by kernel_rfl) (fun _ _ _ h => h) (Or.inr ⟨by kernel_rfl, rfl⟩) (by assumption) ?_
            try simp only [Act.put]
            refine wpAnyH_take (i := 11) (oi := _) (v := ?_) rfl (by kernel_rfl) (by kernel_rfl) (by kernel_rfl) (fun _ _ _ h => h) (Or.inl ⟨by rfl, ?_⟩) (by assumption) ?_
            rotate_left
            · ((intro w hSw; (try dsimp only at hSw); go_simp) <;> (try with_reducible rfl))
            try simp only [Act.put]
            refine wpAnyH_done (by kernel_rfl) ?_ _
            refine peel_last rfl (fun KK hKK => ?_)
            go_simp
            refine hKK _ _ ?_
            refine NoPanic.normal ?_
            clear hKK KK
            go_wp2
            exact ⟨⟨j + 1, hjl, by simp, by rw [HR.out], HD2.out.drew⟩, by simp [intOf]; omega⟩
        · obtain rfl : j = t.length := by omega
          have e1 : t.take t.length = t := List.take_of_length_le (Nat.le_refl _)
          have e2 : s.take t.length = s := List.take_of_length_le (by rw [HT.out.2.2.2.2.1]; exact Nat.le_refl _)
          rw [e1, e2]
          clear e1 e2
          by_cases hts : t = s
          · rw [decide_eq_true hts]
            have hag2 : agr t s i = 2 := by subst hts; rw [HI.out]; exact atv_cnt_same t 2
            rw [hag2]
            clear HT hts hag hag2
            go_wp2_with (go_at_call 9; refine (AW.out.go _).mono ?_; rintro e w9 ⟨rfl, hb9⟩)
            go_ret
            refine ⟨rfl, ?_⟩
            have d9 := HD2.out.trans (hb9.mono HD2.out.size)
            first | exact d9 | exact d9.alloc d9.size _
          · rw [decide_eq_false hts]
            have hag2 : agr t s i ≤ t.length - 1 := atv_apart HT.out.2.2.1 HT.out.2.2.2.1 HT.out.2.2.2.2.1 hts i (by have := HI.out; omega) (by have := HT.out.2.2.2.2.2.2.1; omega)
            have hag3 : ((agr t s i : Nat) : Int) ≤ (t.length : Int) - 1 := by have := HT.out.2.2.2.2.2.1; omega
            clear HT hts hag2
            generalize agr t s i = m at *
            go_wp2_with (go_at_call 9; refine (AW.out.go _).mono ?_; rintro e w9 ⟨rfl, hb9⟩)
            go_ret
            exact ⟨rfl, HD2.out.trans (hb9.mono HD2.out.size)⟩
end Go.Proofs.Ytcnbaoijgfaljaa
