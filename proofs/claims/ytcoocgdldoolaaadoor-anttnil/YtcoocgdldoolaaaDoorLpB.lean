/- The contract of linpoly's value over the seat's translation. -/
import Derived.Test.YtcoocgdldoolaaaDoorLpA
import Derived.Test.YtcoocgdldoolaaaDoorPeel
namespace Go.Proofs.YtcoocgdldoolaaaDoor
open Go.RowKit

/-- An element that changes, and a room. -/
structure Gst (W w : World) (h l : Nat) : Prop where
  x : Ew w W.heap.size h l
  r : Ew w (W.heap.size + 1) 0 0
  d : Below W.heap.size W w
theorem Gst.below {W w w' : World} {h l : Nat} (k : Gst W w h l) (hb : Below w.heap.size w w') : Gst W w' h l := ⟨k.x.below hb, k.r.below hb, k.d.trans (hb.mono k.d.size)⟩
theorem Gst.drew {W w : World} {h l : Nat} (k : Gst W w h l) : Gst W w.drew h l := ⟨k.x.drew, k.r.drew, k.d.drew⟩
theorem Gst.put {W w : World} {h l : Nat} (k : Gst W w h l) (u v : Nat) : Gst W ((w.setCell ⟨W.heap.size, 0, none⟩ (.int .u64 (u : Int))).setCell ⟨W.heap.size, 1, none⟩ (.int .u64 (v : Int))) u v :=
  ⟨k.x.set _ _, k.r.other (by omega) _ _, below2 (p := W.heap.size) k.d (Nat.le_refl _) _ _⟩
theorem Gst.old {W w : World} {h l : Nat} (k : Gst W w h l) {a : Addr} {v : Value} (ha : a.block < W.heap.size) (hc : W.cell? a = some v) : w.cell? a = some v := by rw [k.d.cell ha]; exact hc
set_option maxHeartbeats 8000000 in
set_option maxRecDepth 100000 in
theorem value_core (l : Int) (B i xh xl : Nat) (at_ : Option Addr) (capt : Nat) (ts : List (Nat × Nat)) (sv yv : Nat → Nat × Nat) (W : World) (hB : B < W.heap.size)
    (c0 : W.cell? ⟨B, 0, none⟩ = some (.int .i64 l)) (c2 : W.cell? ⟨B, 2, none⟩ = some (.slice at_ ts.length capt)) (hr : ERow W at_ ts) (hi : i ≤ ts.length) (h10 : ts.length ≤ 1000)
    (S0 : Hid (sv 0 = (xh, xl)))
    (AD : Hid (∀ k : Nat, k < i → Ret 14 #[.agg #[.int .u64 ((sv k).1 : Int), .int .u64 ((sv k).2 : Int)], .agg #[.int .u64 ((ts.getD k (0, 0)).1 : Int), .int .u64 ((ts.getD k (0, 0)).2 : Int)]] (.agg #[.int .u64 ((yv k).1 : Int), .int .u64 ((yv k).2 : Int)])))
    (MU : Hid (∀ k : Nat, k < i → Ret 15 #[.int .i64 l, .agg #[.int .u64 ((sv k).1 : Int), .int .u64 ((sv k).2 : Int)], .agg #[.int .u64 ((yv k).1 : Int), .int .u64 ((yv k).2 : Int)]] (.agg #[.int .u64 ((sv (k + 1)).1 : Int), .int .u64 ((sv (k + 1)).2 : Int)])))
    (SZ : Hid (∀ k : Nat, k ≤ i → sv k = (0, 0) → sv i = (0, 0))) :
    Calls Tryd.prog 35 #[.pointer (some ⟨B, 0, none⟩), .int .i64 (i : Int), .agg #[.int .u64 (xh : Int), .int .u64 (xl : Int)]] W fun e w' => e = .returned (.agg #[.int .u64 ((sv i).1 : Int), .int .u64 ((sv i).2 : Int)]) ∧ Below W.heap.size W w' := by
  have HC : Hid (B < W.heap.size ∧ W.cell? ⟨B, 0, none⟩ = some (.int .i64 l) ∧ W.cell? ⟨B, 2, none⟩ = some (.slice at_ ts.length capt)) := ⟨hB, c0, c2⟩
  have HR : Hid (ERow W at_ ts) := hr
  clear c0 c2 hr
  go_enter Tryd.func35, Tryd.ntmps35
  go_wp2
  refine wp_scope_many (fun lb a w => ∃ (k : Nat) (u8 u9 u10 u11 u12 u13 u14 u15 u16 u17 u18 u19 u20 u21 u22 u23 u24 u25 u26 u27 u28 u29 u30 u31 u32 u33 : Value), a = { tmps := #[.pointer (some ⟨B, 0, none⟩), .int .i64 (i : Int), .agg #[.int .u64 (xh : Int), .int .u64 (xl : Int)], undef, undef, .pointer (some ⟨W.heap.size, 0, none⟩), .pointer (some ⟨W.heap.size + 1, 0, none⟩), .int .i64 (k : Int), u8, u9, u10, u11, u12, u13, u14, u15, u16, u17, u18, u19, u20, u21, u22, u23, u24, u25, u26, u27, u28, u29, u30, u31, u32, u33], defers := [] } ∧ k ≤ i ∧ (lb = 0 ∨ (lb = 1 ∧ k < i) ∨ (lb = 2 ∧ sv k = sv i)) ∧ Gst W w (sv k).1 (sv k).2)
    (fun lb a _ => if lb = 0 then i + 1 else if lb = 1 then i - (intOf (a.tmps.getD 7 undef)).toNat else 0) ?_ ?_
  · go_wp2
    go_step3
    refine ⟨0, _, _, _, _, _, _, _, _, _, _, _, _, _, _, _, _, _, _, _, _, _, _, _, _, _, _, rfl, Nat.zero_le _, .inl rfl, ?_⟩
    rw [S0.out]
    exact ⟨⟨⟨by simp [go_sem], by simp [go_sem]⟩, by simp [go_sem], by simp [go_sem]⟩, ⟨⟨by simp [go_sem], by simp [go_sem]⟩, by simp [go_sem], by simp [go_sem]⟩, by go_grown⟩
  · rintro lb a w ⟨k, u8, u9, u10, u11, u12, u13, u14, u15, u16, u17, u18, u19, u20, u21, u22, u23, u24, u25, u26, u27, u28, u29, u30, u31, u32, u33, rfl, hk, hlb, hG⟩
    rcases hlb with rfl | ⟨rfl, hki⟩ | ⟨rfl, hs⟩
    · refine ⟨_, rfl, ?_⟩
      have HG : Hid (Gst W w (sv k).1 (sv k).2) := hG
      have x1 := hG.x.hi
      have x0 := hG.x.lo
      clear hG
      by_cases hki2 : k = i
      · have hki3 : ((k : Nat) : Int) = (i : Int) := by rw [hki2]
        go_wp2
        go_step3
        exact ⟨⟨k, _, _, _, _, _, _, _, _, _, _, _, _, _, _, _, _, _, _, _, _, _, _, _, _, _, _, rfl, hk, .inr (.inr ⟨rfl, by rw [hki2]⟩), HG.out⟩, by simp⟩
      · have hki3 : ¬ ((k : Nat) : Int) = (i : Int) := by omega
        by_cases hz : sv k = (0, 0)
        · have hz2 : Hid (sv k = sv i) := by show _ = _; rw [SZ.out k hk hz, hz]
          have z1 : (sv k).1 = 0 := by rw [hz]
          have z0 : (sv k).2 = 0 := by rw [hz]
          clear hz
          go_wp2
          go_step3
          exact ⟨⟨k, _, _, _, _, _, _, _, _, _, _, _, _, _, _, _, _, _, _, _, _, _, _, _, _, _, _, rfl, hk, .inr (.inr ⟨rfl, hz2.out⟩), HG.out⟩, by simp⟩
        · have z : ¬ ((((sv k).1 : Nat) : Int) = 0 ∧ (((sv k).2 : Nat) : Int) = 0) := fun h => hz (Prod.ext (by have := h.1; omega) (by have := h.2; omega))
          clear hz
          go_wp2
          all_goals go_step3
          all_goals exact ⟨⟨k, _, _, _, _, _, _, _, _, _, _, _, _, _, _, _, _, _, _, _, _, _, _, _, _, _, _, rfl, hk, .inr (.inl ⟨rfl, by omega⟩), HG.out⟩, by simp [intOf]; omega⟩
    · refine ⟨_, rfl, ?_⟩
      obtain ⟨b, off, rfl, hb, d1, d0⟩ := HR.out.cells k (by omega)
      have HA := AD.out k hki
      have HM := MU.out k hki
      have HT : Hid (b < W.heap.size ∧ W.cell? ⟨b, off + k * 2, none⟩ = some (.int .u64 ((ts.getD k (0, 0)).1 : Nat)) ∧ W.cell? ⟨b, off + k * 2 + 1, none⟩ = some (.int .u64 ((ts.getD k (0, 0)).2 : Nat))) := ⟨hb, d1, d0⟩
      have hlen : (k : Int) < (ts.length : Int) := by omega
      clear hb d1 d0 HR AD MU
      generalize ts.getD k (0, 0) = t at *
      have K := hG
      clear hG
      have e0 := K.old (a := ⟨B, 0, none⟩) HC.out.1 HC.out.2.1
      have e2 := K.old (a := ⟨B, 2, none⟩) HC.out.1 HC.out.2.2
      have d1 := K.old (a := ⟨b, off + k * 2, none⟩) HT.out.1 HT.out.2.1
      have d0 := K.old (a := ⟨b, off + k * 2 + 1, none⟩) HT.out.1 HT.out.2.2
      have x1 := K.x.hi
      have x0 := K.x.lo
      have f1 := K.x.fhi
      have f0 := K.x.flo
      go_upto_region 2 with fail
      have i0 : (0 : Int) ≤ (k : Int) := by omega
      refine wp_region_noPanic ?_
      refine wp_region_peel (S := fun w => w.cell? ⟨B, 0, none⟩ = some (.int .i64 l) ∧ w.cell? ⟨B, 2, none⟩ = some (.slice (some ⟨b, off, none⟩) ts.length capt) ∧ w.cell? ⟨b, off + k * 2, none⟩ = some (.int .u64 (t.1 : Int)) ∧ w.cell? ⟨b, off + k * 2 + 1, none⟩ = some (.int .u64 (t.2 : Int)) ∧ w.cell? ⟨W.heap.size, 0, none⟩ = some (.int .u64 ((sv k).1 : Int)) ∧ w.cell? ⟨W.heap.size, 1, none⟩ = some (.int .u64 ((sv k).2 : Int))) 15 (by kernel_rfl) rfl (by kernel_rfl) ?_ (fun hHeld => ?_)
      · exact ⟨e0, e2, d1, d0, x1, x0⟩
      refine wpAnyH_take (i := 0) (oi := _) (v := ?_) rfl (by kernel_rfl) (by kernel_rfl) (by kernel_rfl) (fun _ _ _ h => h) (Or.inl ⟨by rfl, ?_⟩) (by assumption) ?_
      rotate_left
      · ((intro w hSw; (try dsimp only at hSw); go_simp) <;> (try with_reducible rfl))
      try simp only [Act.put]
      refine wpAnyH_take (i := 1) (oi := _) (v := ?_) rfl (by kernel_rfl) (by kernel_rfl) (by kernel_rfl) (fun _ _ _ h => h) (Or.inl ⟨by rfl, ?_⟩) (by assumption) ?_
      rotate_left
      · ((intro w hSw; (try dsimp only at hSw); go_simp) <;> (try with_reducible rfl))
      try simp only [Act.put]
      refine wpAnyH_take (i := 2) (oi := _) (v := ?_) rfl (by kernel_rfl) (by kernel_rfl) (by kernel_rfl) (fun _ _ _ h => h) (Or.inl ⟨by rfl, ?_⟩) (by assumption) ?_
      rotate_left
      · ((intro w hSw; (try dsimp only at hSw); go_simp) <;> (try with_reducible rfl))
      try simp only [Act.put]
      refine wpAnyH_take (i := 3) (oi := _) (v := ?_) rfl (by kernel_rfl) (by kernel_rfl) (by kernel_rfl) (fun _ _ _ h => h) (Or.inl ⟨by rfl, ?_⟩) (by assumption) ?_
      rotate_left
      · ((intro w hSw; (try dsimp only at hSw); go_simp) <;> (try with_reducible rfl))
      try simp only [Act.put]
      refine wpAnyH_take (i := 4) (oi := _) (v := ?_) rfl (by kernel_rfl) (by kernel_rfl) (by kernel_rfl) (fun _ _ _ h => h) (Or.inl ⟨by rfl, ?_⟩) (by assumption) ?_
      rotate_left
      · ((intro w hSw; (try dsimp only at hSw); go_simp) <;> (try with_reducible rfl))
      try simp only [Act.put]
      refine wpAnyH_take (i := 5) (oi := _) (v := ?_) rfl (by kernel_rfl) (by kernel_rfl) (by kernel_rfl) (fun _ _ _ h => h) (Or.inl ⟨by rfl, ?_⟩) (by assumption) ?_
      rotate_left
      · ((intro w hSw; (try dsimp only at hSw); go_simp) <;> (try with_reducible rfl))
      try simp only [Act.put]
      refine wpAnyH_take (i := 6) (oi := _) (v := ?_) rfl (by kernel_rfl) (by kernel_rfl) (by kernel_rfl) (fun _ _ _ h => h) (Or.inl ⟨by rfl, ?_⟩) (by assumption) ?_
      rotate_left
      · ((intro w hSw; (try dsimp only at hSw); go_simp) <;> (try with_reducible rfl))
      try simp only [Act.put]
      refine wpAnyH_take (i := 7) (oi := _) (v := ?_) rfl (by kernel_rfl) (by kernel_rfl) (by kernel_rfl) (fun _ _ _ h => h) (Or.inl ⟨by rfl, ?_⟩) (by assumption) ?_
      rotate_left
      · ((intro w hSw; (try dsimp only at hSw); go_simp) <;> (try with_reducible rfl))
      try simp only [Act.put]
      refine wpAnyH_take (i := 8) (oi := _) (v := ?_) rfl (by kernel_rfl) (by kernel_rfl) (by kernel_rfl) (fun _ _ _ h => h) (Or.inl ⟨by rfl, ?_⟩) (by assumption) ?_
      rotate_left
      · ((intro w hSw; (try dsimp only at hSw); go_simp) <;> (try with_reducible rfl))
      try simp only [Act.put]
      refine wpAnyH_take (i := 9) (oi := _) (v := ?_) rfl (by kernel_rfl) (by kernel_rfl) (by kernel_rfl) (fun _ _ _ h => h) (Or.inl ⟨by rfl, ?_⟩) (by assumption) ?_
      rotate_left
      · ((intro w hSw; (try dsimp only at hSw); go_simp) <;> (try with_reducible rfl))
      try simp only [Act.put]
      refine wpAnyH_take (i := 10) (oi := _) (v := ?_) rfl (by kernel_rfl) (by kernel_rfl) (by kernel_rfl) (fun _ _ _ h => h) (Or.inl ⟨by rfl, ?_⟩) (by assumption) ?_
      rotate_left
      · ((intro w hSw; (try dsimp only at hSw); go_simp) <;> (try with_reducible rfl))
      try simp only [Act.put]
      refine wpAnyH_take (i := 11) (oi := _) (v := ?_) rfl (by kernel_rfl) (by kernel_rfl) (by kernel_rfl) (fun _ _ _ h => h) (Or.inl ⟨by rfl, ?_⟩) (by assumption) ?_
      rotate_left
      · ((intro w hSw; (try dsimp only at hSw); go_simp) <;> (try with_reducible rfl))
      try simp only [Act.put]
      refine wpAnyH_take (i := 12) (oi := _) (v := ?_) rfl (by kernel_rfl) (by kernel_rfl) (by kernel_rfl) (fun _ _ _ h => h) (Or.inl ⟨by rfl, ?_⟩) (by assumption) ?_
      rotate_left
      · ((intro w hSw; (try dsimp only at hSw); go_simp) <;> (try with_reducible rfl))
      try simp only [Act.put]
      refine wpAnyH_ready (rs := [13]) (by kernel_rfl) (by simp) ?_
      refine AllReadyH.cons (o := _) rfl (fun KK hKK => ?_) AllReadyH.nil
      go_simp
      (go_at_call 14; refine (HA.go _).mono ?_; rintro e w' ⟨rfl, hb'⟩; have K'' := Gst.below (w' := w') (by first | exact K | exact K.drew) hb'; clear e0 e2 d1 d0 x1 x0 f1 f0 K hb'; have K := K''; clear K''; have e0 := K.old (a := ⟨B, 0, none⟩) HC.out.1 HC.out.2.1; have e2 := K.old (a := ⟨B, 2, none⟩) HC.out.1 HC.out.2.2; have d1 := K.old (a := ⟨b, off + k * 2, none⟩) HT.out.1 HT.out.2.1; have d0 := K.old (a := ⟨b, off + k * 2 + 1, none⟩) HT.out.1 HT.out.2.2; have x1 := K.x.hi; have x0 := K.x.lo; have f1 := K.x.fhi; have f0 := K.x.flo)
      refine hKK.out _ _ ?_ (fun hHeld2 => ?_)
      · go_keep
      clear hKK KK
      try simp only [Act.put]
      refine wpAnyH_ready (rs := [14]) (by kernel_rfl) (by simp) ?_
      refine AllReadyH.cons (o := _) rfl (fun KK hKK => ?_) AllReadyH.nil
      go_simp
      (go_at_call 15; refine (HM.go _).mono ?_; rintro e w' ⟨rfl, hb'⟩; have K'' := Gst.below (w' := w') (by first | exact K | exact K.drew) hb'; clear e0 e2 d1 d0 x1 x0 f1 f0 K hb'; have K := K''; clear K''; have e0 := K.old (a := ⟨B, 0, none⟩) HC.out.1 HC.out.2.1; have e2 := K.old (a := ⟨B, 2, none⟩) HC.out.1 HC.out.2.2; have d1 := K.old (a := ⟨b, off + k * 2, none⟩) HT.out.1 HT.out.2.1; have d0 := K.old (a := ⟨b, off + k * 2 + 1, none⟩) HT.out.1 HT.out.2.2; have x1 := K.x.hi; have x0 := K.x.lo; have f1 := K.x.fhi; have f0 := K.x.flo)
      refine hKK.out _ _ ?_ (fun hHeld2 => ?_)
      · go_keep
      clear hKK KK
      try simp only [Act.put]
      refine wpAnyH_done (by kernel_rfl) ?_ _
      refine peel_last rfl (fun KK hKK => ?_)
      have HG : Hid (Gst W _ (sv (k + 1)).1 (sv (k + 1)).2) := K.put _ _
      clear hHeld hHeld2 e0 e2 d1 d0 K
      go_simp
      refine hKK _ _ ?_
      refine NoPanic.normal ?_
      clear hKK
      have hk1 : k + 1 ≤ i := hki
      obtain ⟨w9, hw9⟩ : ∃ w9, w9 = ((w'.setCell ⟨W.heap.size, 0, none⟩ (.int .u64 ((sv (k + 1)).1 : Int))).setCell ⟨W.heap.size, 1, none⟩ (.int .u64 ((sv (k + 1)).2 : Int))) := ⟨_, rfl⟩
      rw [← hw9] at HG ⊢
      clear hw9 x1 x0 f1 f0
      have x1 := HG.out.x.hi
      have x0 := HG.out.x.lo
      go_wp2
      go_step3
      by_cases hki2 : k + 1 = i
      · have hki3 : (k : Int) + 1 = (i : Int) := by omega
        go_wp2
        go_step3
        exact ⟨⟨k + 1, _, _, _, _, _, _, _, _, _, _, _, _, _, _, _, _, _, _, _, _, _, _, _, _, _, _, rfl, hk1, .inr (.inr ⟨rfl, by rw [hki2]⟩), HG.out⟩, by simp [intOf]; omega⟩
      · have hki3 : ¬ (k : Int) + 1 = (i : Int) := by omega
        by_cases hz : sv (k + 1) = (0, 0)
        · have hz2 : Hid (sv (k + 1) = sv i) := by show _ = _; rw [SZ.out (k + 1) hk1 hz, hz]
          have z1 : (sv (k + 1)).1 = 0 := by rw [hz]
          have z0 : (sv (k + 1)).2 = 0 := by rw [hz]
          clear hz
          go_wp2
          go_step3
          exact ⟨⟨k + 1, _, _, _, _, _, _, _, _, _, _, _, _, _, _, _, _, _, _, _, _, _, _, _, _, _, _, rfl, hk1, .inr (.inr ⟨rfl, hz2.out⟩), HG.out⟩, by simp [intOf]; omega⟩
        · have z : ¬ ((((sv (k + 1)).1 : Nat) : Int) = 0 ∧ (((sv (k + 1)).2 : Nat) : Int) = 0) := fun h => hz (Prod.ext (by have := h.1; omega) (by have := h.2; omega))
          clear hz
          go_wp2
          all_goals go_step3
          all_goals exact ⟨⟨k + 1, _, _, _, _, _, _, _, _, _, _, _, _, _, _, _, _, _, _, _, _, _, _, _, _, _, _, rfl, hk1, .inr (.inl ⟨rfl, by omega⟩), HG.out⟩, by simp [intOf]; omega⟩
    · refine ⟨_, rfl, ?_⟩
      rw [hs] at hG
      have HG : Hid (Below W.heap.size W w) := hG.d
      obtain ⟨⟨x1, x0⟩, _, _⟩ := hG.x
      obtain ⟨⟨r1, r0⟩, t1, t0⟩ := hG.r
      clear hG hs
      go_wp2
      rw [Exit.jumps_ret]
      refine bodyPost_ret (v := .agg #[.int .u64 ((sv i).1 : Int), .int .u64 ((sv i).2 : Int)]) (by simp [results, Tryd.results35, go_sem, *]) rfl ⟨rfl, ?_⟩
      exact below2 (p := W.heap.size + 1) HG.out (by omega) _ _
end Go.Proofs.YtcoocgdldoolaaaDoor
