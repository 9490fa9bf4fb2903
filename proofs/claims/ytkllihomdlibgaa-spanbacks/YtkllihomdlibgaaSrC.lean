/- The contracts of span.Back and the document's CanBack over the seat's translation. -/
import Derived.Test.YtkllihomdlibgaaSrB
import Derived.Test.YtkllihomdlibgaaPTwBu
namespace Go.Proofs.Ytkllihomdlibgaa
open Go.RowKit
open Cb Rg Sq

set_option maxHeartbeats 8000000 in
set_option maxRecDepth 100000 in
theorem back_ok (a : Option Addr) (cap : Nat) (m : List (Nat × Nat)) (hw : Wh m) (W : World) (hr : ERow W a m) :
    Calls Try.prog 29 #[.slice a m.length cap] W fun e w' => ∃ g, e = .returned (.tuple #[.slice (some ⟨g, 0, none⟩) m.length m.length, .int .i64 0]) ∧ ERow w' (some ⟨g, 0, none⟩) (bkL m) ∧ Below W.heap.size W w' := by
  have HM := hidT (smap_yes a m.length cap hw.le)
  have hfit : fitL m m.length = true := (fitL_iff _ _).2 fun e he => by
    obtain ⟨i, _, rfl⟩ := mem_el he
    exact hw.fit i
  have HF : Hid (∀ w, Below W.heap.size W w → Calls Try.prog 48 #[.slice a m.length cap, .int .i64 (m.length : Int)] w fun e w' => e = .returned (.bool true) ∧ Below w.heap.size w w') := fun w hb => by
    have := within_any a cap m.length m hw.lt (by have := hw.le; omega) w (hr.below hb)
    rwa [hfit] at this
  have HE : Hid (∀ w, Below W.heap.size W w → Calls Try.prog 37 #[.slice a m.length cap] w fun e w' => ∃ a0 n0 a1 n1, e = .returned (.agg #[.slice a0 (elm m m.length).1.length n0, .slice a1 (elm m m.length).2.length n1]) ∧
      (∀ i : Nat, ∀ w2, Below w'.heap.size w' w2 → Calls Try.prog 39 #[.agg #[.slice a0 (elm m m.length).1.length n0, .slice a1 (elm m m.length).2.length n1], .agg #[.int .u64 ((bv (i : Int)).1 : Int), .int .u64 ((bv (i : Int)).2 : Int)]] w2 fun e w3 => e = .returned (.tuple #[.agg #[.int .u64 (((redv (elm m m.length).1 (bv (i : Int)) (elm m m.length).1.length).1.1 : Nat) : Int), .int .u64 (((redv (elm m m.length).1 (bv (i : Int)) (elm m m.length).1.length).1.2 : Nat) : Int)], .agg #[.int .u64 ((bk m i).1 : Int), .int .u64 ((bk m i).2 : Int)]]) ∧ Below w2.heap.size w2 w3) ∧ Below w.heap.size w w') := fun w hb => by
    refine (elim_red a cap m hw.lt hw.le w (hr.below hb)).mono ?_
    rintro e w' ⟨a0, n0, a1, n1, rfl, _, _, h, hb⟩
    exact ⟨a0, n0, a1, n1, rfl, fun i w2 h2 => h w2 h2 (bv (i : Int)) (bv_lt2 _), hb⟩
  have e1 : (elm m m.length).1.length = m.length := by rw [elm_len hw.lt, hw.rank]
  have HBt : Hid (∀ i : Nat, Ret 31 #[.int .i64 (i : Int)] (.agg #[.int .u64 ((bv (i : Int)).1 : Int), .int .u64 ((bv (i : Int)).2 : Int)])) := fun i => bit_any (i : Int)
  have hle := hw.le
  have HL : Hid ((bkL m).length = m.length ∧ ∀ i, i < m.length → el (bkL m) i = bk m i) := ⟨bkL_len m, fun i hi => bkL_at m hi⟩
  obtain ⟨i0, hi0, hz0, hz1, hz2⟩ := info_elem
  have HI : Hid (Try.prog.info? 25 = some i0 ∧ i0.zero = some (.agg #[.int .u64 0, .int .u64 0]) ∧ i0.size = 2 ∧ i0.bytes = 16) := ⟨hi0, hz0, hz1, hz2⟩
  clear hr hw hfit hi0 hz0 hz1 hz2
  generalize (elm m m.length).2.length = N2 at *
  generalize bkL m = L at *
  generalize bk m = f at *
  obtain ⟨lf, hlf⟩ : ∃ lf : Nat → Nat × Nat, lf = fun i : Nat => (redv (elm m m.length).1 (bv (i : Int)) (elm m m.length).1.length).1 := ⟨_, rfl⟩
  replace HE : Hid (∀ w, Below W.heap.size W w → Calls Try.prog 37 #[.slice a m.length cap] w fun e w' => ∃ a0 n0 a1 n1, e = .returned (.agg #[.slice a0 (elm m m.length).1.length n0, .slice a1 N2 n1]) ∧
      (∀ i : Nat, ∀ w2, Below w'.heap.size w' w2 → Calls Try.prog 39 #[.agg #[.slice a0 (elm m m.length).1.length n0, .slice a1 N2 n1], .agg #[.int .u64 ((bv (i : Int)).1 : Int), .int .u64 ((bv (i : Int)).2 : Int)]] w2 fun e w3 => e = .returned (.tuple #[.agg #[.int .u64 ((lf i).1 : Int), .int .u64 ((lf i).2 : Int)], .agg #[.int .u64 ((f i).1 : Int), .int .u64 ((f i).2 : Int)]]) ∧ Below w2.heap.size w2 w3) ∧ Below w.heap.size w w') := by rw [hlf]; exact HE
  clear hlf
  rw [e1] at HE
  clear e1
  generalize m.length = N at *
  go_enter Try.func29, Try.ntmps29
  go_upto_region 6 with (first
    | (go_at_call 44; refine (HM.out.go _).mono ?_; rintro e w1 ⟨rfl, hb1⟩; have D1 := hidT hb1; clear hb1 HM)
    | (go_at_call 48; refine (HF.out _ D1.out).mono ?_; rintro e w2 ⟨rfl, hb2⟩; have D2 := hidT (D1.out.trans (hb2.mono D1.out.size)); clear hb2 HF D1)
    | (go_at_call 37; refine (HE.out _ D2.out).mono ?_; rintro e w3 ⟨a0, n0, a1, n1, rfl, hred, hb3⟩; have D3 := hidT (And.intro (D2.out.trans (hb3.mono D2.out.size)) hred); clear hb3 hred D2 HE))
  have B1 : Below w3.heap.size w3 (w3.alloc (Obj.cells #[.slice a0 N n0, .slice a1 N2 n1] 70)) := by go_grown
  have HB : Hid ((w3.alloc (Obj.cells #[.slice a0 N n0, .slice a1 N2 n1] 70)).cell? ⟨w3.heap.size, 0, none⟩ = some (.slice a0 N n0) ∧ (w3.alloc (Obj.cells #[.slice a0 N n0, .slice a1 N2 n1] 70)).cell? ⟨w3.heap.size, 1, none⟩ = some (.slice a1 N2 n1) ∧ Below W.heap.size W (w3.alloc (Obj.cells #[.slice a0 N n0, .slice a1 N2 n1] 70)) ∧ (∀ i : Nat, ∀ w2, Below (w3.alloc (Obj.cells #[.slice a0 N n0, .slice a1 N2 n1] 70)).heap.size (w3.alloc (Obj.cells #[.slice a0 N n0, .slice a1 N2 n1] 70)) w2 → Calls Try.prog 39 #[.agg #[.slice a0 N n0, .slice a1 N2 n1], .agg #[.int .u64 ((bv (i : Int)).1 : Int), .int .u64 ((bv (i : Int)).2 : Int)]] w2 fun e w3 => e = .returned (.tuple #[.agg #[.int .u64 ((lf i).1 : Int), .int .u64 ((lf i).2 : Int)], .agg #[.int .u64 ((f i).1 : Int), .int .u64 ((f i).2 : Int)]]) ∧ Below w2.heap.size w2 w3)) := ⟨by simp [go_sem], by simp [go_sem], D3.out.1.trans (B1.mono D3.out.1.size), fun i w2 h2 => D3.out.2 i w2 (B1.trans (h2.mono B1.size))⟩
  clear B1 D3
  generalize w3.alloc (Obj.cells #[.slice a0 N n0, .slice a1 N2 n1] 70) = Wb at *
  generalize w3.heap.size = g4 at *
  have c0 := HB.out.1
  go_wp2_with (at_make; refine wpList_make_full _ rfl _ _ 22 rfl 0 25 i0 (.agg #[.int .u64 0, .int .u64 0]) 2 Try.underlying22 HI.out.1 HI.out.2.1 HI.out.2.2.1 .i64 .i64 _ _ N rfl rfl rfl rfl (by rw [HI.out.2.2.2]; omega) (by simp only [maxLen]; omega) (Nat.zero_le _) ?_; intro w5 own5 hgr5; have K0 : Hid (Tn Wb w5 N (fun j => if j < 0 then f j else (0, 0))) := Tn.start own5 hgr5 _ (fun c _ => if_neg (by omega)); clear own5 hgr5)
  clear HI c0
  go_loopw [28] (fun u wr => ∃ i : Nat, i ≤ N ∧ u = .int .i64 i ∧ Hid (Tn Wb wr N (fun j => if j < i then f j else (0, 0)))) (fun u _ => N - (intOf u).toNat)
  case atStart => exact ⟨0, Nat.zero_le _, rfl, K0⟩
  case round =>
    obtain ⟨i, hi, rfl, HK⟩ := hrel
    clear K0
    by_cases hlt : i < N
    · have HBi := hidT (HBt.out i)
      have HRd := hidT (HB.out.2.2.2 i)
      have i1 : (i : Int) < (N : Int) := by omega
      have i0' : (0 : Int) ≤ (i : Int) := by omega
      have hgr := HK.out.row.lt
      clear HBt
      generalize hx : f i = x at *
      have HX := hidT hx
      clear hx
      generalize lf i = q at *
      generalize bv (i : Int) = y at *
      go_upto_region 12 with fail
      have K := hidT HK.out.drew
      clear HK
      refine wp_region_noPanic ?_
      refine wp_region_peel (S := fun w => w.cell? ⟨g4, 0, none⟩ = some (.slice a0 N n0) ∧ w.cell? ⟨g4, 1, none⟩ = some (.slice a1 N2 n1)) 10 (by kernel_rfl) rfl (by kernel_rfl) ?_ (fun hHeld => ?_)
      · exact ⟨keepc K.out.d HB.out.1, keepc K.out.d HB.out.2.1⟩
      refine wpAnyH_take (i := 0) (oi := _) (v := ?_) rfl (by kernel_rfl) (by kernel_rfl) (by kernel_rfl) (fun _ _ _ h => h) (Or.inl ⟨by rfl, ?_⟩) (by assumption) ?_
      rotate_left
      · ((intro w hSw; (try dsimp only at hSw); go_simp) <;> (try with_reducible rfl))
      show wpAnyH _ _ _ _ _ _ _ (Act.put _ (some 32) _) _
      simp only [Act.put, List.setIfInBounds_toArray, List.set_cons_succ, List.set_cons_zero]
      refine wpAnyH_take (i := 1) (oi := _) (v := ?_) rfl (by kernel_rfl) (by kernel_rfl) (by kernel_rfl) (fun _ _ _ h => h) (Or.inl ⟨by rfl, ?_⟩) (by assumption) ?_
      rotate_left
      · ((intro w hSw; (try dsimp only at hSw); go_simp) <;> (try with_reducible rfl))
      show wpAnyH _ _ _ _ _ _ _ (Act.put _ (some 33) _) _
      simp only [Act.put, List.setIfInBounds_toArray, List.set_cons_succ, List.set_cons_zero]
      refine wpAnyH_take (i := 2) (oi := _) (v := ?_) rfl (by kernel_rfl) (by kernel_rfl) (by kernel_rfl) (fun _ _ _ h => h) (Or.inl ⟨by rfl, ?_⟩) (by assumption) ?_
      rotate_left
      · ((intro w hSw; (try dsimp only at hSw); go_simp) <;> (try with_reducible rfl))
      show wpAnyH _ _ _ _ _ _ _ (Act.put _ (some 34) _) _
      simp only [Act.put, List.setIfInBounds_toArray, List.set_cons_succ, List.set_cons_zero]
      refine wpAnyH_take (i := 3) (oi := _) (v := ?_) rfl (by kernel_rfl) (by kernel_rfl) (by kernel_rfl) (fun _ _ _ h => h) (Or.inl ⟨by rfl, ?_⟩) (by assumption) ?_
      rotate_left
      · ((intro w hSw; (try dsimp only at hSw); go_simp) <;> (try with_reducible rfl))
      show wpAnyH _ _ _ _ _ _ _ (Act.put _ (some 35) _) _
      simp only [Act.put, List.setIfInBounds_toArray, List.set_cons_succ, List.set_cons_zero]
      refine wpAnyH_ready (rs := [4]) (by kernel_rfl) (by simp) ?_
      refine AllReadyH.cons (o := _) rfl (fun KK hKK => ?_) AllReadyH.nil
      go_simp
      (refine (HBi.out.go _).mono ?_; rintro e w' ⟨rfl, hb'⟩)
      have K'' := hidT (K.out.below (w' := w') hb'); clear K hb'; have K := K''; clear K''
      refine hKK.out _ _ ?_ (fun hHeld => ?_)
      · exact ⟨keepc K.out.d HB.out.1, keepc K.out.d HB.out.2.1⟩
      clear hKK KK
      try simp only [Act.put]
      refine wpAnyH_ready (rs := [5]) (by kernel_rfl) (by simp) ?_
      refine AllReadyH.cons (o := _) rfl (fun KK hKK => ?_) AllReadyH.nil
      go_simp
      (refine (HRd.out _ K.out.d).mono ?_; rintro e w' ⟨rfl, hb'⟩)
      have K'' := hidT (K.out.below (w' := w') hb'); clear K hb'; have K := K''; clear K''
      refine hKK.out _ _ ?_ (fun hHeld => ?_)
      · exact ⟨keepc K.out.d HB.out.1, keepc K.out.d HB.out.2.1⟩
      clear hKK KK
      try simp only [Act.put]
      refine wpAnyH_take (i := 6) (oi := _) (v := ?_) rfl (by kernel_rfl) (by kernel_rfl) (by kernel_rfl) (fun _ _ _ h => h) (Or.inl ⟨by rfl, ?_⟩) (by assumption) ?_
      rotate_left
      · ((intro w hSw; (try dsimp only at hSw); go_simp) <;> (try with_reducible rfl))
      show wpAnyH _ _ _ _ _ _ _ (Act.put _ (some 31) _) _
      simp only [Act.put, List.setIfInBounds_toArray, List.set_cons_succ, List.set_cons_zero]
      refine wpAnyH_take (i := 7) (oi := _) (v := ?_) rfl (by kernel_rfl) (by kernel_rfl) (by kernel_rfl) (fun _ _ _ h => h) (Or.inl ⟨by rfl, ?_⟩) (by assumption) ?_
      rotate_left
      · ((intro w hSw; (try dsimp only at hSw); go_simp) <;> (try with_reducible rfl))
      show wpAnyH _ _ _ _ _ _ _ (Act.put _ (some 38) _) _
      simp only [Act.put, List.setIfInBounds_toArray, List.set_cons_succ, List.set_cons_zero]
      refine wpAnyH_take (i := 8) (oi := _) (v := ?_) rfl (by kernel_rfl) (by kernel_rfl) (by kernel_rfl) (fun _ _ _ h => h) (Or.inl ⟨by rfl, ?_⟩) (by assumption) ?_
      rotate_left
      · ((intro w hSw; (try dsimp only at hSw); go_simp) <;> (try with_reducible rfl))
      show wpAnyH _ _ _ _ _ _ _ (Act.put _ (some 39) _) _
      simp only [Act.put, List.setIfInBounds_toArray, List.set_cons_succ, List.set_cons_zero]
      refine wpAnyH_take (i := 9) (oi := _) (v := ?_) rfl (by kernel_rfl) (by kernel_rfl) (by kernel_rfl) (fun _ _ _ h => h) (Or.inl ⟨by rfl, ?_⟩) (by assumption) ?_
      rotate_left
      · ((intro w hSw; (try dsimp only at hSw); go_simp) <;> (try with_reducible rfl))
      show wpAnyH _ _ _ _ _ _ _ (Act.put _ (some 40) _) _
      simp only [Act.put, List.setIfInBounds_toArray, List.set_cons_succ, List.set_cons_zero]
      refine wpAnyH_done (by kernel_rfl) ?_ _
      refine peel_last rfl (fun KK hKK => ?_)
      clear hHeld
      obtain ⟨r1, r0, f1, f0⟩ := K.out.facts i hlt
      clear HBi HRd HB
      go_simp
      refine hKK _ _ ?_
      refine NoPanic.normal ?_
      clear hKK KK
      have KP := hidT (K.out.put i x (fun j => if j < i + 1 then f j else (0, 0)) fun c _ => by
        by_cases h2 : c = i
        · rw [if_pos (by omega), if_pos h2, h2, HX.out]
        · rw [if_neg h2]
          by_cases h1 : c < i
          · rw [if_pos h1, if_pos (by omega)]
          · rw [if_neg h1, if_neg (by omega)])
      clear K r1 r0 f1 f0
      go_wp2
      exact ⟨⟨i + 1, hlt, by simp, KP⟩, by simp [intOf]; omega⟩
    · obtain rfl : i = N := by omega
      have HE : Hid (ERow wr (some ⟨Wb.heap.size, 0, none⟩) L ∧ Below W.heap.size W wr) := ⟨HK.out.erow HL.out.1 fun c hc => by rw [HL.out.2 c hc, if_pos hc], HB.out.2.2.1.trans (HK.out.d.mono HB.out.2.2.1.size)⟩
      clear HK HB HL HBt
      go_wp2
      refine bodyPost_ret (v := .tuple #[.slice (some ⟨Wb.heap.size, 0, none⟩) i i, .int .i64 0]) (by simp [results, Try.results29, go_sem, *]) rfl ⟨_, rfl, HE.out⟩
set_option maxHeartbeats 4000000 in
set_option maxRecDepth 100000 in
theorem back_err (a : Option Addr) (cap : Nat) (m : List (Nat × Nat)) (hm : ltE m) (hE : ¬ bkE m = 0) (W : World) (hr : ERow W a m) :
    Calls Try.prog 29 #[.slice a m.length cap] W fun e w' => e = .returned (.tuple #[.slice none 0 0, .int .i64 (bkE m)]) ∧ Below W.heap.size W w' := by
  unfold bkE at hE ⊢
  by_cases h1 : 128 < m.length
  · rw [if_pos h1]
    have HM := hidT (smap_no a m.length cap h1)
    clear hE hr hm h1
    generalize m.length = N at *
    go_enter Try.func29, Try.ntmps29
    go_wp2_with (go_at_call 44; refine (HM.out.go _).mono ?_; rintro e w1 ⟨rfl, hb1⟩; have D1 := hidT hb1; clear hb1 HM)
    refine bodyPost_ret (v := .tuple #[.slice none 0 0, .int .i64 1]) (by simp [results, Try.results29, go_sem, *]) rfl ⟨rfl, D1.out⟩
  · rw [if_neg h1] at hE ⊢
    have HM := hidT (smap_yes a m.length cap (by omega))
    have HF : Hid (∀ w, Below W.heap.size W w → Calls Try.prog 48 #[.slice a m.length cap, .int .i64 (m.length : Int)] w fun e w' => e = .returned (.bool (fitL m m.length)) ∧ Below w.heap.size w w') := fun w hb => within_any a cap m.length m hm (by omega) w (hr.below hb)
    cases h2 : fitL m m.length
    · rw [h2] at HF
      rw [if_pos rfl]
      clear hE hr hm h1 h2
      generalize m.length = N at *
      go_enter Try.func29, Try.ntmps29
      go_wp2_with (first
        | (go_at_call 44; refine (HM.out.go _).mono ?_; rintro e w1 ⟨rfl, hb1⟩; have D1 := hidT hb1; clear hb1 HM)
        | (go_at_call 48; refine (HF.out _ D1.out).mono ?_; rintro e w2 ⟨rfl, hb2⟩; have D2 := hidT (D1.out.trans (hb2.mono D1.out.size)); clear hb2 HF D1))
      refine bodyPost_ret (v := .tuple #[.slice none 0 0, .int .i64 6]) (by simp [results, Try.results29, go_sem, *]) rfl ⟨rfl, D2.out⟩
    · rw [h2] at HF hE
      rw [if_neg (by decide)] at hE ⊢
      by_cases h3 : (rb m).length = m.length
      · rw [if_pos h3] at hE; exact absurd rfl hE
      · rw [if_neg h3]
        have HE : Hid (∀ w, Below W.heap.size W w → Calls Try.prog 37 #[.slice a m.length cap] w fun e w' => ∃ a0 n0 a1 n1, e = .returned (.agg #[.slice a0 (rb m).length n0, .slice a1 (elm m m.length).2.length n1]) ∧ Below w.heap.size w w') := fun w hb => by
          refine (elim_red a cap m hm (by omega) w (hr.below hb)).mono ?_
          rintro e w' ⟨a0, n0, a1, n1, rfl, _, _, _, hb⟩
          exact ⟨a0, n0, a1, n1, by rw [elm_len hm], hb⟩
        have hle := rb_le hm
        have k1 : ((rb m).length : Int) < (m.length : Int) := by omega
        clear hE hr hm h2 h3
        generalize (rb m).length = R at *
        generalize (elm m m.length).2.length = N2 at *
        generalize m.length = N at *
        go_enter Try.func29, Try.ntmps29
        go_upto_region 6 with (first
          | (go_at_call 44; refine (HM.out.go _).mono ?_; rintro e w1 ⟨rfl, hb1⟩; have D1 := hidT hb1; clear hb1 HM)
          | (go_at_call 48; refine (HF.out _ D1.out).mono ?_; rintro e w2 ⟨rfl, hb2⟩; have D2 := hidT (D1.out.trans (hb2.mono D1.out.size)); clear hb2 HF D1)
          | (go_at_call 37; refine (HE.out _ D2.out).mono ?_; rintro e w3 ⟨a0, n0, a1, n1, rfl, hb3⟩; have D3 := hidT (D2.out.trans (hb3.mono D2.out.size)); clear hb3 D2 HE))
        have B1 : Below w3.heap.size w3 (w3.alloc (Obj.cells #[.slice a0 R n0, .slice a1 N2 n1] 70)) := by go_grown
        have HB : Hid ((w3.alloc (Obj.cells #[.slice a0 R n0, .slice a1 N2 n1] 70)).cell? ⟨w3.heap.size, 0, none⟩ = some (.slice a0 R n0) ∧ Below W.heap.size W (w3.alloc (Obj.cells #[.slice a0 R n0, .slice a1 N2 n1] 70))) := ⟨by simp [go_sem], D3.out.trans (B1.mono D3.out.size)⟩
        clear B1 D3
        generalize w3.alloc (Obj.cells #[.slice a0 R n0, .slice a1 N2 n1] 70) = Wb at *
        generalize w3.heap.size = g4 at *
        have c0 := HB.out.1
        go_wp2
        refine bodyPost_ret (v := .tuple #[.slice none 0 0, .int .i64 7]) (by simp [results, Try.results29, go_sem, *]) rfl ⟨rfl, HB.out.2⟩
set_option maxHeartbeats 4000000 in
set_option maxRecDepth 100000 in
theorem rcan (a : Option Addr) (cap : Nat) (m : List (Nat × Nat)) (hm : ltE m) (W : World) (hr : ERow W a m) :
    Calls Try.prog 30 #[.slice a m.length cap] W fun e w' => e = .returned (.int .i64 (bkE m)) ∧ Below W.heap.size W w' := by
  unfold bkE
  by_cases h1 : 128 < m.length
  · rw [if_pos h1]
    have k1 : (128 : Int) < (m.length : Int) := by omega
    clear hr hm h1
    generalize m.length = N at *
    go_enter Try.func30, Try.ntmps30
    go_wp2
    go_ret
    exact ⟨rfl, Below.refl _ _⟩
  · rw [if_neg h1]
    have k1 : ¬ (128 : Int) < (m.length : Int) := by omega
    have HF := hidT (rfits04 a cap m.length m hm (by omega) W hr)
    cases h2 : fitL m m.length
    · rw [h2] at HF
      rw [if_pos rfl]
      clear hr hm h1 h2
      generalize m.length = N at *
      go_enter Try.func30, Try.ntmps30
      go_wp2_with (go_at_call 49; refine HF.out.mono ?_; rintro e w2 ⟨rfl, hb2⟩; have D2 := hidT hb2; clear hb2 HF)
      go_ret
      exact ⟨rfl, D2.out⟩
    · rw [h2] at HF
      rw [if_neg (by decide)]
      have HR : Hid (∀ w, Below W.heap.size W w → Calls Try.prog 10 #[.slice a m.length cap] w fun e w' => ∃ a' c', e = .returned (.slice a' (rb m).length c') ∧ Below w.heap.size w w') := fun w hb => (rbasis04 a cap m hm (by omega) w (hr.below hb)).mono fun e w' ⟨a', c', e1, _, e3⟩ => ⟨a', c', e1, e3⟩
      by_cases h3 : (rb m).length = m.length
      · rw [if_pos h3]
        rw [h3] at HR
        clear hr hm h1 h2 h3
        generalize m.length = N at *
        go_enter Try.func30, Try.ntmps30
        go_wp2_with (first
          | (go_at_call 49; refine HF.out.mono ?_; rintro e w2 ⟨rfl, hb2⟩; have D2 := hidT hb2; clear hb2 HF)
          | (go_at_call 10; refine (HR.out _ D2.out).mono ?_; rintro e w3 ⟨a', c', rfl, hb3⟩; have D3 := hidT (D2.out.trans (hb3.mono D2.out.size)); clear hb3 HR D2))
        go_ret
        exact ⟨rfl, D3.out⟩
      · rw [if_neg h3]
        have k3 : ¬ ((rb m).length : Int) = (m.length : Int) := by omega
        clear hr hm h1 h2 h3
        generalize (rb m).length = R at *
        generalize m.length = N at *
        go_enter Try.func30, Try.ntmps30
        go_wp2_with (first
          | (go_at_call 49; refine HF.out.mono ?_; rintro e w2 ⟨rfl, hb2⟩; have D2 := hidT hb2; clear hb2 HF)
          | (go_at_call 10; refine (HR.out _ D2.out).mono ?_; rintro e w3 ⟨a', c', rfl, hb3⟩; have D3 := hidT (D2.out.trans (hb3.mono D2.out.size)); clear hb3 HR D2))
        go_ret
        exact ⟨rfl, D3.out⟩
end Go.Proofs.Ytkllihomdlibgaa
