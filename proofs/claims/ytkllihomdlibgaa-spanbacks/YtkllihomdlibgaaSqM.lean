/- The contract of span.Turn over any list, and layer 4's example, over the seat's translation. -/
import Derived.Test.YtkllihomdlibgaaSqL
namespace Go.Proofs.Ytkllihomdlibgaa
open Go.RowKit
open Cb Rg Sq

/-- Bits turned about. -/
def trm (ps : List (Nat × Nat)) (M N : Nat) : List (Nat × Nat) := (List.range N).map (tr ps M)
theorem trm_len (ps : List (Nat × Nat)) (M N : Nat) : (trm ps M N).length = N := by simp [trm]
theorem trm_at (ps : List (Nat × Nat)) (M N : Nat) {c : Nat} (h : c < N) : el (trm ps M N) c = tr ps M c := by simp [el, trm, List.getD, h]
theorem lt_trm (ps : List (Nat × Nat)) (M N : Nat) : ltE (trm ps M N) := fun e he => by
  obtain ⟨c, _, rfl⟩ := List.mem_map.1 he
  exact lt_tr ps M c
set_option maxHeartbeats 20000000 in
set_option maxRecDepth 100000 in
theorem turn_any (a : Option Addr) (cap M N : Nat) (ps : List (Nat × Nat)) (hp : ltE ps) (hl : ps.length = M) (hM1 : M ≤ 128) (hN1 : N ≤ 128) (HLE : Hid (∀ e ∈ ps, lngE e ≤ N)) (W : World) (hr : ERow W a ps) :
    Calls Try.prog 32 #[.slice a M cap, .int .i64 (N : Int)] W fun e w' => ∃ g, e = .returned (.tuple #[.slice (some ⟨g, 0, none⟩) N N, .int .i64 0]) ∧ ERow w' (some ⟨g, 0, none⟩) (trm ps M N) ∧ Below W.heap.size W w' := by
  have HMP := hidT (smap_yes a M cap hM1)
  have HWI : Hid (∀ w, Below W.heap.size W w → Calls Try.prog 48 #[.slice a M cap, .int .i64 (N : Int)] w fun e w' => e = .returned (.bool true) ∧ Below w.heap.size w w') := fun w hb => by
    have := swithin a cap N ps hp (by omega) HLE.out w (hr.below hb)
    rw [hl] at this
    exact this
  obtain ⟨i0, hi0, hz0, hz1, hz2⟩ := info_elem
  have HI : Hid (Try.prog.info? 25 = some i0 ∧ i0.zero = some (.agg #[.int .u64 0, .int .u64 0]) ∧ i0.size = 2 ∧ i0.bytes = 16) := ⟨hi0, hz0, hz1, hz2⟩
  have HP : Hid (ltE ps ∧ ps.length = M ∧ ERow W a ps) := ⟨hp, hl, hr⟩
  have n1 : ¬ (N : Int) < 0 := by omega
  have n2 : ¬ 128 < (N : Int) := by omega
  clear hi0 hz0 hz1 hz2 hp hl hr
  go_enter Try.func32, Try.ntmps32
  go_wp2_with (first
    | (go_at_call 44; refine (HMP.out.go _).mono ?_; rintro e w0 ⟨rfl, hb0⟩; have D0 : Hid (Below W.heap.size W w0) := hb0; clear hb0)
    | (go_at_call 48; refine (HWI.out _ D0.out).mono ?_; rintro e w1 ⟨rfl, hb1⟩; have D1 : Hid (Below W.heap.size W w1) := D0.out.trans (hb1.mono D0.out.size); clear hb1 D0)
    | (at_make; refine wpList_make_full _ rfl _ _ 22 rfl 0 25 i0 (.agg #[.int .u64 0, .int .u64 0]) 2 Try.underlying22 HI.out.1 HI.out.2.1 HI.out.2.2.1 .i64 .i64 _ _ N rfl rfl rfl rfl (by rw [HI.out.2.2.2]; omega) (by simp only [maxLen]; omega) (Nat.zero_le _) ?_; intro w2 own2 hgr2; have K0 : Hid (Tn w1 w2 N (tr ps 0)) := Tn.start own2 hgr2 _ (fun _ _ => rfl); clear own2 hgr2))
  clear HMP HWI HI
  go_loopw [28] (fun u wr => ∃ i : Nat, i ≤ M ∧ u = .int .i64 i ∧ Hid (Tn w1 wr N (tr ps i))) (fun u _ => M - (intOf u).toNat)
  case atStart => exact ⟨0, Nat.zero_le _, rfl, K0⟩
  case round =>
    obtain ⟨i, hi, rfl, HK⟩ := hrel
    clear K0
    by_cases hlt : i < M
    · obtain ⟨b, off, rfl, hb, c1, c0⟩ := HP.out.2.2.cells i (by rw [HP.out.2.1]; exact hlt)
      have HC : Hid (w1.cell? ⟨b, off + i * 2, none⟩ = some (.int .u64 ((el ps i).1 : Int)) ∧ w1.cell? ⟨b, off + i * 2 + 1, none⟩ = some (.int .u64 ((el ps i).2 : Int))) := ⟨keepc D1.out c1, keepc D1.out c0⟩
      have hx : lt2 (el ps i) := ltE_el HP.out.1 i
      obtain ⟨L, hL⟩ : ∃ L, L = lngE (el ps i) := ⟨_, rfl⟩
      have LO := hidT (long_any (el ps i) hx.1 hx.2)
      rw [← hL] at LO
      have hLN : L ≤ N := by
        rw [hL]
        refine HLE.out _ ?_
        show ps.getD i (0, 0) ∈ ps
        rw [show ps.getD i (0, 0) = ps[i]'(by rw [HP.out.2.1]; exact hlt) by simp [show i < ps.length by rw [HP.out.2.1]; exact hlt]]
        exact List.getElem_mem _
      have HHS : Hid (∀ j, j < N → Ret 43 #[.agg #[.int .u64 ((el ps i).1 : Int), .int .u64 ((el ps i).2 : Int)], .int .i64 (j : Int)] (.bool (hs (el ps i) j))) := fun j hj => shas_any (el ps i) j hx.1 hx.2 (by omega)
      have HEND : Hid (∀ c, L ≤ c → tr ps (i + 1) c = tr ps i c) := fun c hc => by
        show xa (tr ps i c) (sl (hs (el ps i) c) (bv (i : Int))) = _
        rw [hs_long (el ps i) hx c (by omega)]
        exact xa_zero _
      have HNX : Hid (∀ c, tr ps (i + 1) c = if hs (el ps i) c = true then xa (tr ps i c) (bv (i : Int)) else tr ps i c) := fun c => by
        show xa (tr ps i c) (sl (hs (el ps i) c) (bv (i : Int))) = _
        cases hs (el ps i) c
        · exact xa_zero _
        · rfl
      have BI := hidT (bit_any (i : Int))
      have AD : Hid (∀ c, Ret 24 #[.agg #[.int .u64 ((tr ps i c).1 : Int), .int .u64 ((tr ps i c).2 : Int)], .agg #[.int .u64 ((bv (i : Int)).1 : Int), .int .u64 ((bv (i : Int)).2 : Int)]] (.agg #[.int .u64 ((xa (tr ps i c) (bv (i : Int))).1 : Int), .int .u64 ((xa (tr ps i c) (bv (i : Int))).2 : Int)])) := fun c w => add_any _ _ _ _ (lt_tr ps i c).1 (lt_tr ps i c).2 (bv_lt2 _).1 (bv_lt2 _).2 w
      have X1 := keepc HK.out.d HC.out.1
      have X0 := keepc HK.out.d HC.out.2
      have i1 : (i : Int) < (M : Int) := by omega
      have i0' : (0 : Int) ≤ (i : Int) := by omega
      clear c1 c0 hb hx hL
      generalize hxe : el ps i = x at *
      generalize bv (i : Int) = bi at *
      go_wp2_with (go_at_call 45; refine (LO.out.go _).mono ?_; rintro e w3 ⟨rfl, hb3⟩)
      have K1 : Hid (Tn w1 w3 N (tr ps i)) := HK.out.below hb3
      clear hb3 HK X1 X0 LO
      go_loopw [36] (fun u wr => ∃ j : Nat, j ≤ L ∧ u = .int .i64 j ∧ Hid (Tn w1 wr N (trj ps i j))) (fun u _ => L - (intOf u).toNat)
      case atStart => exact ⟨0, Nat.zero_le _, rfl, K1.out.like fun c _ => by unfold trj; rw [if_neg (by omega)]⟩
      case round =>
        obtain ⟨j, hj, rfl, HK⟩ := hrel
        clear K1
        by_cases hjL : j < L
        · have X1 := keepc HK.out.d HC.out.1
          have X0 := keepc HK.out.d HC.out.2
          have H1 := hidT (HHS.out j (by omega))
          have H2 := hidT (HNX.out j)
          have j1 : (j : Int) < (N : Int) := by omega
          have jL : (j : Int) < (L : Int) := by omega
          have j0 : (0 : Int) ≤ (j : Int) := by omega
          have hjN : j < N := by omega
          rcases hB : hs x j with _ | _
          · rw [hB] at H1
            have H3 : Hid (tr ps (i + 1) j = tr ps i j) := by show _ = _; rw [H2.out, hB]; rfl
            clear hB H2
            go_wp2_with (go_at_call 43; refine (H1.out.go _).mono ?_; rintro e w4 ⟨rfl, hb4⟩)
            refine ⟨⟨j + 1, hjL, by simp, (HK.out.below hb4).like fun c _ => ?_⟩, by simp [intOf]; omega⟩
            unfold trj
            by_cases h1 : c < j
            · rw [if_pos h1, if_pos (by omega)]
            · rw [if_neg h1]
              by_cases h2 : c = j
              · rw [if_pos (by omega), h2, H3.out]
              · rw [if_neg (by omega)]
          · rw [hB] at H1
            have H3 : Hid (tr ps (i + 1) j = xa (tr ps i j) bi) := by show _ = _; rw [H2.out, hB]; rfl
            have HT : Hid (trj ps i j j = tr ps i j) := by show _ = _; unfold trj; rw [if_neg (by omega)]
            have A1 := hidT (AD.out j)
            clear hB H2
            generalize hy : tr ps i j = y at *
            generalize hz : xa y bi = z at *
            go_upto_region 13 with (go_at_call 43; refine (H1.out.go _).mono ?_; rintro e w4 ⟨rfl, hb4⟩)
            have K : Tn w1 w4 N (trj ps i j) := HK.out.below hb4
            clear hb4 HK X1 X0
            refine wp_region_noPanic ?_
            refine wp_region_peel (S := fun w => w.cell? ⟨w1.heap.size, j * 2, none⟩ = some (.int .u64 (y.1 : Int)) ∧ w.cell? ⟨w1.heap.size, j * 2 + 1, none⟩ = some (.int .u64 (y.2 : Int))) 10 (by kernel_rfl) rfl (by kernel_rfl) ?_ (fun hHeld => ?_)
            · exact by have h := K.facts j hjN; rw [HT.out] at h; exact ⟨h.1, h.2.1⟩
            refine wpAnyH_take (i := 0) (oi := _) (v := ?_) rfl (by kernel_rfl) (by kernel_rfl) (by kernel_rfl) (fun _ _ _ h => h) (Or.inl ⟨by rfl, ?_⟩) (by assumption) ?_
            rotate_left
            · ((intro w hSw; (try dsimp only at hSw); go_simp) <;> (try with_reducible rfl))
            try simp only [Act.put]
            refine wpAnyH_take (i := 1) (oi := _) (v := ?_) rfl (by kernel_rfl) (by kernel_rfl) (by kernel_rfl) (fun _ _ _ h => h) (Or.inl ⟨by rfl, ?_⟩) (by assumption) ?_
            rotate_left
            · ((intro w hSw; (try dsimp only at hSw); go_simp) <;> (try with_reducible rfl))
            try simp only [Act.put]
            refine wpAnyH_take (i := 2) (oi := _) (v := ?_) rfl (by kernel_rfl) (by kernel_rfl) (by kernel_rfl) (fun _ _ _ h => h) (Or.inl ⟨by rfl, ?_⟩) (by assumption) ?_
            rotate_left
            · ((intro w hSw; (try dsimp only at hSw); go_simp) <;> (try with_reducible rfl))
            try simp only [Act.put]
            refine wpAnyH_take (i := 3) (oi := _) (v := ?_) rfl (by kernel_rfl) (by kernel_rfl) (by kernel_rfl) (fun _ _ _ h => h) (Or.inl ⟨by rfl, ?_⟩) (by assumption) ?_
            rotate_left
            · ((intro w hSw; (try dsimp only at hSw); go_simp) <;> (try with_reducible rfl))
            try simp only [Act.put]
            refine wpAnyH_take (i := 4) (oi := _) (v := ?_) rfl (by kernel_rfl) (by kernel_rfl) (by kernel_rfl) (fun _ _ _ h => h) (Or.inl ⟨by rfl, ?_⟩) (by assumption) ?_
            rotate_left
            · ((intro w hSw; (try dsimp only at hSw); go_simp) <;> (try with_reducible rfl))
            try simp only [Act.put]
            refine wpAnyH_take (i := 5) (oi := _) (v := ?_) rfl (by kernel_rfl) (by kernel_rfl) (by kernel_rfl) (fun _ _ _ h => h) (Or.inl ⟨by rfl, ?_⟩) (by assumption) ?_
            rotate_left
            · ((intro w hSw; (try dsimp only at hSw); go_simp) <;> (try with_reducible rfl))
            try simp only [Act.put]
            refine wpAnyH_take (i := 6) (oi := _) (v := ?_) rfl (by kernel_rfl) (by kernel_rfl) (by kernel_rfl) (fun _ _ _ h => h) (Or.inl ⟨by rfl, ?_⟩) (by assumption) ?_
            rotate_left
            · ((intro w hSw; (try dsimp only at hSw); go_simp) <;> (try with_reducible rfl))
            try simp only [Act.put]
            refine wpAnyH_ready (rs := [7]) (by kernel_rfl) (by simp) ?_
            refine AllReadyH.cons (o := _) rfl (fun KK hKK => ?_) AllReadyH.nil
            go_simp
            (go_at_call 31; refine (BI.out.go _).mono ?_; rintro e w' ⟨rfl, hb'⟩)
            have K'' := Tn.below (w' := w') (by first | exact K | exact K.drew) hb'
            clear K hb'
            have K := K''
            clear K''
            (try simp only [World.size_drew] at K)
            refine hKK.out _ _ ?_ (fun hHeld => ?_)
            · exact by have h := K.facts j hjN; rw [HT.out] at h; exact ⟨h.1, h.2.1⟩
            clear hKK KK
            try simp only [Act.put]
            refine wpAnyH_ready (rs := [8]) (by kernel_rfl) (by simp) ?_
            refine AllReadyH.cons (o := _) rfl (fun KK hKK => ?_) AllReadyH.nil
            go_simp
            (go_at_call 24; refine (A1.out.go _).mono ?_; rintro e w' ⟨rfl, hb'⟩)
            have K'' := Tn.below (w' := w') (by first | exact K | exact K.drew) hb'
            clear K hb'
            have K := K''
            clear K''
            (try simp only [World.size_drew] at K)
            refine hKK.out _ _ ?_ (fun hHeld => ?_)
            · exact by have h := K.facts j hjN; rw [HT.out] at h; exact ⟨h.1, h.2.1⟩
            clear hKK KK
            try simp only [Act.put]
            refine wpAnyH_take (i := 9) (oi := _) (v := ?_) rfl (by kernel_rfl) (by kernel_rfl) (by kernel_rfl) (fun _ _ _ h => h) (Or.inl ⟨by rfl, ?_⟩) (by assumption) ?_
            rotate_left
            · ((intro w hSw; (try dsimp only at hSw); go_simp) <;> (try with_reducible rfl))
            try simp only [Act.put]
            refine wpAnyH_done (by kernel_rfl) ?_ _
            refine peel_last rfl (fun KK hKK => ?_)
            clear hHeld
            obtain ⟨r1, r0, f1, f0⟩ := K.facts j hjN
            rw [HT.out] at r1 r0
            go_simp
            refine hKK _ _ ?_
            refine NoPanic.normal ?_
            clear hKK KK
            have K2 : Hid (Tn w1 ((w'.setCell ⟨w1.heap.size, j * 2, none⟩ (.int .u64 (z.1 : Int))).setCell ⟨w1.heap.size, j * 2 + 1, none⟩ (.int .u64 (z.2 : Int))) N (trj ps i (j + 1))) := K.put j z _ fun c _ => by
              unfold trj
              by_cases h2 : c = j
              · rw [if_pos (by omega), if_pos h2, h2, H3.out]
              · rw [if_neg h2]
                by_cases h1 : c < j
                · rw [if_pos h1, if_pos (by omega)]
                · rw [if_neg h1, if_neg (by omega)]
            clear K r1 r0 f1 f0
            go_wp2
            exact ⟨⟨j + 1, hjL, by simp, K2⟩, by simp [intOf]; omega⟩
        · obtain rfl : j = L := by omega
          go_wp2_with fail
          refine ⟨⟨i + 1, hlt, by simp, HK.out.like fun c _ => ?_⟩, by simp [intOf]; omega⟩
          unfold trj
          by_cases h1 : c < j
          · rw [if_pos h1]
          · rw [if_neg h1, HEND.out c (by omega)]
    · obtain rfl : i = M := by omega
      have HD : Hid (ERow wr (some ⟨w1.heap.size, 0, none⟩) (trm ps i N) ∧ Below W.heap.size W wr) := ⟨HK.out.erow (trm_len ps i N) fun c hc => trm_at ps i N hc, D1.out.trans (HK.out.d.mono D1.out.size)⟩
      clear HK D1
      go_wp2
      refine bodyPost_ret (v := .tuple #[.slice (some ⟨w1.heap.size, 0, none⟩) N N, .int .i64 0]) (by simp [results, Try.results32, go_sem, *]) rfl ⟨_, rfl, HD.out.1, HD.out.2⟩
/-- The example's basis. -/
theorem rb_ex : rb [(0, 3), (0, 5), (0, 6)] = [(0, 5), (0, 3)] := by
  refine (rb_one (ss := [(0, 5), (0, 3)]) (fun e he => by simp at he; rcases he with rfl | rfl | rfl <;> decide) ⟨fun e he => by simp at he; rcases he with rfl | rfl <;> decide, fun e he => by simp at he; rcases he with rfl | rfl <;> decide, ?_⟩ ?_ (eqs_of (fun a ha => ?_) fun a ha => ?_)).symm
  · refine List.pairwise_cons.2 ⟨fun b hb => ?_, List.pairwise_singleton _ _⟩
    simp at hb; subst hb
    exact ⟨by decide, by decide⟩
  · refine List.pairwise_cons.2 ⟨fun b hb => ?_, List.pairwise_singleton _ _⟩
    simp at hb; subst hb
    decide
  · simp at ha
    rcases ha with rfl | rfl
    · exact sp_mem (by simp)
    · exact sp_mem (by simp)
  · simp at ha
    rcases ha with rfl | rfl | rfl
    · exact sp_mem (by simp)
    · exact sp_mem (by simp)
    · have := sp_add [(0, 5), (0, 3)] (x := (0, 5)) (y := (0, 3)) (sp_mem (by simp)) (sp_mem (by simp))
      exact this
theorem trm_ex : trm [(0, 1), (0, 3)] 2 2 = [(0, 3), (0, 2)] := by decide
theorem num2 (w : World) (T : TypeId) (x y : Nat) : Hid (w.heap.size < (w.alloc (Obj.cells #[.int .u64 (x : Int), .int .u64 (y : Int)] T)).heap.size ∧ ∀ i, i < [x, y].length → (w.alloc (Obj.cells #[.int .u64 (x : Int), .int .u64 (y : Int)] T)).cell? ⟨w.heap.size, i, none⟩ = some (.int .u64 (([x, y].getD i 0 : Nat) : Int))) := by
  refine ⟨by simp, fun i hi => ?_⟩
  rcases i with _ | _ | i
  · simp [go_sem]
  · simp [go_sem]
  · simp at hi; omega
theorem num3 (w : World) (T : TypeId) (x y z : Nat) : Hid (w.heap.size < (w.alloc (Obj.cells #[.int .u64 (x : Int), .int .u64 (y : Int), .int .u64 (z : Int)] T)).heap.size ∧ ∀ i, i < [x, y, z].length → (w.alloc (Obj.cells #[.int .u64 (x : Int), .int .u64 (y : Int), .int .u64 (z : Int)] T)).cell? ⟨w.heap.size, i, none⟩ = some (.int .u64 (([x, y, z].getD i 0 : Nat) : Int))) := by
  refine ⟨by simp, fun i hi => ?_⟩
  rcases i with _ | _ | _ | i
  · simp [go_sem]
  · simp [go_sem]
  · simp [go_sem]
  · simp at hi; omega
set_option maxHeartbeats 8000000 in
set_option maxRecDepth 100000 in
theorem awake04 : Ret 9 #[] (.bool true) := by
  intro W
  go_enter Try.func9, Try.ntmps9
  go_wp2_with fail
  refine (few04 W.heap.size 2 [1, 3] (by decide) _ (num2 W _ 1 3)).mono ?_
  rintro e w1 ⟨a1, c1, rfl, r1, hb1⟩
  have D1 := hidT (((Below.refl W.heap.size W).alloc (Nat.le_refl _) _).trans (hb1.mono (by simp)))
  have R1 := hidT r1
  clear hb1 r1
  go_wp2_with fail
  refine (turn_any a1 c1 2 2 [(0, 1), (0, 3)] (fun e he => by simp at he; rcases he with rfl | rfl <;> decide) rfl (by decide) (by decide) (fun e he => by simp at he; rcases he with rfl | rfl <;> decide) w1 R1.out).mono ?_
  rintro e w2 ⟨g2, rfl, r2, hb2⟩
  rw [trm_ex] at r2
  have D2 := hidT (D1.out.trans (hb2.mono D1.out.size))
  have R2 := hidT r2
  clear hb2 r2 D1 R1
  go_wp2_with fail
  refine (few04 w2.heap.size 3 [3, 5, 6] (by decide) _ (num3 w2 _ 3 5 6)).mono ?_
  rintro e w3 ⟨a3, c3, rfl, r3, hb3⟩
  have hb3' := ((Below.refl w2.heap.size w2).alloc (Nat.le_refl _) _).trans (hb3.mono (by simp))
  have D3 := hidT (D2.out.trans (hb3'.mono D2.out.size))
  have R3 := hidT r3
  have R2' := hidT (R2.out.below hb3')
  clear hb3 r3 D2 R2 hb3'
  go_wp2_with fail
  have HBS : Calls Try.prog 13 #[.slice a3 3 c3] w3 fun e w' => ∃ g, e = .returned (.slice (some ⟨g, 0, none⟩) 2 2) ∧ ERow w' (some ⟨g, 0, none⟩) [(0, 5), (0, 3)] ∧ Below w3.heap.size w3 w' := by
    have := Basis_any a3 c3 [(0, 3), (0, 5), (0, 6)] (fun e he => by simp at he; rcases he with rfl | rfl | rfl <;> decide) (by decide) w3 R3.out
    rw [rb_ex] at this
    exact this.mono fun e w' ⟨g, e1, e2, _, e3⟩ => ⟨g, e1, e2, e3⟩
  refine HBS.mono ?_
  rintro e w4 ⟨g4, rfl, r4, hb4⟩
  have D4 := hidT (D3.out.trans (hb4.mono D3.out.size))
  have R4 := hidT r4
  have R2 := hidT (R2'.out.below hb4)
  clear hb4 r4 D3 R3 R2' HBS
  go_wp2_with fail
  refine (few04 w4.heap.size 2 [5, 3] (by decide) _ (num2 w4 _ 5 3)).mono ?_
  rintro e w5 ⟨a5, c5, rfl, r5, hb5⟩
  have hb5' := ((Below.refl w4.heap.size w4).alloc (Nat.le_refl _) _).trans (hb5.mono (by simp))
  have D5 := hidT (D4.out.trans (hb5'.mono D4.out.size))
  have R5 := hidT r5
  have R4' := hidT (R4.out.below hb5')
  have R2' := hidT (R2.out.below hb5')
  clear hb5 hb5' r5 D4 R4 R2
  go_wp2_with fail
  refine (sref_own a5 c5 [(0, 5), (0, 3)] (by decide) w5 R5.out).mono ?_
  rintro e w6 ⟨a6, c6, rfl, o6, hb6⟩
  obtain ⟨a6', c6', e6, r6⟩ := own_row o6
  injection e6 with e6 _ e6'
  subst e6 e6'
  have D6 := hidT (D5.out.trans (hb6.mono D5.out.size))
  have R6 := hidT r6
  have R4 := hidT (R4'.out.below hb6)
  have R2 := hidT (R2'.out.below hb6)
  clear hb6 o6 r6 D5 R5 R4' R2'
  go_wp2_with fail
  refine (same_rows _ _ _ _ [(0, 5), (0, 3)] (by decide) w6 R4.out R6.out).mono ?_
  rintro e w7 ⟨rfl, hb7⟩
  have D7 := hidT (D6.out.trans (hb7.mono D6.out.size))
  have R2' := hidT (R2.out.below hb7)
  clear hb7 D6 R6 R4 R2
  go_wp2_with fail
  refine (few04 w7.heap.size 2 [3, 2] (by decide) _ (num2 w7 _ 3 2)).mono ?_
  rintro e w8 ⟨a8, c8, rfl, r8, hb8⟩
  have hb8' := ((Below.refl w7.heap.size w7).alloc (Nat.le_refl _) _).trans (hb8.mono (by simp))
  have D8 := hidT (D7.out.trans (hb8'.mono D7.out.size))
  have R8 := hidT r8
  have R2 := hidT (R2'.out.below hb8')
  clear hb8 hb8' r8 D7 R2'
  go_wp2_with fail
  refine (sref_own a8 c8 [(0, 3), (0, 2)] (by decide) w8 R8.out).mono ?_
  rintro e w9 ⟨a9, c9, rfl, o9, hb9⟩
  obtain ⟨a9', c9', e9, r9⟩ := own_row o9
  injection e9 with e9 _ e9'
  subst e9 e9'
  have D9 := hidT (D8.out.trans (hb9.mono D8.out.size))
  have R9 := hidT r9
  have R2' := hidT (R2.out.below hb9)
  clear hb9 o9 r9 D8 R8 R2
  go_wp2_with fail
  refine (same_rows _ _ _ _ [(0, 3), (0, 2)] (by decide) w9 R2'.out R9.out).mono ?_
  rintro e w10 ⟨rfl, hb10⟩
  have D10 := hidT (D9.out.trans (hb10.mono D9.out.size))
  clear hb10
  go_wp2
  go_ret
  exact ⟨rfl, D10.out⟩
end Go.Proofs.Ytkllihomdlibgaa
