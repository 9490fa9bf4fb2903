/- The contract of steepleref23.Parts over the seat's translation. -/
import Derived.Test.YtbomgcmmfeahiaaRgV
namespace Go.Proofs.Ytbomgcmmfeahiaa
open Go.RowKit
open Cb
open Rg
open Tw (pm)

def ptv (N : Nat) (bs : List Bool) (hi : List (Nat × Nat)) (v x : Nat) : Nat × Nat := xs x fun y => sl (bt bs (y * N + v)) (wt hi y)
theorem lt_ptv (N : Nat) (bs : List Bool) (hi : List (Nat × Nat)) (v x : Nat) : lt2 (ptv N bs hi v x) := lt_xs (fun _ => lt_sl (lt_wt _ _)) _
set_option maxHeartbeats 20000000 in
set_option maxRecDepth 100000 in
theorem rparts23 (k : Nat) (hk : k < 8) (a c : Option Addr) (n cap cap2 N q : Nat) (bs : List Bool) (hi : List (Nat × Nat)) (lh : ltE hi) (h6 : hi.length ≤ 1000) (hN : N = 2 ^ k) (hn : n = q * N) (hb : bs.length = n) (hn1 : n ≤ 1000) (W : World) (ha : BRow W a bs) (hc : ERow W c hi) :
    Calls Try.prog 18 #[.int .i64 (k : Int), .slice a n cap, .slice c hi.length cap2] W fun e w' => ∃ a' cap', e = .returned (.slice a' N cap') ∧ ERow w' a' (parts N bs q hi) ∧ Below W.heap.size W w' := by
  have hN0 : 0 < N := by rw [hN]; exact Nat.two_pow_pos _
  have hN1 : N ≤ 128 := by rw [hN]; exact Nat.le_trans (Nat.pow_le_pow_right (by decide) (show k ≤ 7 by omega)) (by decide)
  have hq1 : q ≤ n := by rw [hn]; exact Nat.le_mul_of_pos_right _ hN0
  have HT : Hid (Ret 34 #[.int .i64 (k : Int)] (.int .i64 (N : Int))) := by rw [hN]; exact rtwo15 k (by omega)
  have hquo : (n : Int).tdiv (N : Int) = (q : Int) := by rw [Int.tdiv_eq_ediv_of_nonneg (by omega), hn, Int.natCast_mul]; exact Int.mul_ediv_cancel _ (by omega)
  have hquo2 : (n : Int) / (N : Int) = (q : Int) := by rw [hn, Int.natCast_mul]; exact Int.mul_ediv_cancel _ (by omega)
  have hne : ¬ (N : Int) = 0 := by omega
  have HW : Hid (∀ (j : Nat) (w : World), j ≤ 1000 → Below W.heap.size W w → Calls Try.prog 38 #[.slice c hi.length cap2, .int .i64 (j : Int)] w fun e w' => e = .returned (.agg #[.int .u64 ((wt hi j).1 : Int), .int .u64 ((wt hi j).2 : Int)]) ∧ Below w.heap.size w w') := fun j w hj hb => rweight_any c cap2 j hi lh h6 hj w (hc.below hb)
  have HP : Hid (BRow W a bs ∧ bs.length = n ∧ n = q * N) := ⟨ha, hb, hn⟩
  have HF : Hid ((parts N bs q hi).length = N ∧ ∀ j, j < N → (parts N bs q hi).getD j (0, 0) = ptv N bs hi j q) := ⟨parts_len N bs q hi, fun j hj => parts_at N bs q hi hj⟩
  obtain ⟨i0, hi0, hz0, hz1, hz2⟩ := info_relem
  have HI : Hid (Try.prog.info? 46 = some i0 ∧ i0.zero = some (.agg #[.int .u64 0, .int .u64 0]) ∧ i0.size = 2 ∧ i0.bytes = 16) := ⟨hi0, hz0, hz1, hz2⟩
  clear hi0 hz0 hz1 hz2 ha hb hn hN hc lh h6
  go_enter Try.func18, Try.ntmps18
  go_wp2_with (go_at_call 34; refine (HT.out.go _).mono ?_; rintro e w1 ⟨rfl, hb1⟩)
  have D1 : Hid (Below W.heap.size W w1) := hb1
  clear hb1 HT
  go_loopw [7, 9] (fun s u wr => ∃ j : Nat, j ≤ N ∧ u = .int .i64 j ∧ Hid (wr.ownsRow W.heap.size 46 2 s j (flat ((parts N bs q hi).take j)) ∧ Below W.heap.size W wr)) (fun _ u _ => N - (intOf u).toNat)
  case atStart => exact ⟨0, Nat.zero_le _, rfl, ⟨⟨by simp [flat], .inl ⟨rfl, rfl⟩⟩, D1.out⟩⟩
  case round =>
    obtain ⟨j, hj, rfl, HO⟩ := hrel
    clear D1
    by_cases hlt : j < N
    · have j1 : (j : Int) < (N : Int) := by omega
      have j0 : (0 : Int) ≤ (j : Int) := by omega
      have K1 : Hid (Pw W (wr.alloc (Obj.cells #[.int .u64 0, .int .u64 0] 46)) u7 j ((parts N bs q hi).take j) wr.heap.size (ptv N bs hi j 0)) := Pw.new HO.out.1 HO.out.2 _
      have HTK : Hid ((parts N bs q hi).take (j + 1) = (parts N bs q hi).take j ++ [ptv N bs hi j q]) := by
        show _ = _
        rw [take_sn _ j (by rw [HF.out.1]; exact hlt), HF.out.2 j hlt]
      clear HO
      generalize (parts N bs q hi).take j = L at *
      obtain ⟨L', hL'⟩ : ∃ L', L' = (parts N bs q hi).take (j + 1) := ⟨_, rfl⟩
      rw [← hL'] at HTK
      have HLL : Hid ((parts N bs q hi).take (j + 1) = L') := hL'.symm
      clear hL'
      go_wp2_with fail
      generalize (wr.alloc (Obj.cells #[.int .u64 0, .int .u64 0] 46)) = wa at *
      generalize wr.heap.size = q8 at *
      go_loopw [11] (fun u wr => ∃ i : Nat, i ≤ q ∧ u = .int .i64 i ∧ Hid (Pw W wr u7 j L q8 (ptv N bs hi j i))) (fun u _ => q - (intOf u).toNat)
      case atStart => exact ⟨0, Nat.zero_le _, rfl, K1⟩
      case round =>
        obtain ⟨i, hi', rfl, HJ⟩ := hrel
        clear K1
        by_cases hiN : i < q
        · have i1 : (i : Int) < (q : Int) := by omega
          have i0' : (0 : Int) ≤ (i : Int) := by omega
          obtain ⟨s, hs⟩ : ∃ s, s = N * i := ⟨_, rfl⟩
          obtain ⟨z, hz⟩ : ∃ z, z = s + j := ⟨_, rfl⟩
          have hzn : z < n := by
            have h1 : (i + 1) * N ≤ q * N := Nat.mul_le_mul_right _ (by omega)
            have h2 := HP.out.2.2
            have h3 : N * i = i * N := Nat.mul_comm _ _
            rw [Nat.add_mul, Nat.one_mul] at h1
            omega
          have e1 : IntKind.i64.wrap ((N : Int) * (i : Int)) = (s : Int) := by rw [IntKind.wrap_i64, ← Int.natCast_mul, ← hs]; omega
          have e2 : IntKind.i64.wrap ((s : Int) + (j : Int)) = (z : Int) := by rw [IntKind.wrap_i64]; omega
          have hze : z = i * N + j := by rw [hz, hs, Nat.mul_comm]
          have z1 : (z : Int) < (n : Int) := by omega
          have z0 : (0 : Int) ≤ (z : Int) := by omega
          have H2 : Hid (ptv N bs hi j (i + 1) = if bt bs z = true then xa (ptv N bs hi j i) (wt hi i) else ptv N bs hi j i) := by
            show xa (ptv N bs hi j i) (sl (bt bs (i * N + j)) (wt hi i)) = _
            rw [← hze]
            cases bt bs z
            · exact xa_zero _
            · rfl
          obtain ⟨b0, o0, rfl, hb0, cb⟩ := HP.out.1.cells z (by rw [HP.out.2.1]; exact hzn)
          have B0 : wr.cell? ⟨b0, o0 + z, none⟩ = some (.bool (bt bs z)) := keepc HJ.out.d cb
          have A1 := hidT (rsum (ptv N bs hi j i) (wt hi i) (lt_ptv _ _ _ _ _) (lt_wt _ _))
          have CA := hidT (fun w => HW.out i w (by omega))
          clear cb hb0 hz hs hze
          obtain ⟨t', ht'⟩ : ∃ t', t' = ptv N bs hi j (i + 1) := ⟨_, rfl⟩
          rw [← ht'] at H2
          have HT' : Hid (t' = ptv N bs hi j (i + 1)) := ht'
          clear ht'
          generalize ptv N bs hi j i = t at *
          generalize wt hi i = y at *
          rcases hB : bt bs z with _ | _
          · rw [hB] at B0
            have H3 : t' = t := by have := H2.out; rw [hB] at this; exact this
            clear hB H2
            go_wp2_with fail
            refine ⟨⟨i + 1, hiN, by simp, ?_⟩, by simp [intOf]; omega⟩
            rw [← HT'.out, H3]
            exact HJ
          · rw [hB] at B0
            have H3 : t' = xa t y := by have := H2.out; rw [hB] at this; exact this
            rw [← H3] at A1
            clear hB H2 H3
            go_upto_region 11 with fail
            have K : Pw W wr u7 j L q8 t := HJ.out
            clear HJ B0
            refine wp_region_noPanic ?_
            refine wp_region_peel (S := fun w => w.cell? ⟨q8, 0, none⟩ = some (.int .u64 (t.1 : Int)) ∧ w.cell? ⟨q8, 1, none⟩ = some (.int .u64 (t.2 : Int))) 5 (by kernel_rfl) rfl (by kernel_rfl) ?_ (fun hHeld => ?_)
            · exact ⟨K.e.hi, K.e.lo⟩
            refine wpAnyH_take (i := 0) (oi := _) (v := ?_) rfl (by kernel_rfl) (by kernel_rfl) (by kernel_rfl) (fun _ _ _ h => h) (Or.inl ⟨by rfl, ?_⟩) (by assumption) ?_
            rotate_left
            · ((intro w hSw; (try dsimp only at hSw); go_simp) <;> (try with_reducible rfl))
            try simp only [Act.put]
            refine wpAnyH_take (i := 1) (oi := _) (v := ?_) rfl (by kernel_rfl) (by kernel_rfl) (by kernel_rfl) (fun _ _ _ h => h) (Or.inl ⟨by rfl, ?_⟩) (by assumption) ?_
            rotate_left
            · ((intro w hSw; (try dsimp only at hSw); go_simp) <;> (try with_reducible rfl))
            try simp only [Act.put]
            refine wpAnyH_take (i := 2) (oi := _) (v := ?_) rfl (by kernel_rfl) (by kernel_rfl) (by kernel_rfl) (fun _ _ _ h => h) (Or.inl ⟨by rfl, ?_⟩) (by assumption) ?_
            rotate_left
            · ((intro w hSw; (try dsimp only at hSw); go_simp) <;> (try with_reducible rfl))
            try simp only [Act.put]
            refine wpAnyH_ready (rs := [3]) (by kernel_rfl) (by simp) ?_
            refine AllReadyH.cons (o := _) rfl (fun KK hKK => ?_) AllReadyH.nil
            go_simp
            (go_at_call 38; refine (CA.out _ (by first | exact K.d | exact K.drew.d)).mono ?_; rintro e w' ⟨rfl, hb'⟩)
            have K'' := Pw.below (w' := w') (by first | exact K | exact K.drew) hb'
            clear K hb'
            have K := K''
            clear K''
            (try simp only [World.size_drew] at K)
            refine hKK.out _ _ ?_ (fun hHeld => ?_)
            · exact ⟨K.e.hi, K.e.lo⟩
            clear hKK KK
            try simp only [Act.put]
            refine wpAnyH_ready (rs := [4]) (by kernel_rfl) (by simp) ?_
            refine AllReadyH.cons (o := _) rfl (fun KK hKK => ?_) AllReadyH.nil
            go_simp
            (go_at_call 35; refine (A1.out.go _).mono ?_; rintro e w' ⟨rfl, hb'⟩)
            have K'' := Pw.below (w' := w') (by first | exact K | exact K.drew) hb'
            clear K hb'
            have K := K''
            clear K''
            (try simp only [World.size_drew] at K)
            refine hKK.out _ _ ?_ (fun hHeld => ?_)
            · exact ⟨K.e.hi, K.e.lo⟩
            clear hKK KK
            try simp only [Act.put]
            refine wpAnyH_done (by kernel_rfl) ?_ _
            refine peel_last rfl (fun KK hKK => ?_)
            clear hHeld
            obtain ⟨r1, r0⟩ := K.e.toEl
            have f1 := K.e.fhi
            have f0 := K.e.flo
            go_simp
            refine hKK _ _ ?_
            refine NoPanic.normal ?_
            clear hKK KK
            have K2 : Hid (Pw W ((w'.setCell ⟨q8, 0, none⟩ (.int .u64 (t'.1 : Int))).setCell ⟨q8, 1, none⟩ (.int .u64 (t'.2 : Int))) u7 j L q8 t') := K.put t'
            clear K r1 r0 f1 f0
            go_wp2
            refine ⟨⟨i + 1, hiN, by simp, ?_⟩, by simp [intOf]; omega⟩
            rw [← HT'.out]
            exact K2
        · obtain rfl : i = q := by omega
          have c1 := HJ.out.e.hi
          have c0 := HJ.out.e.lo
          obtain ⟨t, ht⟩ : ∃ t, t = ptv N bs hi j i := ⟨_, rfl⟩
          rw [← ht] at c1 c0 HTK HJ
          clear ht
          have hBq : W.heap.size ≤ wr.heap.size := HJ.out.d.size
          go_wp2_with (at_builtin; refine wpList_append_own _ rfl _ _ 28 rfl W.heap.size 46 i0 (.agg #[.int .u64 0, .int .u64 0]) 2 16 Try.underlying28 HI.out.1 HI.out.2.1 HI.out.2.2.1 HI.out.2.2.2 rfl (by decide) _ _ _ rfl (own_below HJ.out.own ((Below.refl _ _).alloc (Nat.le_refl _) _)) ⟨wr.heap.size, 0, none⟩ 1 1 [.int .u64 (t.1 : Nat), .int .u64 (t.2 : Nat)] rfl rfl (fun p u hu => by rcases p with _ | _ | p <;> simp at hu <;> subst hu <;> simp [go_sem]) (by intro u hu; simp at hu; rcases hu with rfl | rfl <;> rfl) (by simp only [maxLen]; omega) (by omega) (by simp; omega) ?_; intro v' w7 hown7 hgr7 _)
          refine ⟨⟨j + 1, hlt, by simp, ⟨?_, ?_⟩⟩, by simp [intOf]; omega⟩
          · rw [HLL.out, HTK.out, flat_end]; exact hown7
          · exact (HJ.out.d.alloc hBq _).grown hgr7 (by simp; omega) fun g hg => (HJ.out.own.lt g hg).1
    · obtain rfl : j = N := by omega
      have h := HO.out.1
      rw [List.take_of_length_le (by rw [HF.out.1]; exact Nat.le_refl _)] at h
      obtain ⟨a', cap', e', hE⟩ := own_row (es := parts j bs q hi) (by rw [HF.out.1]; exact h)
      rw [HF.out.1] at e'
      subst e'
      have HEr := hidT hE
      have HDr : Hid (Below W.heap.size W wr) := HO.out.2
      clear HO HF h hE
      go_wp2
      refine bodyPost_ret (v := .slice a' j cap') (by simp [results, Try.results18, go_sem, *]) rfl ⟨a', cap', rfl, HEr.out, HDr.out⟩
end Go.Proofs.Ytbomgcmmfeahiaa
