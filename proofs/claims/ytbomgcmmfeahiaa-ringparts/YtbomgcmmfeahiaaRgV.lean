/- Contracts of steepleref23.May, Pack and Parts over the seat's translation. -/
import Derived.Test.YtbomgcmmfeahiaaRgH
import Derived.Test.YtbomgcmmfeahiaaCbR
namespace Go.Proofs.Ytbomgcmmfeahiaa
open Go.RowKit
open Cb
open Rg
open Tw (pm)

set_option maxHeartbeats 1000000 in
theorem rmay23 (l : Int) (a : Option Addr) (n cap : Nat) : Ret 13 #[.int .i64 l, .slice a n cap] (.int .i64 (hvE l n)) := by
  intro W
  have HC := hidT (rlog_any n)
  unfold hvE
  generalize lgz n = g at *
  by_cases hl : 0 ≤ l ∧ l ≤ 7
  · rw [if_pos hl]
    obtain ⟨l0, l7⟩ := hl
    have l0' : ¬ l < 0 := by omega
    have l7' : ¬ 7 < l := by omega
    by_cases h1 : l ≤ g ∧ g ≤ 12
    · rw [if_pos h1]
      have h2 : ¬ g < l := by omega
      have h3 : ¬ 12 < g := by omega
      clear h1
      go_enter Try.func13, Try.ntmps13
      go_wp2_with (go_at_call 16; refine (HC.out.go _).mono ?_; rintro e w1 ⟨rfl, hb1⟩)
      go_ret
      exact ⟨rfl, hb1⟩
    · rw [if_neg h1]
      by_cases h2 : g < l
      · clear h1
        go_enter Try.func13, Try.ntmps13
        go_wp2_with (go_at_call 16; refine (HC.out.go _).mono ?_; rintro e w1 ⟨rfl, hb1⟩)
        go_ret
        exact ⟨rfl, hb1⟩
      · have h3 : 12 < g := by omega
        clear h1
        go_enter Try.func13, Try.ntmps13
        go_wp2_with (go_at_call 16; refine (HC.out.go _).mono ?_; rintro e w1 ⟨rfl, hb1⟩)
        go_ret
        exact ⟨rfl, hb1⟩
  · rw [if_neg hl]
    by_cases h0 : l < 0
    · go_enter Try.func13, Try.ntmps13
      go_wp2
      go_ret
      exact ⟨rfl, Below.refl _ _⟩
    · have h7 : 7 < l := by omega
      go_enter Try.func13, Try.ntmps13
      go_wp2
      go_ret
      exact ⟨rfl, Below.refl _ _⟩
/-- A row that grows, and an element that is made. -/
structure Pw (W w : World) (s : Value) (j : Nat) (L : List (Nat × Nat)) (q : Nat) (e : Nat × Nat) : Prop where
  own : w.ownsRow W.heap.size 46 2 s j (flat L)
  e : Ew w q e.1 e.2
  n : s.ownBlock ≠ some q
  lo : W.heap.size ≤ q
  d : Below W.heap.size W w
theorem Pw.below {W w w' : World} {s : Value} {j : Nat} {L : List (Nat × Nat)} {q : Nat} {e : Nat × Nat} (h : Pw W w s j L q e) (hb : Below w.heap.size w w') : Pw W w' s j L q e := ⟨own_below h.own hb, h.e.below hb, h.n, h.lo, h.d.trans (hb.mono h.d.size)⟩
theorem Pw.drew {W w : World} {s : Value} {j : Nat} {L : List (Nat × Nat)} {q : Nat} {e : Nat × Nat} (h : Pw W w s j L q e) : Pw W w.drew s j L q e := h.below (Below.refl _ _).drew
theorem own_offR {w : World} {base : Nat} {T : TypeId} {s : Value} {j q : Nat} {xs : List Value} (h : w.ownsRow base T 2 s j xs) (hn : s.ownBlock ≠ some q) (u v : Value) : ((w.setCell ⟨q, 0, none⟩ u).setCell ⟨q, 1, none⟩ v).ownsRow base T 2 s j xs := by
  obtain ⟨h1, h2⟩ := h
  refine ⟨h1, ?_⟩
  rcases h2 with h3 | ⟨g, cap, cur, rfl, hb, hg, hrest⟩
  · exact .inl h3
  · have hne : ¬ q = g := fun e => hn (by rw [e]; rfl)
    exact .inr ⟨g, cap, cur, rfl, hb, by simp [World.setCell, Array.getElem?_modify, hne, hg], hrest⟩
theorem Pw.put {W w : World} {s : Value} {j : Nat} {L : List (Nat × Nat)} {q : Nat} {e : Nat × Nat} (h : Pw W w s j L q e) (t : Nat × Nat) : Pw W ((w.setCell ⟨q, 0, none⟩ (.int .u64 (t.1 : Int))).setCell ⟨q, 1, none⟩ (.int .u64 (t.2 : Int))) s j L q t :=
  ⟨own_offR h.own h.n _ _, h.e.set _ _, h.n, h.lo, below2 (p := q) h.d h.lo _ _⟩
theorem Pw.new {W w : World} {s : Value} {j : Nat} {L : List (Nat × Nat)} (h : w.ownsRow W.heap.size 46 2 s j (flat L)) (d : Below W.heap.size W w) (T : TypeId) : Pw W (w.alloc (Obj.cells #[.int .u64 0, .int .u64 0] T)) s j L w.heap.size (0, 0) :=
  ⟨own_below h ((Below.refl _ _).alloc (Nat.le_refl _) _), Ew.roomR w T, fun e => Nat.lt_irrefl _ (h.lt _ e).2, d.size, d.alloc d.size _⟩
def pkx (N : Nat) (bs : List Bool) (x v : Nat) : Nat × Nat := xs v fun i => sl (bt bs (x * N + i)) (bv (i : Int))
theorem lt_pkx (N : Nat) (bs : List Bool) (x v : Nat) : lt2 (pkx N bs x v) := lt_xs (fun _ => lt_sl (bv_lt2 _)) _
def pkl (N : Nat) (bs : List Bool) (q : Nat) : List (Nat × Nat) := (List.range q).map (pk N bs)
theorem pkl_len (N : Nat) (bs : List Bool) (q : Nat) : (pkl N bs q).length = q := by simp [pkl]
theorem pkl_at (N : Nat) (bs : List Bool) (q : Nat) {x : Nat} (h : x < q) : (pkl N bs q).getD x (0, 0) = pk N bs x := by simp [pkl, List.getD, h]
set_option maxHeartbeats 20000000 in
set_option maxRecDepth 100000 in
theorem rpack23 (k : Nat) (hk : k < 8) (a : Option Addr) (n cap N q : Nat) (bs : List Bool) (hN : N = 2 ^ k) (hn : n = q * N) (hb : bs.length = n) (hn1 : n ≤ 1000) (W : World) (ha : BRow W a bs) :
    Calls Try.prog 15 #[.int .i64 (k : Int), .slice a n cap] W fun e w' => ∃ a' cap', e = .returned (.slice a' q cap') ∧ ERow w' a' (pkl N bs q) ∧ Below W.heap.size W w' := by
  have hN0 : 0 < N := by rw [hN]; exact Nat.two_pow_pos _
  have hN1 : N ≤ 128 := by rw [hN]; exact Nat.le_trans (Nat.pow_le_pow_right (by decide) (show k ≤ 7 by omega)) (by decide)
  have hq1 : q ≤ n := by rw [hn]; exact Nat.le_mul_of_pos_right _ hN0
  have HT : Hid (Ret 34 #[.int .i64 (k : Int)] (.int .i64 (N : Int))) := by rw [hN]; exact rtwo15 k (by omega)
  have hquo : (n : Int).tdiv (N : Int) = (q : Int) := by rw [Int.tdiv_eq_ediv_of_nonneg (by omega), hn, Int.natCast_mul]; exact Int.mul_ediv_cancel _ (by omega)
  have hquo2 : (n : Int) / (N : Int) = (q : Int) := by rw [hn, Int.natCast_mul]; exact Int.mul_ediv_cancel _ (by omega)
  have hne : ¬ (N : Int) = 0 := by omega
  have HP : Hid (BRow W a bs ∧ bs.length = n ∧ n = q * N) := ⟨ha, hb, hn⟩
  have HF : Hid ((pkl N bs q).length = q ∧ ∀ j, j < q → (pkl N bs q).getD j (0, 0) = pkx N bs j N) := ⟨pkl_len N bs q, fun j hj => pkl_at N bs q hj⟩
  obtain ⟨i0, hi0, hz0, hz1, hz2⟩ := info_relem
  have HI : Hid (Try.prog.info? 46 = some i0 ∧ i0.zero = some (.agg #[.int .u64 0, .int .u64 0]) ∧ i0.size = 2 ∧ i0.bytes = 16) := ⟨hi0, hz0, hz1, hz2⟩
  clear hi0 hz0 hz1 hz2 ha hb hn hN
  go_enter Try.func15, Try.ntmps15
  go_wp2_with (go_at_call 34; refine (HT.out.go _).mono ?_; rintro e w1 ⟨rfl, hb1⟩)
  have D1 : Hid (Below W.heap.size W w1) := hb1
  clear hb1 HT
  go_loopw [5, 7] (fun s u wr => ∃ j : Nat, j ≤ q ∧ u = .int .i64 j ∧ Hid (wr.ownsRow W.heap.size 46 2 s j (flat ((pkl N bs q).take j)) ∧ Below W.heap.size W wr)) (fun _ u _ => q - (intOf u).toNat)
  case atStart => exact ⟨0, Nat.zero_le _, rfl, ⟨⟨by simp [flat], .inl ⟨rfl, rfl⟩⟩, D1.out⟩⟩
  case round =>
    obtain ⟨j, hj, rfl, HO⟩ := hrel
    clear D1
    by_cases hlt : j < q
    · have j1 : (j : Int) < (q : Int) := by omega
      have j0 : (0 : Int) ≤ (j : Int) := by omega
      have K1 : Hid (Pw W (wr.alloc (Obj.cells #[.int .u64 0, .int .u64 0] 46)) u5 j ((pkl N bs q).take j) wr.heap.size (pkx N bs j 0)) := Pw.new HO.out.1 HO.out.2 _
      have HTK : Hid ((pkl N bs q).take (j + 1) = (pkl N bs q).take j ++ [pkx N bs j N]) := by
        show _ = _
        rw [take_sn _ j (by rw [HF.out.1]; exact hlt), HF.out.2 j hlt]
      clear HO
      generalize (pkl N bs q).take j = L at *
      obtain ⟨L', hL'⟩ : ∃ L', L' = (pkl N bs q).take (j + 1) := ⟨_, rfl⟩
      rw [← hL'] at HTK
      have HLL : Hid ((pkl N bs q).take (j + 1) = L') := hL'.symm
      clear hL'
      go_wp2_with fail
      generalize (wr.alloc (Obj.cells #[.int .u64 0, .int .u64 0] 46)) = wa at *
      generalize wr.heap.size = q8 at *
      go_loopw [9] (fun u wr => ∃ i : Nat, i ≤ N ∧ u = .int .i64 i ∧ Hid (Pw W wr u5 j L q8 (pkx N bs j i))) (fun u _ => N - (intOf u).toNat)
      case atStart => exact ⟨0, Nat.zero_le _, rfl, K1⟩
      case round =>
        obtain ⟨i, hi', rfl, HJ⟩ := hrel
        clear K1
        by_cases hiN : i < N
        · have i1 : (i : Int) < (N : Int) := by omega
          have i0' : (0 : Int) ≤ (i : Int) := by omega
          obtain ⟨s, hs⟩ : ∃ s, s = N * j := ⟨_, rfl⟩
          obtain ⟨z, hz⟩ : ∃ z, z = s + i := ⟨_, rfl⟩
          have hzn : z < n := by
            have h1 : (j + 1) * N ≤ q * N := Nat.mul_le_mul_right _ (by omega)
            have h2 := HP.out.2.2
            have h3 : N * j = j * N := Nat.mul_comm _ _
            rw [Nat.add_mul, Nat.one_mul] at h1
            omega
          have e1 : IntKind.i64.wrap ((N : Int) * (j : Int)) = (s : Int) := by rw [IntKind.wrap_i64, ← Int.natCast_mul, ← hs]; omega
          have e2 : IntKind.i64.wrap ((s : Int) + (i : Int)) = (z : Int) := by rw [IntKind.wrap_i64]; omega
          have hze : z = j * N + i := by rw [hz, hs, Nat.mul_comm]
          have z1 : (z : Int) < (n : Int) := by omega
          have z0 : (0 : Int) ≤ (z : Int) := by omega
          have H2 : Hid (pkx N bs j (i + 1) = if bt bs z = true then xa (pkx N bs j i) (bv (i : Int)) else pkx N bs j i) := by
            show xa (pkx N bs j i) (sl (bt bs (j * N + i)) (bv (i : Int))) = _
            rw [← hze]
            cases bt bs z
            · exact xa_zero _
            · rfl
          obtain ⟨b0, o0, rfl, hb0, cb⟩ := HP.out.1.cells z (by rw [HP.out.2.1]; exact hzn)
          have B0 : wr.cell? ⟨b0, o0 + z, none⟩ = some (.bool (bt bs z)) := keepc HJ.out.d cb
          have A1 := hidT (rsum (pkx N bs j i) (bv (i : Int)) (lt_pkx _ _ _ _) (bv_lt2 _))
          have CA := hidT (rbit_any (i : Int))
          clear cb hb0 hz hs hze
          obtain ⟨t', ht'⟩ : ∃ t', t' = pkx N bs j (i + 1) := ⟨_, rfl⟩
          rw [← ht'] at H2
          have HT' : Hid (t' = pkx N bs j (i + 1)) := ht'
          clear ht'
          generalize pkx N bs j i = t at *
          generalize bv (i : Int) = y at *
          rcases hB : bt bs z with _ | _
          · rw [hB] at B0
            have H3 : t' = t := by have := H2.out; rw [hB] at this; exact this
            clear hB H2
            go_wp2_with fail
            refine ⟨⟨i + 1, hiN, by simp, ?_⟩, by simp [intOf]; omega⟩
            rw [← HT'.out, H3]
            exact HJ
          · rw [hB] at B0
            have H3 : t' = xa t y := by have := H2.out; rw [hB] at this; exact this
            rw [← H3] at A1
            clear hB H2 H3
            go_upto_region 11 with fail
            have K : Pw W wr u5 j L q8 t := HJ.out
            clear HJ B0
            refine wp_region_noPanic ?_
            refine wp_region_peel (S := fun w => w.cell? ⟨q8, 0, none⟩ = some (.int .u64 (t.1 : Int)) ∧ w.cell? ⟨q8, 1, none⟩ = some (.int .u64 (t.2 : Int))) 4 (by kernel_rfl) rfl (by kernel_rfl) ?_ (fun hHeld => ?_)
            · exact ⟨K.e.hi, K.e.lo⟩
            refine wpAnyH_take (i := 0) (oi := _) (v := ?_) rfl (by kernel_rfl) (by kernel_rfl) (by kernel_rfl) (fun _ _ _ h => h) (Or.inl ⟨by rfl, ?_⟩) (by assumption) ?_
            rotate_left
            · ((intro w hSw; (try dsimp only at hSw); go_simp) <;> (try with_reducible rfl))
            try simp only [Act.put]
            refine wpAnyH_take (i := 1) (oi := _) (v := ?_) rfl (by kernel_rfl) (by kernel_rfl) (by kernel_rfl) (fun _ _ _ h => h) (Or.inl ⟨by rfl, ?_⟩) (by assumption) ?_
            rotate_left
            · ((intro w hSw; (try dsimp only at hSw); go_simp) <;> (try with_reducible rfl))
            try simp only [Act.put]
            refine wpAnyH_ready (rs := [2]) (by kernel_rfl) (by simp) ?_
            refine AllReadyH.cons (o := _) rfl (fun KK hKK => ?_) AllReadyH.nil
            go_simp
            (go_at_call 36; refine (CA.out.go _).mono ?_; rintro e w' ⟨rfl, hb'⟩)
            have K'' := Pw.below (w' := w') (by first | exact K | exact K.drew) hb'
            clear K hb'
            have K := K''
            clear K''
            (try simp only [World.size_drew] at K)
            refine hKK.out _ _ ?_ (fun hHeld => ?_)
            · exact ⟨K.e.hi, K.e.lo⟩
            clear hKK KK
            try simp only [Act.put]
            refine wpAnyH_ready (rs := [3]) (by kernel_rfl) (by simp) ?_
            refine AllReadyH.cons (o := _) rfl (fun KK hKK => ?_) AllReadyH.nil
            go_simp
            (go_at_call 35; refine (A1.out.go _).mono ?_; rintro e w' ⟨rfl, hb'⟩)
            have K'' := Pw.below (w' := w') (by first | exact K | exact K.drew) hb'
            clear K hb'
            have K := K''
            clear K''
            (try simp only [World.size_drew] at K)
            refine hKK.out _ _ ?_ (fun hHeld => ?_)
            · exact ⟨K.e.hi, K.e.lo⟩
            clear hKK KK
            try simp only [Act.put]
            refine wpAnyH_done (by kernel_rfl) ?_ _
            refine peel_last rfl (fun KK hKK => ?_)
            clear hHeld
            obtain ⟨r1, r0⟩ := K.e.toEl
            have f1 := K.e.fhi
            have f0 := K.e.flo
            go_simp
            refine hKK _ _ ?_
            refine NoPanic.normal ?_
            clear hKK KK
            have K2 : Hid (Pw W ((w'.setCell ⟨q8, 0, none⟩ (.int .u64 (t'.1 : Int))).setCell ⟨q8, 1, none⟩ (.int .u64 (t'.2 : Int))) u5 j L q8 t') := K.put t'
            clear K r1 r0 f1 f0
            go_wp2
            refine ⟨⟨i + 1, hiN, by simp, ?_⟩, by simp [intOf]; omega⟩
            rw [← HT'.out]
            exact K2
        · obtain rfl : i = N := by omega
          have c1 := HJ.out.e.hi
          have c0 := HJ.out.e.lo
          obtain ⟨t, ht⟩ : ∃ t, t = pkx i bs j i := ⟨_, rfl⟩
          rw [← ht] at c1 c0 HTK HJ
          clear ht
          have hBq : W.heap.size ≤ wr.heap.size := HJ.out.d.size
          go_wp2_with (at_builtin; refine wpList_append_own _ rfl _ _ 28 rfl W.heap.size 46 i0 (.agg #[.int .u64 0, .int .u64 0]) 2 16 Try.underlying28 HI.out.1 HI.out.2.1 HI.out.2.2.1 HI.out.2.2.2 rfl (by decide) _ _ _ rfl (own_below HJ.out.own ((Below.refl _ _).alloc (Nat.le_refl _) _)) ⟨wr.heap.size, 0, none⟩ 1 1 [.int .u64 (t.1 : Nat), .int .u64 (t.2 : Nat)] rfl rfl (fun p u hu => by rcases p with _ | _ | p <;> simp at hu <;> subst hu <;> simp [go_sem]) (by intro u hu; simp at hu; rcases hu with rfl | rfl <;> rfl) (by simp only [maxLen]; omega) (by omega) (by simp; omega) ?_; intro v' w7 hown7 hgr7 _)
          refine ⟨⟨j + 1, hlt, by simp, ⟨?_, ?_⟩⟩, by simp [intOf]; omega⟩
          · rw [HLL.out, HTK.out, flat_end]; exact hown7
          · exact (HJ.out.d.alloc hBq _).grown hgr7 (by simp; omega) fun g hg => (HJ.out.own.lt g hg).1
    · obtain rfl : j = q := by omega
      have h := HO.out.1
      rw [List.take_of_length_le (by rw [HF.out.1]; exact Nat.le_refl _)] at h
      obtain ⟨a', cap', e', hE⟩ := own_row (es := pkl N bs j) (by rw [HF.out.1]; exact h)
      rw [HF.out.1] at e'
      subst e'
      have HEr := hidT hE
      have HDr : Hid (Below W.heap.size W wr) := HO.out.2
      clear HO HF h hE
      go_wp2
      refine bodyPost_ret (v := .slice a' j cap') (by simp [results, Try.results15, go_sem, *]) rfl ⟨a', cap', rfl, HEr.out, HDr.out⟩
end Go.Proofs.Ytbomgcmmfeahiaa
