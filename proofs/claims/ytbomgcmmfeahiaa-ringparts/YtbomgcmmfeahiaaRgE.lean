/- Contracts of ring.Parts and ring.Pack over the seat's translation. -/
import Derived.Test.YtbomgcmmfeahiaaRgD
namespace Go.Proofs.Ytbomgcmmfeahiaa
open Go.RowKit
open Cb
open Rg
open Tw (pm)

/-- The error of Parts. -/
def rpE (l : Int) (n : Nat) (hi : List (Nat × Nat)) : Int := if hvE l n = 0 then (if (hi.length : Int) = hvV l n then (if (hi.all fun e => ofB l (e.1 : Int) (e.2 : Int)) = true then 0 else 5) else 6) else hvE l n
theorem hv_zero {l : Int} {n : Nat} (h : hvE l n = 0) : ∃ k j : Nat, k < 8 ∧ l = (k : Int) ∧ k + j ≤ 12 ∧ n = 2 ^ j * 2 ^ k ∧ hvV l n = (j : Int) := by
  have h' := h
  unfold hvE at h
  split at h
  · rename_i hl
    split at h
    · rename_i h2
      rcases lgz_or n with h3 | ⟨m, h3, h4, h5⟩
      · omega
      · obtain ⟨k, rfl⟩ : ∃ k : Nat, l = (k : Int) := ⟨l.toNat, by omega⟩
        refine ⟨k, m - k, by omega, rfl, by omega, ?_, ?_⟩
        · rw [h4, ← Nat.pow_add]; congr 1; omega
        · unfold hvV; rw [if_pos h', h5]; omega
    · exact absurd h (by decide)
  · exact absurd h (by decide)
theorem hv_mk {k j n : Nat} (hk : k < 8) (hj : k + j ≤ 12) (hn : n = 2 ^ j * 2 ^ k) : hvE (k : Int) n = 0 ∧ hvV (k : Int) n = (j : Int) := by
  have e : lgz n = ((j + k : Nat) : Int) := by rw [hn, ← Nat.pow_add]; exact lgz_two _ (by omega)
  have h : hvE (k : Int) n = 0 := by unfold hvE; rw [if_pos (by omega), e, if_pos (by omega)]
  refine ⟨h, ?_⟩
  unfold hvV; rw [if_pos h, e]; omega
theorem rp_zero {l : Int} {n : Nat} {hi : List (Nat × Nat)} (h : rpE l n hi = 0) : ∃ k : Nat, k < 8 ∧ l = (k : Int) ∧ k + hi.length ≤ 12 ∧ n = 2 ^ hi.length * 2 ^ k ∧ ofT k hi := by
  unfold rpE at h
  split at h
  · rename_i h0
    obtain ⟨k, j, hk, rfl, hj, hn, hv⟩ := hv_zero h0
    split at h
    · rename_i h1
      split at h
      · rename_i h2
        obtain rfl : hi.length = j := by omega
        exact ⟨k, hk, rfl, hj, hn, all_of.1 h2⟩
      · exact absurd h (by decide)
    · exact absurd h (by decide)
  · rename_i h0
    exact absurd h h0
set_option maxHeartbeats 2000000 in
theorem rparts_err (l : Int) (a c : Option Addr) (n cap cap2 : Nat) (hi : List (Nat × Nat)) (hh : ltE hi) (h1 : hi.length ≤ 1000) (hn : n < 2 ^ 40) (E : Int) (hE : rpE l n hi = E) (h0 : ¬ E = 0) (W : World) (hc : ERow W c hi) :
    Calls Try.prog 12 #[.int .i64 l, .slice a n cap, .slice c hi.length cap2] W fun e w' => e = .returned (.tuple #[.slice none 0 0, .int .i64 E]) ∧ Below W.heap.size W w' := by
  have HV := hidT (rhv l a n cap hn)
  have HA : Hid (∀ w, Below W.heap.size W w → Calls Try.prog 31 #[.int .i64 l, .slice c hi.length cap2] w fun e w' => e = .returned (.bool (hi.all fun e => ofB l (e.1 : Int) (e.2 : Int))) ∧ Below w.heap.size w w') := fun w hb => rgall l c cap2 hi hh w (hc.below hb) (by omega)
  unfold rpE at hE
  clear hc hh
  generalize (hi.all fun e => ofB l (e.1 : Int) (e.2 : Int)) = x at *
  generalize hvE l n = F at *
  generalize hvV l n = V at *
  generalize hi.length = q at *
  by_cases hF : F = 0
  · subst hF
    rw [if_pos rfl] at hE
    by_cases hq : (q : Int) = V
    · subst hq
      rw [if_pos rfl] at hE
      cases x
      · rw [if_neg (by decide)] at hE
        subst hE
        go_enter Try.func12, Try.ntmps12
        go_wp2_with (first | (go_at_call 29; refine (HV.out.go _).mono ?_; rintro e w1 ⟨rfl, hb1⟩) | (go_at_call 31; refine (HA.out _ hb1).mono ?_; rintro e w2 ⟨rfl, hb2⟩))
        refine bodyPost_ret (v := .tuple #[.slice none 0 0, .int .i64 5]) (by simp [results, Try.results12, go_sem, *]) rfl ⟨rfl, hb1.trans (hb2.mono hb1.size)⟩
      · rw [if_pos rfl] at hE
        exact absurd hE.symm h0
    · rw [if_neg hq] at hE
      subst hE
      go_enter Try.func12, Try.ntmps12
      go_wp2_with (go_at_call 29; refine (HV.out.go _).mono ?_; rintro e w1 ⟨rfl, hb1⟩)
      refine bodyPost_ret (v := .tuple #[.slice none 0 0, .int .i64 6]) (by simp [results, Try.results12, go_sem, *]) rfl ⟨rfl, hb1⟩
  · rw [if_neg hF] at hE
    subst hE
    go_enter Try.func12, Try.ntmps12
    go_wp2_with (go_at_call 29; refine (HV.out.go _).mono ?_; rintro e w1 ⟨rfl, hb1⟩)
    refine bodyPost_ret (v := .tuple #[.slice none 0 0, .int .i64 F]) (by simp [results, Try.results12, go_sem, *]) rfl ⟨rfl, hb1⟩
/-- The parts with x elements of the high point done, and v of the next. -/
def pt (N : Nat) (bs : List Bool) (hi : List (Nat × Nat)) (x v : Nat) : Nat × Nat := xs x fun y => sl (bt bs (y * N + v)) (wt hi y)
theorem lt_pt (N : Nat) (bs : List Bool) (hi : List (Nat × Nat)) (x v : Nat) : lt2 (pt N bs hi x v) := lt_xs (fun _ => lt_sl (lt_wt _ _)) _
def ptj (N : Nat) (bs : List Bool) (hi : List (Nat × Nat)) (x v c : Nat) : Nat × Nat := if c < v then pt N bs hi (x + 1) c else pt N bs hi x c
set_option maxHeartbeats 20000000 in
set_option maxRecDepth 100000 in
theorem rparts_ok (k : Nat) (hk : k < 8) (a c : Option Addr) (n cap cap2 j N q : Nat) (bs : List Bool) (hi : List (Nat × Nat)) (hh : ltE hi) (hj : hi.length = j) (hkj : k + j ≤ 12) (hN : N = 2 ^ k) (hq : 2 ^ j = q) (hn : n = q * N) (hb : bs.length = n) (oh : ofT k hi) (W : World) (ha : BRow W a bs) (hc : ERow W c hi) :
    Calls Try.prog 12 #[.int .i64 (k : Int), .slice a n cap, .slice c j cap2] W fun e w' => ∃ g, e = .returned (.tuple #[.slice (some ⟨g, 0, none⟩) N N, .int .i64 0]) ∧ ERow w' (some ⟨g, 0, none⟩) (parts N bs q hi) ∧ Below W.heap.size W w' := by
  have hN1 : N ≤ 128 := by rw [hN]; exact Nat.le_trans (Nat.pow_le_pow_right (by decide) (show k ≤ 7 by omega)) (by decide)
  have hn1 : n ≤ 4096 := by rw [hn, ← hq, hN, ← Nat.pow_add]; exact Nat.le_trans (Nat.pow_le_pow_right (by decide) (show j + k ≤ 12 by omega)) (by decide)
  have hq1 : q ≤ 4096 := by rw [← hq]; exact Nat.le_trans (Nat.pow_le_pow_right (by decide) (show j ≤ 12 by omega)) (by decide)
  have HV : Hid (Ret 29 #[.int .i64 (k : Int), .slice a n cap] (.tuple #[.int .i64 (j : Int), .int .i64 0])) := by
    have := rhv (k : Int) a n cap (by omega)
    obtain ⟨e1, e2⟩ := hv_mk (n := n) hk hkj (by rw [hn, ← hq, hN])
    rw [e1, e2] at this
    exact this
  have HA : Hid (∀ w, Below W.heap.size W w → Calls Try.prog 31 #[.int .i64 (k : Int), .slice c j cap2] w fun e w' => e = .returned (.bool true) ∧ Below w.heap.size w w') := fun w hb => by
    have := rgall (k : Int) c cap2 hi hh w (hc.below hb) (by omega)
    rw [all_of.2 oh, hj] at this
    exact this
  have HW : Hid (∀ w, Below W.heap.size W w → Calls Try.prog 32 #[.int .i64 (k : Int), .slice c j cap2] w fun e w' => ∃ g cp, e = .returned (.slice (some ⟨g, 0, none⟩) q cp) ∧ ERow w' (some ⟨g, 0, none⟩) (wts hi q) ∧ Below w.heap.size w w') := fun w hb => by
    refine (cwts k hk c cap2 j q hi hh hj (by omega) hq oh w (hc.below hb)).mono ?_
    rintro e w' ⟨g, cp, rfl, h3, h4⟩
    refine ⟨g, cp, rfl, ?_, h4⟩
    obtain ⟨a', cap', e', h5⟩ := own_row (es := wts hi q) (by rw [wts_len]; exact h3)
    injection e' with e1
    rw [e1]; exact h5
  have hk0 : ¬ (k : Int) < 0 := by omega
  have hsh : IntKind.i64.wrap ((2 : Int) ^ k) = (N : Int) := by
    rw [IntKind.wrap_i64, show (2 : Int) ^ k = ((2 ^ k : Nat) : Int) by simp, ← hN]; omega
  obtain ⟨i0, hi0, hz0, hz1, hz2⟩ := info_elem
  have HI : Hid (Try.prog.info? 42 = some i0 ∧ i0.zero = some (.agg #[.int .u64 0, .int .u64 0]) ∧ i0.size = 2 ∧ i0.bytes = 16) := ⟨hi0, hz0, hz1, hz2⟩
  have HP : Hid (BRow W a bs ∧ bs.length = n ∧ n = q * N ∧ N = 2 ^ k) := ⟨ha, hb, hn, hN⟩
  clear hi0 hz0 hz1 hz2 ha hb hn hN hq hc hh oh hj hkj
  go_enter Try.func12, Try.ntmps12
  go_wp2_with (first
    | (go_at_call 29; refine (HV.out.go _).mono ?_; rintro e w0 ⟨rfl, hb0⟩; have D0 : Hid (Below W.heap.size W w0) := hb0; clear hb0)
    | (go_at_call 31; refine (HA.out _ D0.out).mono ?_; rintro e w1 ⟨rfl, hb1⟩; have D1 : Hid (Below W.heap.size W w1) := D0.out.trans (hb1.mono D0.out.size); clear hb1 D0)
    | (go_at_call 32; refine (HW.out _ D1.out).mono ?_; rintro e w2 ⟨gw, cw, rfl, hr2, hb2⟩; have D2 : Hid (Below W.heap.size W w2 ∧ ERow w2 (some ⟨gw, 0, none⟩) (wts hi q)) := ⟨D1.out.trans (hb2.mono D1.out.size), hr2⟩; clear hb2 hr2 D1)
    | (at_make; refine wpList_make_full _ rfl _ _ 23 rfl 0 42 i0 (.agg #[.int .u64 0, .int .u64 0]) 2 Try.underlying23 HI.out.1 HI.out.2.1 HI.out.2.2.1 .i64 .i64 _ _ N rfl rfl (by first | rfl | exact hsh) (by first | rfl | exact hsh) (by rw [HI.out.2.2.2]; omega) (by simp only [maxLen]; omega) (Nat.zero_le _) ?_; intro w3 own3 hgr3; have K0 : Hid (Tn w2 w3 N (pt N bs hi 0)) := Tn.start own3 hgr3 _ (fun _ _ => rfl); clear own3 hgr3))
  clear HV HA HW HI
  have HB : Hid (BRow w2 a bs) := HP.out.1.below D2.out.1
  go_loopw [42] (fun u wr => ∃ x : Nat, x ≤ q ∧ u = .int .i64 x ∧ Hid (Tn w2 wr N (pt N bs hi x))) (fun u _ => q - (intOf u).toNat)
  case atStart => exact ⟨0, Nat.zero_le _, rfl, K0⟩
  case round =>
    obtain ⟨x, hx, rfl, HK⟩ := hrel
    clear K0
    by_cases hlt : x < q
    · have x1 : (x : Int) < (q : Int) := by omega
      have x0 : (0 : Int) ≤ (x : Int) := by omega
      obtain ⟨bw, ow, ew, hbw, c1, c0⟩ := D2.out.2.cells x (by rw [wts_len]; exact hlt)
      injection ew with ew
      injection ew with ew1 ew2
      subst ew1 ew2
      rw [Nat.zero_add] at c1 c0
      rw [show (wts hi q).getD x (0, 0) = wt hi x from wts_at hi q hlt] at c1 c0
      have HC : Hid (w2.cell? ⟨gw, x * 2, none⟩ = some (.int .u64 ((wt hi x).1 : Int)) ∧ w2.cell? ⟨gw, x * 2 + 1, none⟩ = some (.int .u64 ((wt hi x).2 : Int))) := ⟨c1, c0⟩
      have HY : Hid (lt2 (wt hi x)) := lt_wt hi x
      have HNX : Hid (∀ c, pt N bs hi (x + 1) c = if bt bs (x * N + c) = true then xa (pt N bs hi x c) (wt hi x) else pt N bs hi x c) := fun c => by
        show xa (pt N bs hi x c) (sl (bt bs (x * N + c)) (wt hi x)) = _
        cases bt bs (x * N + c)
        · exact xa_zero _
        · rfl
      have hxn : (x + 1) * N ≤ n := by rw [HP.out.2.2.1]; exact Nat.mul_le_mul_right _ hlt
      have hxn' : x * N + N ≤ n := by rw [Nat.add_mul, Nat.one_mul] at hxn; exact hxn
      obtain ⟨s, hs⟩ : ∃ s, s = x * N := ⟨_, rfl⟩
      have e1 : IntKind.i64.wrap ((x : Int) * 2 ^ k) = (s : Int) := by
        rw [IntKind.wrap_i64, show (2 : Int) ^ k = ((2 ^ k : Nat) : Int) by simp, ← HP.out.2.2.2, ← Int.natCast_mul, ← hs]; omega
      rw [← hs] at HNX hxn'
      clear c1 c0 hbw hxn hs
      generalize wt hi x = y at *
      go_wp2_with fail
      go_loopw [47] (fun u wr => ∃ v : Nat, v ≤ N ∧ u = .int .i64 v ∧ Hid (Tn w2 wr N (ptj N bs hi x v))) (fun u _ => N - (intOf u).toNat)
      case atStart => exact ⟨0, Nat.zero_le _, rfl, HK.out.like fun c _ => by unfold ptj; rw [if_neg (by omega)]⟩
      case round =>
        obtain ⟨v, hv, rfl, HJ⟩ := hrel
        clear HK
        by_cases hvN : v < N
        · have v1 : (v : Int) < (N : Int) := by omega
          have v0 : (0 : Int) ≤ (v : Int) := by omega
          obtain ⟨z, hz⟩ : ∃ z, z = s + v := ⟨_, rfl⟩
          have e2 : IntKind.i64.wrap ((s : Int) + (v : Int)) = (z : Int) := by rw [IntKind.wrap_i64]; omega
          have z1 : (z : Int) < (n : Int) := by omega
          have z0 : (0 : Int) ≤ (z : Int) := by omega
          have H2 := hidT (HNX.out v)
          rw [← hz] at H2
          obtain ⟨b0, o0, rfl, hb0, cb⟩ := HB.out.cells z (by rw [HP.out.2.1]; omega)
          have B0 : wr.cell? ⟨b0, o0 + z, none⟩ = some (.bool (bt bs z)) := keepc HJ.out.d cb
          clear cb hb0 hz
          rcases hB : bt bs z with _ | _
          · rw [hB] at B0
            have H3 : Hid (pt N bs hi (x + 1) v = pt N bs hi x v) := by show _ = _; rw [H2.out, hB]; rfl
            clear hB H2
            go_wp2_with fail
            refine ⟨⟨v + 1, hvN, by simp, HJ.out.like fun c _ => ?_⟩, by simp [intOf]; omega⟩
            unfold ptj
            by_cases h1 : c < v
            · rw [if_pos h1, if_pos (by omega)]
            · rw [if_neg h1]
              by_cases h2 : c = v
              · rw [if_pos (by omega), h2, H3.out]
              · rw [if_neg (by omega)]
          · rw [hB] at B0
            have H3 : Hid (pt N bs hi (x + 1) v = xa (pt N bs hi x v) y) := by show _ = _; rw [H2.out, hB]; rfl
            have HT : Hid (ptj N bs hi x v v = pt N bs hi x v) := by show _ = _; unfold ptj; rw [if_neg (by omega)]
            have hlt2 := lt_pt N bs hi x v
            clear hB H2
            generalize hp : pt N bs hi x v = p at *
            have A1 : Hid (Ret 33 #[.agg #[.int .u64 (p.1 : Int), .int .u64 (p.2 : Int)], .agg #[.int .u64 (y.1 : Int), .int .u64 (y.2 : Int)]] (.agg #[.int .u64 ((xa p y).1 : Int), .int .u64 ((xa p y).2 : Int)])) := fun w => add_any _ _ _ _ hlt2.1 hlt2.2 HY.out.1 HY.out.2 w
            clear hlt2
            generalize xa p y = r at *
            go_upto_region 17 with fail
            have K : Tn w2 wr N (ptj N bs hi x v) := HJ.out
            clear HJ B0
            refine wp_region_noPanic ?_
            refine wp_region_peel (S := fun w => w.cell? ⟨w2.heap.size, v * 2, none⟩ = some (.int .u64 (p.1 : Int)) ∧ w.cell? ⟨w2.heap.size, v * 2 + 1, none⟩ = some (.int .u64 (p.2 : Int)) ∧ w.cell? ⟨gw, x * 2, none⟩ = some (.int .u64 (y.1 : Int)) ∧ w.cell? ⟨gw, x * 2 + 1, none⟩ = some (.int .u64 (y.2 : Int))) 12 (by kernel_rfl) rfl (by kernel_rfl) ?_ (fun hHeld => ?_)
            · exact by have h := K.facts v hvN; rw [HT.out] at h; exact ⟨h.1, h.2.1, keepc K.d HC.out.1, keepc K.d HC.out.2⟩
            refine wpAnyH_take (i := 0) (oi := _) (v := ?_) rfl (by kernel_rfl) (by kernel_rfl) (by kernel_rfl) (fun _ _ _ h => h) (Or.inl ⟨by rfl, ?_⟩) (by assumption) ?_
            rotate_left
            · ((intro w hSw; (try dsimp only at hSw); go_simp) <;> (try with_reducible rfl))
            try simp only [Act.put]
            refine wpAnyH_take (i := 1) (oi := _) (v := ?_) rfl (by kernel_rfl) (by kernel_rfl) (by kernel_rfl) (fun _ _ _ h => h) (Or.inl ⟨by rfl, ?_⟩) (by assumption) ?_
            rotate_left
            · ((intro w hSw; (try dsimp only at hSw); go_simp) <;> (try with_reducible rfl))
            try simp only [Act.put]
            refine wpAnyH_take (i := 2) (oi := _) (v := ?_) rfl (by kernel_rfl) (by kernel_rfl) (by kernel_rfl) (fun _ _ _ h => h) (Or.inl ⟨by rfl, ?_⟩) (by assumption) ?_
            rotate_left
            · ((intro w hSw; (try dsimp only at hSw); go_simp) <;> (try with_reducible rfl))
            try simp only [Act.put]
            refine wpAnyH_take (i := 3) (oi := _) (v := ?_) rfl (by kernel_rfl) (by kernel_rfl) (by kernel_rfl) (fun _ _ _ h => h) (Or.inl ⟨by rfl, ?_⟩) (by assumption) ?_
            rotate_left
            · ((intro w hSw; (try dsimp only at hSw); go_simp) <;> (try with_reducible rfl))
            try simp only [Act.put]
            refine wpAnyH_take (i := 4) (oi := _) (v := ?_) rfl (by kernel_rfl) (by kernel_rfl) (by kernel_rfl) (fun _ _ _ h => h) (Or.inl ⟨by rfl, ?_⟩) (by assumption) ?_
            rotate_left
            · ((intro w hSw; (try dsimp only at hSw); go_simp) <;> (try with_reducible rfl))
            try simp only [Act.put]
            refine wpAnyH_take (i := 5) (oi := _) (v := ?_) rfl (by kernel_rfl) (by kernel_rfl) (by kernel_rfl) (fun _ _ _ h => h) (Or.inl ⟨by rfl, ?_⟩) (by assumption) ?_
            rotate_left
            · ((intro w hSw; (try dsimp only at hSw); go_simp) <;> (try with_reducible rfl))
            try simp only [Act.put]
            refine wpAnyH_take (i := 6) (oi := _) (v := ?_) rfl (by kernel_rfl) (by kernel_rfl) (by kernel_rfl) (fun _ _ _ h => h) (Or.inl ⟨by rfl, ?_⟩) (by assumption) ?_
            rotate_left
            · ((intro w hSw; (try dsimp only at hSw); go_simp) <;> (try with_reducible rfl))
            try simp only [Act.put]
            refine wpAnyH_take (i := 7) (oi := _) (v := ?_) rfl (by kernel_rfl) (by kernel_rfl) (by kernel_rfl) (fun _ _ _ h => h) (Or.inl ⟨by rfl, ?_⟩) (by assumption) ?_
            rotate_left
            · ((intro w hSw; (try dsimp only at hSw); go_simp) <;> (try with_reducible rfl))
            try simp only [Act.put]
            refine wpAnyH_take (i := 8) (oi := _) (v := ?_) rfl (by kernel_rfl) (by kernel_rfl) (by kernel_rfl) (fun _ _ _ h => h) (Or.inl ⟨by rfl, ?_⟩) (by assumption) ?_
            rotate_left
            · ((intro w hSw; (try dsimp only at hSw); go_simp) <;> (try with_reducible rfl))
            try simp only [Act.put]
            refine wpAnyH_take (i := 9) (oi := _) (v := ?_) rfl (by kernel_rfl) (by kernel_rfl) (by kernel_rfl) (fun _ _ _ h => h) (Or.inl ⟨by rfl, ?_⟩) (by assumption) ?_
            rotate_left
            · ((intro w hSw; (try dsimp only at hSw); go_simp) <;> (try with_reducible rfl))
            try simp only [Act.put]
            refine wpAnyH_ready (rs := [10]) (by kernel_rfl) (by simp) ?_
            refine AllReadyH.cons (o := _) rfl (fun KK hKK => ?_) AllReadyH.nil
            go_simp
            (go_at_call 33; refine (A1.out.go _).mono ?_; rintro e w' ⟨rfl, hb'⟩)
            have K'' := Tn.below (w' := w') (by first | exact K | exact K.drew) hb'
            clear K hb'
            have K := K''
            clear K''
            (try simp only [World.size_drew] at K)
            refine hKK.out _ _ ?_ (fun hHeld => ?_)
            · exact by have h := K.facts v hvN; rw [HT.out] at h; exact ⟨h.1, h.2.1, keepc K.d HC.out.1, keepc K.d HC.out.2⟩
            clear hKK KK
            try simp only [Act.put]
            refine wpAnyH_take (i := 11) (oi := _) (v := ?_) rfl (by kernel_rfl) (by kernel_rfl) (by kernel_rfl) (fun _ _ _ h => h) (Or.inl ⟨by rfl, ?_⟩) (by assumption) ?_
            rotate_left
            · ((intro w hSw; (try dsimp only at hSw); go_simp) <;> (try with_reducible rfl))
            try simp only [Act.put]
            refine wpAnyH_done (by kernel_rfl) ?_ _
            refine peel_last rfl (fun KK hKK => ?_)
            clear hHeld
            obtain ⟨r1, r0, f1, f0⟩ := K.facts v hvN
            rw [HT.out] at r1 r0
            go_simp
            refine hKK _ _ ?_
            refine NoPanic.normal ?_
            clear hKK KK
            have K2 : Hid (Tn w2 ((w'.setCell ⟨w2.heap.size, v * 2, none⟩ (.int .u64 (r.1 : Int))).setCell ⟨w2.heap.size, v * 2 + 1, none⟩ (.int .u64 (r.2 : Int))) N (ptj N bs hi x (v + 1))) := K.put v r _ fun c _ => by
              unfold ptj
              by_cases h2 : c = v
              · rw [if_pos (by omega), if_pos h2, h2, H3.out]
              · rw [if_neg h2]
                by_cases h1 : c < v
                · rw [if_pos h1, if_pos (by omega)]
                · rw [if_neg h1, if_neg (by omega)]
            clear K r1 r0 f1 f0
            go_wp2
            exact ⟨⟨v + 1, hvN, by simp, K2⟩, by simp [intOf]; omega⟩
        · obtain rfl : v = N := by omega
          go_wp2_with fail
          refine ⟨⟨x + 1, hlt, by simp, HJ.out.like fun c hc => ?_⟩, by simp [intOf]; omega⟩
          unfold ptj
          rw [if_pos hc]
    · obtain rfl : x = q := by omega
      have HD : Hid (ERow wr (some ⟨w2.heap.size, 0, none⟩) (parts N bs x hi) ∧ Below W.heap.size W wr) := ⟨HK.out.erow (parts_len N bs x hi) fun c hc => parts_at N bs x hi hc, D2.out.1.trans (HK.out.d.mono D2.out.1.size)⟩
      clear HK D2
      go_wp2
      refine bodyPost_ret (v := .tuple #[.slice (some ⟨w2.heap.size, 0, none⟩) N N, .int .i64 0]) (by simp [results, Try.results12, go_sem, *]) rfl ⟨_, rfl, HD.out.1, HD.out.2⟩
set_option maxHeartbeats 1000000 in
theorem rpack_err (l : Int) (a : Option Addr) (n cap : Nat) (hn : n < 2 ^ 40) (h0 : ¬ hvE l n = 0) : Ret 11 #[.int .i64 l, .slice a n cap] (.tuple #[.slice none 0 0, .int .i64 (hvE l n)]) := by
  intro W
  have HV := hidT (rhv l a n cap hn)
  generalize hvE l n = F at *
  generalize hvV l n = V at *
  go_enter Try.func11, Try.ntmps11
  go_wp2_with (go_at_call 29; refine (HV.out.go _).mono ?_; rintro e w1 ⟨rfl, hb1⟩)
  refine bodyPost_ret (v := .tuple #[.slice none 0 0, .int .i64 F]) (by simp [results, Try.results11, go_sem, *]) rfl ⟨rfl, hb1⟩
set_option maxHeartbeats 1000000 in
theorem rpack_ok (k : Nat) (hk : k < 8) (a : Option Addr) (n cap j N q : Nat) (bs : List Bool) (hkj : k + j ≤ 12) (hN : N = 2 ^ k) (hq : 2 ^ j = q) (hn : n = q * N) (hb : bs.length = n) (h10 : n ≤ 1000) (W : World) (ha : BRow W a bs) :
    Calls Try.prog 11 #[.int .i64 (k : Int), .slice a n cap] W fun e w' => ∃ g, e = .returned (.tuple #[.slice (some ⟨g, 0, none⟩) q q, .int .i64 0]) ∧ ERow w' (some ⟨g, 0, none⟩) (gB k q bs) ∧ Below W.heap.size W w' := by
  have HV : Hid (Ret 29 #[.int .i64 (k : Int), .slice a n cap] (.tuple #[.int .i64 (j : Int), .int .i64 0])) := by
    have := rhv (k : Int) a n cap (by omega)
    obtain ⟨e1, e2⟩ := hv_mk (n := n) hk hkj (by rw [hn, ← hq, hN])
    rw [e1, e2] at this
    exact this
  have HG : Hid (∀ w, Below W.heap.size W w → Calls Try.prog 30 #[.int .i64 (k : Int), .slice a n cap] w fun e w' => ∃ p, e = .returned (.tuple #[.slice (some ⟨p, 0, none⟩) q q, .int .i64 0]) ∧ ERow w' (some ⟨p, 0, none⟩) (gB k q bs) ∧ Below w.heap.size w w') := fun w hw => by
    have := wbits_ok k q hk a cap bs (by omega) (by rw [hb, hn, hN]) w (ha.below hw)
    rw [hb] at this
    exact this
  clear ha hb hn hN hq hkj h10
  go_enter Try.func11, Try.ntmps11
  go_wp2_with (first | (go_at_call 29; refine (HV.out.go _).mono ?_; rintro e w1 ⟨rfl, hb1⟩) | (go_at_call 30; refine (HG.out _ hb1).mono ?_; rintro e w2 ⟨g, rfl, hr2, hb2⟩))
  refine bodyPost_ret (v := .tuple #[.slice (some ⟨g, 0, none⟩) q q, .int .i64 0]) (by simp [results, Try.results11, go_sem, *]) rfl ⟨g, rfl, hr2, hb1.trans (hb2.mono hb1.size)⟩
end Go.Proofs.Ytbomgcmmfeahiaa
