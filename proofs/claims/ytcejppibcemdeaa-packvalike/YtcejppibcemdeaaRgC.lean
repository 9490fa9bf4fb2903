/- The contract of span.Turn over the seat's translation. -/
import Derived.Test.YtcejppibcemdeaaRgB
namespace Go.Proofs.Ytcejppibcemdeaa
open Go.RowKit
open Cb
open Rg
open Tw (pm)

/-- A row of elements that is filled, in the first block behind a world. -/
structure Tn (W w : World) (N : Nat) (h : Nat → Nat × Nat) : Prop where
  row : w.rowIs W.heap.size 24 (N * 2) (tcell h)
  d : Below W.heap.size W w
theorem Tn.below {W w w' : World} {N : Nat} {h : Nat → Nat × Nat} (k : Tn W w N h) (hb : Below w.heap.size w w') : Tn W w' N h := ⟨k.row.of_block (hb.block _ k.row.lt), k.d.trans (hb.mono k.d.size)⟩
theorem Tn.drew {W w : World} {N : Nat} {h : Nat → Nat × Nat} (k : Tn W w N h) : Tn W w.drew N h := k.below (Below.refl _ _).drew
theorem Tn.like {W w : World} {N : Nat} {h h' : Nat → Nat × Nat} (k : Tn W w N h) (e : ∀ c, c < N → h c = h' c) : Tn W w N h' := by
  obtain ⟨⟨cs, h1, h2, h3⟩, d⟩ := k
  refine ⟨⟨cs, h1, h2, fun i hi => ?_⟩, d⟩
  rw [h3 i hi]
  unfold tcell
  rw [e (i / 2) (by omega)]
theorem Tn.put {W w : World} {N : Nat} {h : Nat → Nat × Nat} (k : Tn W w N h) (j : Nat) (r : Nat × Nat) (h' : Nat → Nat × Nat) (e : ∀ c, c < N → h' c = if c = j then r else h c) :
    Tn W ((w.setCell ⟨W.heap.size, j * 2, none⟩ (.int .u64 (r.1 : Int))).setCell ⟨W.heap.size, j * 2 + 1, none⟩ (.int .u64 (r.2 : Int))) N h' := by
  refine ⟨?_, (k.d.setCell (Nat.le_refl _) _).setCell (Nat.le_refl _) _⟩
  obtain ⟨cs, h1, h2, h3⟩ := (k.row.set (j * 2) (.int .u64 (r.1 : Int))).set (j * 2 + 1) (.int .u64 (r.2 : Int))
  refine ⟨cs, h1, h2, fun i hi => ?_⟩
  rw [h3 i hi]
  unfold tcell
  rw [e (i / 2) (by omega)]
  dsimp only
  by_cases c1 : i = j * 2 + 1
  · rw [if_pos c1, if_neg (show ¬ i % 2 = 0 by omega), if_pos (show i / 2 = j by omega)]
  · rw [if_neg c1]
    by_cases c2 : i = j * 2
    · rw [if_pos c2, if_pos (show i % 2 = 0 by omega), if_pos (show i / 2 = j by omega)]
    · rw [if_neg c2, if_neg (show ¬ i / 2 = j by omega)]
theorem Tn.facts {W w : World} {N : Nat} {h : Nat → Nat × Nat} (k : Tn W w N h) (j : Nat) (hj : j < N) :
    w.cell? ⟨W.heap.size, j * 2, none⟩ = some (.int .u64 ((h j).1 : Int)) ∧ w.cell? ⟨W.heap.size, j * 2 + 1, none⟩ = some (.int .u64 ((h j).2 : Int)) ∧ w.frozen? ⟨W.heap.size, j * 2, none⟩ = false ∧ w.frozen? ⟨W.heap.size, j * 2 + 1, none⟩ = false := by
  have c1 := k.row.cell (i := j * 2) (by omega)
  have c0 := k.row.cell (i := j * 2 + 1) (by omega)
  unfold tcell at c1 c0
  rw [if_pos (by omega), show j * 2 / 2 = j by omega] at c1
  rw [if_neg (by omega), show (j * 2 + 1) / 2 = j by omega] at c0
  exact ⟨c1, c0, k.row.frozen _, k.row.frozen _⟩
theorem Tn.start {W w : World} {base N : Nat} (h : w.ownsRow base 24 2 (.slice (some ⟨W.heap.size, 0, none⟩) N N) N (madeCells (Value.agg #[.int .u64 0, .int .u64 0]).cells (N * 2)).toList) (hg : W.grownBy w none) (F : Nat → Nat × Nat) (hF : ∀ c, c < N → F c = (0, 0)) : Tn W w N F := by
  obtain ⟨f, ⟨cs, h1, h2, h3⟩, hz⟩ := own_zero h
  refine ⟨⟨cs, h1, h2, fun i hi => ?_⟩, (Below.refl _ _).grown hg (Nat.le_refl _) (fun k hk => by cases hk)⟩
  rw [h3 i hi, hz i hi]
  unfold tcell
  rw [hF (i / 2) (by omega)]
  split <;> rfl
theorem Tn.erow {W w : World} {N : Nat} {h : Nat → Nat × Nat} (k : Tn W w N h) {es : List (Nat × Nat)} (hl : es.length = N) (e : ∀ c, c < N → el es c = h c) : ERow w (some ⟨W.heap.size, 0, none⟩) es := row_tab hl k.row fun p hp => by
  unfold tcell
  rw [e (p / 2) (by omega)]
/-- The row that is turned, i elements done. -/
def tr (ps : List (Nat × Nat)) (i c : Nat) : Nat × Nat := xs i fun v => sl (hs (el ps v) c) (bv (v : Int))
theorem lt_tr (ps : List (Nat × Nat)) (i c : Nat) : lt2 (tr ps i c) := lt_xs (fun _ => lt_sl (bv_lt2 _)) _
def trj (ps : List (Nat × Nat)) (i j c : Nat) : Nat × Nat := if c < j then tr ps (i + 1) c else tr ps i c
set_option maxHeartbeats 20000000 in
set_option maxRecDepth 100000 in
theorem sturn (m : Nat) (hm : m < 8) (a : Option Addr) (cap N : Nat) (ps : List (Nat × Nat)) (hp : ltE ps) (hl : ps.length = N) (hN : N = 2 ^ m) (op : ofT m ps) (W : World) (hr : ERow W a ps) :
    Calls Try.prog 59 #[.slice a N cap, .int .i64 (N : Int)] W fun e w' => ∃ g, e = .returned (.tuple #[.slice (some ⟨g, 0, none⟩) N N, .int .i64 0]) ∧ ERow w' (some ⟨g, 0, none⟩) (trns N ps) ∧ Below W.heap.size W w' := by
  have hN1 : N ≤ 128 := by rw [hN]; exact Nat.le_trans (Nat.pow_le_pow_right (by decide) (show m ≤ 7 by omega)) (by decide)
  have HLE : Hid (∀ e ∈ ps, lngE e ≤ N) := fun e he => by rw [hN]; exact lng_of hm (hp e he) (op e he)
  have HMP := hidT (smap_yes a N cap hN1)
  have HWI : Hid (∀ w, Below W.heap.size W w → Calls Try.prog 66 #[.slice a N cap, .int .i64 (N : Int)] w fun e w' => e = .returned (.bool true) ∧ Below w.heap.size w w') := fun w hb => by
    have := swithin a cap N ps hp (by omega) HLE.out w (hr.below hb)
    rw [hl] at this
    exact this
  obtain ⟨i0, hi0, hz0, hz1, hz2⟩ := info_elem
  have HI : Hid (Try.prog.info? 24 = some i0 ∧ i0.zero = some (.agg #[.int .u64 0, .int .u64 0]) ∧ i0.size = 2 ∧ i0.bytes = 16) := ⟨hi0, hz0, hz1, hz2⟩
  have HP : Hid (ltE ps ∧ ps.length = N ∧ ERow W a ps) := ⟨hp, hl, hr⟩
  have n1 : ¬ (N : Int) < 0 := by omega
  have n2 : ¬ 128 < (N : Int) := by omega
  clear hi0 hz0 hz1 hz2 hp hl hr hN op
  go_enter Try.func59, Try.ntmps59
  go_wp2_with (first
    | (go_at_call 65; refine (HMP.out.go _).mono ?_; rintro e w0 ⟨rfl, hb0⟩; have D0 : Hid (Below W.heap.size W w0) := hb0; clear hb0)
    | (go_at_call 66; refine (HWI.out _ D0.out).mono ?_; rintro e w1 ⟨rfl, hb1⟩; have D1 : Hid (Below W.heap.size W w1) := D0.out.trans (hb1.mono D0.out.size); clear hb1 D0)
    | (at_make; refine wpList_make_full _ rfl _ _ 25 rfl 0 24 i0 (.agg #[.int .u64 0, .int .u64 0]) 2 Try.underlying25 HI.out.1 HI.out.2.1 HI.out.2.2.1 .i64 .i64 _ _ N rfl rfl rfl rfl (by rw [HI.out.2.2.2]; omega) (by simp only [maxLen]; omega) (Nat.zero_le _) ?_; intro w2 own2 hgr2; have K0 : Hid (Tn w1 w2 N (tr ps 0)) := Tn.start own2 hgr2 _ (fun _ _ => rfl); clear own2 hgr2))
  clear HMP HWI HI
  go_loopw [28] (fun u wr => ∃ i : Nat, i ≤ N ∧ u = .int .i64 i ∧ Hid (Tn w1 wr N (tr ps i))) (fun u _ => N - (intOf u).toNat)
  case atStart => exact ⟨0, Nat.zero_le _, rfl, K0⟩
  case round =>
    obtain ⟨i, hi, rfl, HK⟩ := hrel
    clear K0
    by_cases hlt : i < N
    · obtain ⟨b, off, rfl, hb, c1, c0⟩ := HP.out.2.2.cells i (by rw [HP.out.2.1]; exact hlt)
      have HC : Hid (w1.cell? ⟨b, off + i * 2, none⟩ = some (.int .u64 ((el ps i).1 : Int)) ∧ w1.cell? ⟨b, off + i * 2 + 1, none⟩ = some (.int .u64 ((el ps i).2 : Int))) := ⟨keepc D1.out c1, keepc D1.out c0⟩
      have hx : lt2 (el ps i) := ltE_el HP.out.1 i
      obtain ⟨L, hL⟩ : ∃ L, L = lngE (el ps i) := ⟨_, rfl⟩
      have LO := hidT (long_any (el ps i) hx.1 hx.2)
      rw [← hL] at LO
      have hLN : L ≤ N := by
        rw [hL]
        refine HLE.out _ ?_
        show ps.getD i (0, 0) ∈ ps
        rw [show ps.getD i (0, 0) = ps[i]'(by rw [HP.out.2.1]; exact hlt) by simp [show i < ps.length by rw [HP.out.2.1]; exact hlt]]
        exact List.getElem_mem _
      have HHS : Hid (∀ j, j < N → Ret 68 #[.agg #[.int .u64 ((el ps i).1 : Int), .int .u64 ((el ps i).2 : Int)], .int .i64 (j : Int)] (.bool (hs (el ps i) j))) := fun j hj => shas_any (el ps i) j hx.1 hx.2 (by omega)
      have HEND : Hid (∀ c, L ≤ c → tr ps (i + 1) c = tr ps i c) := fun c hc => by
        show xa (tr ps i c) (sl (hs (el ps i) c) (bv (i : Int))) = _
        rw [hs_long (el ps i) hx c (by omega)]
        exact xa_zero _
      have HNX : Hid (∀ c, tr ps (i + 1) c = if hs (el ps i) c = true then xa (tr ps i c) (bv (i : Int)) else tr ps i c) := fun c => by
        show xa (tr ps i c) (sl (hs (el ps i) c) (bv (i : Int))) = _
        cases hs (el ps i) c
        · exact xa_zero _
        · rfl
      have BI := hidT (bit_any (i : Int))
      have AD : Hid (∀ c, Ret 56 #[.agg #[.int .u64 ((tr ps i c).1 : Int), .int .u64 ((tr ps i c).2 : Int)], .agg #[.int .u64 ((bv (i : Int)).1 : Int), .int .u64 ((bv (i : Int)).2 : Int)]] (.agg #[.int .u64 ((xa (tr ps i c) (bv (i : Int))).1 : Int), .int .u64 ((xa (tr ps i c) (bv (i : Int))).2 : Int)])) := fun c w => add_any _ _ _ _ (lt_tr ps i c).1 (lt_tr ps i c).2 (bv_lt2 _).1 (bv_lt2 _).2 w
      have X1 := keepc HK.out.d HC.out.1
      have X0 := keepc HK.out.d HC.out.2
      have i1 : (i : Int) < (N : Int) := by omega
      have i0' : (0 : Int) ≤ (i : Int) := by omega
      clear c1 c0 hb hx hL
      generalize hxe : el ps i = x at *
      generalize bv (i : Int) = bi at *
      go_wp2_with (go_at_call 67; refine (LO.out.go _).mono ?_; rintro e w3 ⟨rfl, hb3⟩)
      have K1 : Hid (Tn w1 w3 N (tr ps i)) := HK.out.below hb3
      clear hb3 HK X1 X0 LO
      go_loopw [36] (fun u wr => ∃ j : Nat, j ≤ L ∧ u = .int .i64 j ∧ Hid (Tn w1 wr N (trj ps i j))) (fun u _ => L - (intOf u).toNat)
      case atStart => exact ⟨0, Nat.zero_le _, rfl, K1.out.like fun c _ => by unfold trj; rw [if_neg (by omega)]⟩
      case round =>
        obtain ⟨j, hj, rfl, HK⟩ := hrel
        clear K1
        by_cases hjL : j < L
        · have X1 := keepc HK.out.d HC.out.1
          have X0 := keepc HK.out.d HC.out.2
          have H1 := hidT (HHS.out j (by omega))
          have H2 := hidT (HNX.out j)
          have j1 : (j : Int) < (N : Int) := by omega
          have jL : (j : Int) < (L : Int) := by omega
          have j0 : (0 : Int) ≤ (j : Int) := by omega
          have hjN : j < N := by omega
          rcases hB : hs x j with _ | _
          · rw [hB] at H1
            have H3 : Hid (tr ps (i + 1) j = tr ps i j) := by show _ = _; rw [H2.out, hB]; rfl
            clear hB H2
            go_wp2_with (go_at_call 68; refine (H1.out.go _).mono ?_; rintro e w4 ⟨rfl, hb4⟩)
            refine ⟨⟨j + 1, hjL, by simp, (HK.out.below hb4).like fun c _ => ?_⟩, by simp [intOf]; omega⟩
            unfold trj
            by_cases h1 : c < j
            · rw [if_pos h1, if_pos (by omega)]
            · rw [if_neg h1]
              by_cases h2 : c = j
              · rw [if_pos (by omega), h2, H3.out]
              · rw [if_neg (by omega)]
          · rw [hB] at H1
            have H3 : Hid (tr ps (i + 1) j = xa (tr ps i j) bi) := by show _ = _; rw [H2.out, hB]; rfl
            have HT : Hid (trj ps i j j = tr ps i j) := by show _ = _; unfold trj; rw [if_neg (by omega)]
            have A1 := hidT (AD.out j)
            clear hB H2
            generalize hy : tr ps i j = y at *
            generalize hz : xa y bi = z at *
            go_upto_region 13 with (go_at_call 68; refine (H1.out.go _).mono ?_; rintro e w4 ⟨rfl, hb4⟩)
            have K : Tn w1 w4 N (trj ps i j) := HK.out.below hb4
            clear hb4 HK X1 X0
            refine wp_region_noPanic ?_
            refine wp_region_peel (S := fun w => w.cell? ⟨w1.heap.size, j * 2, none⟩ = some (.int .u64 (y.1 : Int)) ∧ w.cell? ⟨w1.heap.size, j * 2 + 1, none⟩ = some (.int .u64 (y.2 : Int))) 10 (by kernel_rfl) rfl (by kernel_rfl) ?_ (fun hHeld => ?_)
            · exact by have h := K.facts j hjN; rw [HT.out] at h; exact ⟨h.1, h.2.1⟩
            refine wpAnyH_take (i := 0) (oi := _) (v := ?_) rfl (by kernel_rfl) (by kernel_rfl) (by kernel_rfl) (fun _ _ _ h => h) (Or.inl ⟨by rfl, ?_⟩) (by assumption) ?_
            rotate_left
            · ((intro w hSw; (try dsimp only at hSw); go_simp) <;> (try with_reducible rfl))
            try simp only [Act.put]
            refine wpAnyH_take (i := 1) (oi := _) (v := ?_) rfl (by kernel_rfl) (by kernel_rfl) (by kernel_rfl) (fun _ _ _ h => h) (Or.inl ⟨by rfl, ?_⟩) (by assumption) ?_
            rotate_left
            · ((intro w hSw; (try dsimp only at hSw); go_simp) <;> (try with_reducible rfl))
            try simp only [Act.put]
            refine wpAnyH_take (i := 2) (oi := _) (v := ?_) rfl (by kernel_rfl) (by kernel_rfl) (by kernel_rfl) (fun _ _ _ h => h) (Or.inl ⟨by rfl, ?_⟩) (by assumption) ?_
            rotate_left
            · ((intro w hSw; (try dsimp only at hSw); go_simp) <;> (try with_reducible rfl))
            try simp only [Act.put]
            refine wpAnyH_take (i := 3) (oi := _) (v := ?_) rfl (by kernel_rfl) (by kernel_rfl) (by kernel_rfl) (fun _ _ _ h => h) (Or.inl ⟨by rfl, ?_⟩) (by assumption) ?_
            rotate_left
            · ((intro w hSw; (try dsimp only at hSw); go_simp) <;> (try with_reducible rfl))
            try simp only [Act.put]
            refine wpAnyH_take (i := 4) (oi := _) (v := ?_) rfl (by kernel_rfl) (by kernel_rfl) (by kernel_rfl) (fun _ _ _ h => h) (Or.inl ⟨by rfl, ?_⟩) (by assumption) ?_
            rotate_left
            · ((intro w hSw; (try dsimp only at hSw); go_simp) <;> (try with_reducible rfl))
            try simp only [Act.put]
            refine wpAnyH_take (i := 5) (oi := _) (v := ?_) rfl (by kernel_rfl) (by kernel_rfl) (by kernel_rfl) (fun _ _ _ h => h) (Or.inl ⟨by rfl, ?_⟩) (by assumption) ?_
            rotate_left
            · ((intro w hSw; (try dsimp only at hSw); go_simp) <;> (try with_reducible rfl))
            try simp only [Act.put]
            refine wpAnyH_take (i := 6) (oi := _) (v := ?_) rfl (by kernel_rfl) (by kernel_rfl) (by kernel_rfl) (fun _ _ _ h => h) (Or.inl ⟨by rfl, ?_⟩) (by assumption) ?_
            rotate_left
            · ((intro w hSw; (try dsimp only at hSw); go_simp) <;> (try with_reducible rfl))
            try simp only [Act.put]
            refine wpAnyH_ready (rs := [7]) (by kernel_rfl) (by simp) ?_
            refine AllReadyH.cons (o := _) rfl (fun KK hKK => ?_) AllReadyH.nil
            go_simp
            (go_at_call 69; refine (BI.out.go _).mono ?_; rintro e w' ⟨rfl, hb'⟩)
            have K'' := Tn.below (w' := w') (by first | exact K | exact K.drew) hb'
            clear K hb'
            have K := K''
            clear K''
            (try simp only [World.size_drew] at K)
            refine hKK.out _ _ ?_ (fun hHeld => ?_)
            · exact by have h := K.facts j hjN; rw [HT.out] at h; exact ⟨h.1, h.2.1⟩
            clear hKK KK
            try simp only [Act.put]
            refine wpAnyH_ready (rs := [8]) (by kernel_rfl) (by simp) ?_
            refine AllReadyH.cons (o := _) rfl (fun KK hKK => ?_) AllReadyH.nil
            go_simp
            (go_at_call 56; refine (A1.out.go _).mono ?_; rintro e w' ⟨rfl, hb'⟩)
            have K'' := Tn.below (w' := w') (by first | exact K | exact K.drew) hb'
            clear K hb'
            have K := K''
            clear K''
            (try simp only [World.size_drew] at K)
            refine hKK.out _ _ ?_ (fun hHeld => ?_)
            · exact by have h := K.facts j hjN; rw [HT.out] at h; exact ⟨h.1, h.2.1⟩
            clear hKK KK
            try simp only [Act.put]
            refine wpAnyH_take (i := 9) (oi := _) (v := ?_) rfl (by kernel_rfl) (by kernel_rfl) (by kernel_rfl) (fun _ _ _ h => h) (Or.inl ⟨by rfl, ?_⟩) (by assumption) ?_
            rotate_left
            · ((intro w hSw; (try dsimp only at hSw); go_simp) <;> (try with_reducible rfl))
            try simp only [Act.put]
            refine wpAnyH_done (by kernel_rfl) ?_ _
            refine peel_last rfl (fun KK hKK => ?_)
            clear hHeld
            obtain ⟨r1, r0, f1, f0⟩ := K.facts j hjN
            rw [HT.out] at r1 r0
            go_simp
            refine hKK _ _ ?_
            refine NoPanic.normal ?_
            clear hKK KK
            have K2 : Hid (Tn w1 ((w'.setCell ⟨w1.heap.size, j * 2, none⟩ (.int .u64 (z.1 : Int))).setCell ⟨w1.heap.size, j * 2 + 1, none⟩ (.int .u64 (z.2 : Int))) N (trj ps i (j + 1))) := K.put j z _ fun c _ => by
              unfold trj
              by_cases h2 : c = j
              · rw [if_pos (by omega), if_pos h2, h2, H3.out]
              · rw [if_neg h2]
                by_cases h1 : c < j
                · rw [if_pos h1, if_pos (by omega)]
                · rw [if_neg h1, if_neg (by omega)]
            clear K r1 r0 f1 f0
            go_wp2
            exact ⟨⟨j + 1, hjL, by simp, K2⟩, by simp [intOf]; omega⟩
        · obtain rfl : j = L := by omega
          go_wp2_with fail
          refine ⟨⟨i + 1, hlt, by simp, HK.out.like fun c _ => ?_⟩, by simp [intOf]; omega⟩
          unfold trj
          by_cases h1 : c < j
          · rw [if_pos h1]
          · rw [if_neg h1, HEND.out c (by omega)]
    · obtain rfl : i = N := by omega
      have HD : Hid (ERow wr (some ⟨w1.heap.size, 0, none⟩) (trns i ps) ∧ Below W.heap.size W wr) := ⟨HK.out.erow (trns_len i ps) fun c hc => trns_at i ps hc, D1.out.trans (HK.out.d.mono D1.out.size)⟩
      clear HK D1
      go_wp2
      refine bodyPost_ret (v := .tuple #[.slice (some ⟨w1.heap.size, 0, none⟩) i i, .int .i64 0]) (by simp [results, Try.results59, go_sem, *]) rfl ⟨_, rfl, HD.out.1, HD.out.2⟩
end Go.Proofs.Ytcejppibcemdeaa
