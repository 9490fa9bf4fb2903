/- WeaveColumns over the seat's translation, for any arguments. -/
import Derived.Test.YtccaobfhldfamaaWmC
namespace Go.Proofs.Ytccaobfhldfamaa
open Go.RowKit
open Cb Rg
open Tw (pm)

theorem all_ltE {w : World} {ls : List (Option Addr × Nat × Nat)} {rs : List (List (Nat × Nat))} (hn : rs.length = ls.length) (h : Held w ls rs) : ∀ t ∈ rs, ltE t := fun t ht => by
  obtain ⟨i, hi, rfl⟩ := List.getElem_of_mem ht
  have := (h i (by omega)).2.1
  rw [show rs.getD i [] = rs[i] by simp [hi]] at this
  exact this
/-- The rows that the document's functions take: as the program's. -/
theorem ref_grid {W w : World} {ar : Option Addr} {ls : List (Option Addr × Nat × Nat)} {rs : List (List (Nat × Nat))} (hn : rs.length = ls.length) (hh : Held W ls rs) (hT : TRowW w ar rs) :
    ∃ ks : List (Option Addr × Nat × Nat), ks.length = ls.length ∧ Grid w ar ks ∧ Held w ks rs ∧ evenB ks = evenB ls ∧ (ks.getD 0 (none, 0, 0)).2.1 = (ls.getD 0 (none, 0, 0)).2.1 := by
  obtain ⟨ks, h1, h2, h3⟩ := trow_held hT (all_ltE hn hh)
  have key : ∀ i, i < ls.length → (ks.getD i (none, 0, 0)).2.1 = (ls.getD i (none, 0, 0)).2.1 := fun i hi => (h3 i (by omega)).1.trans (hh i hi).1.symm
  refine ⟨ks, h1.trans hn, h2, h3, even_same (h1.trans hn) key, ?_⟩
  by_cases h0 : 0 < ls.length
  · exact key 0 h0
  · have e1 : ls = [] := List.length_eq_zero_iff.1 (by omega)
    have e2 : ks = [] := List.length_eq_zero_iff.1 (by omega)
    rw [e1, e2]
theorem col_both (J : Int) (a : Option Addr) (cap : Nat) (ls : List (Option Addr × Nat × Nat)) (rs : List (List (Nat × Nat))) (n1 : ls.length ≤ 12) (hn : rs.length = ls.length) (W : World) (hg : Grid W a ls) (hh : Held W ls rs) :
    ∃ (xs : List (Nat × Nat)) (k1 : Int), xs.length ≤ 100000 ∧ (∀ w , Below W.heap.size W w → Calls Try.prog 6 #[.slice a ls.length cap, .int .i64 J] w fun e w' => ∃ p c, e = .returned (.tuple #[.slice p xs.length c, .int .i64 k1]) ∧ ERow w' p xs ∧ Below w.heap.size w w') ∧ (∀ w ar cr, Below W.heap.size W w → TRowW w ar rs → Calls Try.prog 7 #[.slice ar ls.length cr, .int .i64 J] w fun e w' => ∃ p c, e = .returned (.tuple #[.slice p xs.length c, .int .i64 k1]) ∧ ERow w' p xs ∧ Below w.heap.size w w') := by
  cases he : evenB ls with
  | false =>
    refine ⟨[], 6, by simp, fun w hb => ?_, fun w ar cr hb hT => ?_⟩
    · have := slen_any a cap ls (by omega) w (hg.below hb)
      rw [he] at this
      refine (col_size _ J w (hidT this)).mono ?_
      rintro e w' ⟨rfl, h⟩
      exact ⟨none, 0, rfl, ⟨fun i hi => absurd hi (Nat.not_lt_zero _)⟩, h⟩
    · obtain ⟨ks, h1, h2, h3, h4, _⟩ := ref_grid hn hh hT
      have := even_any ar cr ks (by omega) w h2
      rw [h4, he, h1] at this
      refine (rcol_size _ J w (hidT this)).mono ?_
      rintro e w' ⟨rfl, h⟩
      exact ⟨none, 0, rfl, ⟨fun i hi => absurd hi (Nat.not_lt_zero _)⟩, h⟩
  | true =>
    by_cases hJ : J < 0 ∨ ((ls.getD 0 (none, 0, 0)).2.1 : Int) ≤ J
    · refine ⟨[], 4, by simp, fun w hb => ?_, fun w ar cr hb hT => ?_⟩
      · have := slen_any a cap ls (by omega) w (hg.below hb)
        rw [he] at this
        refine (col_none _ J _ hJ w (hidT this) (hidT fun v hv => wid_any a cap ls v ((hg.below hb).below hv))).mono ?_
        rintro e w' ⟨rfl, h⟩
        exact ⟨none, 0, rfl, ⟨fun i hi => absurd hi (Nat.not_lt_zero _)⟩, h⟩
      · obtain ⟨ks, h1, h2, h3, h4, h5⟩ := ref_grid hn hh hT
        have := rcol_none ar cr J ks (by omega) (h4.trans he) (.inr (by rw [h5]; exact hJ)) w h2
        rw [h1] at this
        refine this.mono ?_
        rintro e w' ⟨rfl, h⟩
        exact ⟨none, 0, rfl, ⟨fun i hi => absurd hi (Nat.not_lt_zero _)⟩, h⟩
    · obtain ⟨j, rfl⟩ : ∃ j : Nat, J = (j : Int) := ⟨J.toNat, by omega⟩
      have hj : j < (ls.getD 0 (none, 0, 0)).2.1 := by omega
      have hp : 0 < ls.length := by
        refine Nat.pos_of_ne_zero fun e => ?_
        rw [List.length_eq_zero_iff.1 e] at hj
        simp at hj
      refine ⟨colv ls.length rs j, 0, by rw [colv_len]; omega, fun w hb => ?_, fun w ar cr hb hT => ?_⟩
      · refine (col_ok a cap j ls rs (by omega) hj he w (hg.below hb) (hh.below hb)).mono ?_
        rintro e w' ⟨p, rfl, h1, _, h2⟩
        exact ⟨_, _, by rw [colv_len], h1, h2⟩
      · obtain ⟨ks, h1, h2, h3, h4, h5⟩ := ref_grid hn hh hT
        have := rcol_ok ar cr j ks rs (by omega) (by omega) (by rw [h5]; exact hj) (h4.trans he) w h2 h3
        rw [h1] at this
        refine this.mono ?_
        rintro e w' ⟨p, c, rfl, h1, h2⟩
        exact ⟨p, c, by rw [colv_len], h1, h2⟩
theorem mix_both (l : Int) (a a2 : Option Addr) (cap cap2 : Nat) (ls : List (Option Addr × Nat × Nat)) (rs : List (List (Nat × Nat))) (ys : List (Nat × Nat)) (n1 : ls.length ≤ 12) (N1 : (ls.getD 0 (none, 0, 0)).2.1 ≤ 20) (hn : rs.length = ls.length) (ly : ltE ys) (W : World) (hg : Grid W a ls) (hh : Held W ls rs) (hy : ERow W a2 ys) :
    ∃ (zs : List (Nat × Nat)) (k2 : Int), zs.length ≤ 100000 ∧ (∀ w , Below W.heap.size W w → Calls Try.prog 9 #[.int .i64 l, .slice a ls.length cap, .slice a2 ys.length cap2] w fun e w' => ∃ p c, e = .returned (.tuple #[.slice p zs.length c, .int .i64 k2]) ∧ ERow w' p zs ∧ Below w.heap.size w w') ∧ (∀ w ar cr ay cy, Below W.heap.size W w → TRowW w ar rs → ERow w ay ys → Calls Try.prog 10 #[.int .i64 l, .slice ar ls.length cr, .slice ay ys.length cy] w fun e w' => ∃ p c, e = .returned (.tuple #[.slice p zs.length c, .int .i64 k2]) ∧ ERow w' p zs ∧ Below w.heap.size w w') := by
  by_cases hm : ys.length = ls.length
  · cases he : evenB ls with
    | false =>
      refine ⟨[], 6, by simp, fun w hb => ?_, fun w ar cr ay cy hb hT hE => ?_⟩
      · have := slen_any a cap ls (by omega) w (hg.below hb)
        rw [he] at this
        rw [hm]
        refine (wmix_even l a a2 cap cap2 _ w (hidT this)).mono ?_
        rintro e w' ⟨rfl, h⟩
        exact ⟨none, 0, rfl, ⟨fun i hi => absurd hi (Nat.not_lt_zero _)⟩, h⟩
      · obtain ⟨ks, h1, h2, h3, h4, _⟩ := ref_grid hn hh hT
        have := even_any ar cr ks (by omega) w h2
        rw [h4, he, h1] at this
        rw [hm]
        refine (rmix_even l ar ay cr cy _ w (hidT this)).mono ?_
        rintro e w' ⟨rfl, h⟩
        exact ⟨none, 0, rfl, ⟨fun i hi => absurd hi (Nat.not_lt_zero _)⟩, h⟩
    | true =>
      cases oy : ys.all fun e => ofB l (e.1 : Int) (e.2 : Int) with
      | false =>
        refine ⟨[], 5, by simp, fun w hb => ?_, fun w ar cr ay cy hb hT hE => ?_⟩
        · have := slen_any a cap ls (by omega) w (hg.below hb)
          rw [he] at this
          have HA := hidT (fun v (hv : Below w.heap.size w v) => show Calls Try.prog 18 #[.int .i64 l, .slice a2 ls.length cap2] v fun e w' => e = .returned (.bool false) ∧ Below v.heap.size v w' from by
            have := wall_any l a2 cap2 ys ly v ((hy.below hb).below hv) (by omega)
            rw [oy, hm] at this
            exact this)
          rw [hm]
          refine (wmix_field l a a2 cap cap2 _ w (hidT this) HA).mono ?_
          rintro e w' ⟨rfl, h⟩
          exact ⟨none, 0, rfl, ⟨fun i hi => absurd hi (Nat.not_lt_zero _)⟩, h⟩
        · obtain ⟨ks, h1, h2, h3, h4, _⟩ := ref_grid hn hh hT
          have := even_any ar cr ks (by omega) w h2
          rw [h4, he, h1] at this
          have HA := hidT (fun v (hv : Below w.heap.size w v) => show Calls Try.prog 21 #[.int .i64 l, .slice ay ls.length cy] v fun e w' => e = .returned (.bool false) ∧ Below v.heap.size v w' from by
            have := rall_any l ay cy ys ly v (hE.below hv) (by omega)
            rw [oy, hm] at this
            exact this)
          rw [hm]
          refine (rmix_field l ar ay cr cy _ w (hidT this) HA).mono ?_
          rintro e w' ⟨rfl, h⟩
          exact ⟨none, 0, rfl, ⟨fun i hi => absurd hi (Nat.not_lt_zero _)⟩, h⟩
      | true =>
        by_cases hall : ∀ k, k < ls.length → ((rs.getD k []).all fun e => ofB l (e.1 : Int) (e.2 : Int)) = true
        · refine ⟨mixv ls.length (ls.getD 0 (none, 0, 0)).2.1 rs ys, 0, by rw [mixv_len]; omega, fun w hb => ?_, fun w ar cr ay cy hb hT hE => ?_⟩
          · rw [hm]
            refine (wmix_any l a a2 cap cap2 _ _ ls rs ys rfl hm (by omega) rfl (by omega) he ly oy w (hg.below hb) (hh.below hb) (hy.below hb)).mono ?_
            rintro e w' ⟨⟨_, p, rfl, h1⟩ | ⟨h0, _⟩, h2⟩
            · exact ⟨_, _, by rw [mixv_len], h1, h2⟩
            · exact absurd hall h0
          · obtain ⟨ks, h1, h2, h3, h4, h5⟩ := ref_grid hn hh hT
            rw [hm]
            refine (rmix_any l ar ay cr cy _ _ ks rs ys h1 hm (by omega) h5 (by omega) (h4.trans he) ly oy w h2 h3 hE).mono ?_
            rintro e w' ⟨⟨_, p, c, rfl, h1⟩ | ⟨h0, _⟩, h2⟩
            · exact ⟨p, c, by rw [mixv_len], h1, h2⟩
            · exact absurd hall h0
        · refine ⟨[], 5, by simp, fun w hb => ?_, fun w ar cr ay cy hb hT hE => ?_⟩
          · rw [hm]
            refine (wmix_any l a a2 cap cap2 _ _ ls rs ys rfl hm (by omega) rfl (by omega) he ly oy w (hg.below hb) (hh.below hb) (hy.below hb)).mono ?_
            rintro e w' ⟨⟨h0, _⟩ | ⟨_, rfl⟩, h⟩
            · exact absurd h0 hall
            · exact ⟨none, 0, rfl, ⟨fun i hi => absurd hi (Nat.not_lt_zero _)⟩, h⟩
          · obtain ⟨ks, h1, h2, h3, h4, h5⟩ := ref_grid hn hh hT
            rw [hm]
            refine (rmix_any l ar ay cr cy _ _ ks rs ys h1 hm (by omega) h5 (by omega) (h4.trans he) ly oy w h2 h3 hE).mono ?_
            rintro e w' ⟨⟨h0, _⟩ | ⟨_, rfl⟩, h⟩
            · exact absurd h0 hall
            · exact ⟨none, 0, rfl, ⟨fun i hi => absurd hi (Nat.not_lt_zero _)⟩, h⟩
  · refine ⟨[], 6, by simp, fun w hb => ?_, fun w ar cr ay cy hb hT hE => ?_⟩
    · refine (wmix_len l a a2 cap cap2 _ _ hm w).mono ?_
      rintro e w' ⟨rfl, h⟩
      exact ⟨none, 0, rfl, ⟨fun i hi => absurd hi (Nat.not_lt_zero _)⟩, h⟩
    · refine (rmix_len l ar ay cr cy _ _ hm w).mono ?_
      rintro e w' ⟨rfl, h⟩
      exact ⟨none, 0, rfl, ⟨fun i hi => absurd hi (Nat.not_lt_zero _)⟩, h⟩
set_option maxHeartbeats 2000000 in
theorem wcols_few (l J : Int) (a a2 : Option Addr) (cap cap2 n m : Nat) (W : World)
    (HF : Hid (∀ w, Below W.heap.size W w → Calls Try.prog 4 #[.slice a n cap, .int .i64 12, .int .i64 20] w fun e w' => e = .returned (.bool false) ∧ Below w.heap.size w w')) :
    Calls Try.prog 3 #[.int .i64 l, .slice a n cap, .agg #[.slice a2 m cap2, .int .i64 J]] W fun e w' => e = .returned (.bool true) ∧ Below W.heap.size W w' := by
  have AW := hidT awake9
  go_enter Try.func3, Try.ntmps3
  go_wp2_with (first
    | (go_at_call 4; refine (HF.out _ ((Below.refl _ _).alloc (Nat.le_refl _) _)).mono ?_; rintro e w1 ⟨rfl, hb1⟩; have D1 := hidT (((Below.refl W.heap.size W).alloc (Nat.le_refl _) _).trans (hb1.mono (by simp))); clear hb1)
    | (go_at_call 5; refine (AW.out.go _).mono ?_; rintro e w2 ⟨rfl, hb2⟩))
  go_ret
  exact ⟨rfl, D1.out.trans (hb2.mono D1.out.size)⟩
set_option maxHeartbeats 2000000 in
theorem wcols_long (l J : Int) (a a2 : Option Addr) (cap cap2 n m : Nat) (hm : 20 < m) (W : World)
    (HF : Hid (∀ w, Below W.heap.size W w → Calls Try.prog 4 #[.slice a n cap, .int .i64 12, .int .i64 20] w fun e w' => e = .returned (.bool true) ∧ Below w.heap.size w w')) :
    Calls Try.prog 3 #[.int .i64 l, .slice a n cap, .agg #[.slice a2 m cap2, .int .i64 J]] W fun e w' => e = .returned (.bool true) ∧ Below W.heap.size W w' := by
  have AW := hidT awake9
  have y1 : (20 : Int) < (m : Int) := by omega
  go_enter Try.func3, Try.ntmps3
  go_wp2_with (first
    | (go_at_call 4; refine (HF.out _ ((Below.refl _ _).alloc (Nat.le_refl _) _)).mono ?_; rintro e w1 ⟨rfl, hb1⟩; have f0 : w1.cell? ⟨W.heap.size, 0, none⟩ = some (.slice a2 m cap2) := keepc hb1 (by simp [go_sem]); have D1 := hidT (((Below.refl W.heap.size W).alloc (Nat.le_refl _) _).trans (hb1.mono (by simp))); clear hb1)
    | (go_at_call 5; refine (AW.out.go _).mono ?_; rintro e w2 ⟨rfl, hb2⟩))
  go_ret
  exact ⟨rfl, D1.out.trans (hb2.mono D1.out.size)⟩
theorem wcols_any (l J : Int) (a a2 : Option Addr) (cap cap2 : Nat) (ls : List (Option Addr × Nat × Nat)) (ys : List (Nat × Nat)) (ly : ltE ys) (W : World) (hg : Grid W a ls) (hr : ∀ i, i < ls.length → ∃ es : List (Nat × Nat), es.length = (ls.getD i (none, 0, 0)).2.1 ∧ ltE es ∧ ERow W (ls.getD i (none, 0, 0)).1 es) (hy : ERow W a2 ys) :
    Calls Try.prog 3 #[.int .i64 l, .slice a ls.length cap, .agg #[.slice a2 ys.length cap2, .int .i64 J]] W fun e w' => e = .returned (.bool true) ∧ Below W.heap.size W w' := by
  have HF := fun w (hb : Below W.heap.size W w) => few_any a cap 12 20 ls (by decide) w (hg.below hb)
  cases hf : fewB ls 12 20 with
  | false => exact wcols_few l J a a2 cap cap2 _ _ W (hidT fun w hb => by have := HF w hb; rw [hf] at this; exact this)
  | true =>
    have HF' := hidT (fun w (hb : Below W.heap.size W w) => show Calls Try.prog 4 #[.slice a ls.length cap, .int .i64 12, .int .i64 20] w fun e w' => e = .returned (.bool true) ∧ Below w.heap.size w w' from by have := HF w hb; rw [hf] at this; exact this)
    by_cases hm : 20 < ys.length
    · exact wcols_long l J a a2 cap cap2 _ _ hm W HF'
    · obtain ⟨rs, hn, hR⟩ := choose_list [] (fun i (es : List (Nat × Nat)) => es.length = (ls.getD i (none, 0, 0)).2.1 ∧ ltE es ∧ ERow W (ls.getD i (none, 0, 0)).1 es) ls.length hr
      have hh : Held W ls rs := fun i hi => ⟨(hR i hi).1.symm, (hR i hi).2⟩
      have hf2 : ls.length ≤ 12 ∧ ∀ r ∈ ls, r.2.1 ≤ 20 := by
        unfold fewB at hf
        rw [Bool.and_eq_true, List.all_eq_true] at hf
        exact ⟨of_decide_eq_true hf.1, fun r h => of_decide_eq_true (hf.2 r h)⟩
      have N1 : (ls.getD 0 (none, 0, 0)).2.1 ≤ 20 := by
        by_cases h0 : 0 < ls.length
        · exact hf2.2 _ (mem_sg ls 0 h0)
        · rw [List.length_eq_zero_iff.1 (show ls.length = 0 by omega)]; simp
      have hlen : ∀ t ∈ rs, t.length ≤ 1000 := fun t ht => by
        obtain ⟨i, hi, rfl⟩ := List.getElem_of_mem ht
        have h1 := (hR i (by omega)).1
        rw [show rs.getD i [] = rs[i] by simp [hi]] at h1
        have := hf2.2 _ (mem_sg ls i (by omega))
        omega
      obtain ⟨xs, k1, x1, c1, c2⟩ := col_both J a cap ls rs hf2.1 hn W hg hh
      obtain ⟨zs, k2, z1, c3, c4⟩ := mix_both l a a2 cap cap2 ls rs ys hf2.1 N1 hn ly W hg hh hy
      exact wcols_walk l J k1 k2 a a2 cap cap2 ls.length rs ys xs zs x1 z1 (by omega) W HF' (hidT c1) (hidT c2) (hidT c3) (hidT c4)
        (hidT fun w hb => by
          have := refs_anyW a cap rs (by omega) hlen w ((held_trow hn hg hh).below hb)
          rw [hn] at this
          exact this)
        (hidT fun w hb => ref_row a2 cap2 ys (by omega) w (hy.below hb))
end Go.Proofs.Ytccaobfhldfamaa
