/- The contracts of weave.Mix's errors, of steepleref09.Column's errNone and of steepleref09.Mix over the seat's translation. -/
import Derived.Test.YtccaobfhldfamaaWmA
namespace Go.Proofs.Ytccaobfhldfamaa
open Go.RowKit
open Cb Rg
open Tw (pm)

set_option maxHeartbeats 1000000 in
theorem wmix_len (l : Int) (a c : Option Addr) (cap cap2 n m : Nat) (hne : ¬ m = n) : Ret 9 #[.int .i64 l, .slice a n cap, .slice c m cap2] (.tuple #[.slice none 0 0, .int .i64 6]) := by
  intro W
  have hne2 : ¬ (m : Int) = (n : Int) := by omega
  go_enter Try.func9, Try.ntmps9
  go_wp2
  refine bodyPost_ret (v := .tuple #[.slice none 0 0, .int .i64 6]) (by simp [results, Try.results9, go_sem]) rfl ⟨rfl, ?_⟩
  go_grown
set_option maxHeartbeats 1000000 in
theorem wmix_even (l : Int) (a c : Option Addr) (cap cap2 n : Nat) (W : World) (HS : Hid (Calls Try.prog 15 #[.slice a n cap] W fun e w' => e = .returned (.bool false) ∧ Below W.heap.size W w')) :
    Calls Try.prog 9 #[.int .i64 l, .slice a n cap, .slice c n cap2] W fun e w' => e = .returned (.tuple #[.slice none 0 0, .int .i64 6]) ∧ Below W.heap.size W w' := by
  go_enter Try.func9, Try.ntmps9
  go_wp2_with (go_at_call 15; refine HS.out.mono ?_; rintro e w1 ⟨rfl, hb1⟩)
  refine bodyPost_ret (v := .tuple #[.slice none 0 0, .int .i64 6]) (by simp [results, Try.results9, go_sem]) rfl ⟨rfl, ?_⟩
  exact hb1
set_option maxHeartbeats 1000000 in
theorem wmix_field (l : Int) (a c : Option Addr) (cap cap2 n : Nat) (W : World) (HS : Hid (Calls Try.prog 15 #[.slice a n cap] W fun e w' => e = .returned (.bool true) ∧ Below W.heap.size W w'))
    (HA : Hid (∀ w, Below W.heap.size W w → Calls Try.prog 18 #[.int .i64 l, .slice c n cap2] w fun e w' => e = .returned (.bool false) ∧ Below w.heap.size w w')) :
    Calls Try.prog 9 #[.int .i64 l, .slice a n cap, .slice c n cap2] W fun e w' => e = .returned (.tuple #[.slice none 0 0, .int .i64 5]) ∧ Below W.heap.size W w' := by
  go_enter Try.func9, Try.ntmps9
  go_wp2_with (first | (go_at_call 15; refine HS.out.mono ?_; rintro e w1 ⟨rfl, hb1⟩) | (go_at_call 18; refine (HA.out _ hb1).mono ?_; rintro e w2 ⟨rfl, hb2⟩))
  refine bodyPost_ret (v := .tuple #[.slice none 0 0, .int .i64 5]) (by simp [results, Try.results9, go_sem]) rfl ⟨rfl, ?_⟩
  exact hb1.trans (hb2.mono hb1.size)
set_option maxHeartbeats 1000000 in
theorem rmix_len (l : Int) (a c : Option Addr) (cap cap2 n m : Nat) (hne : ¬ m = n) : Ret 10 #[.int .i64 l, .slice a n cap, .slice c m cap2] (.tuple #[.slice none 0 0, .int .i64 6]) := by
  intro W
  have hne2 : ¬ (n : Int) = (m : Int) := by omega
  go_enter Try.func10, Try.ntmps10
  go_wp2
  refine bodyPost_ret (v := .tuple #[.slice none 0 0, .int .i64 6]) (by simp [results, Try.results10, go_sem]) rfl ⟨rfl, ?_⟩
  go_grown
set_option maxHeartbeats 1000000 in
theorem rmix_even (l : Int) (a c : Option Addr) (cap cap2 n : Nat) (W : World) (HS : Hid (Calls Try.prog 17 #[.slice a n cap] W fun e w' => e = .returned (.bool false) ∧ Below W.heap.size W w')) :
    Calls Try.prog 10 #[.int .i64 l, .slice a n cap, .slice c n cap2] W fun e w' => e = .returned (.tuple #[.slice none 0 0, .int .i64 6]) ∧ Below W.heap.size W w' := by
  go_enter Try.func10, Try.ntmps10
  go_wp2_with (go_at_call 17; refine HS.out.mono ?_; rintro e w1 ⟨rfl, hb1⟩)
  refine bodyPost_ret (v := .tuple #[.slice none 0 0, .int .i64 6]) (by simp [results, Try.results10, go_sem]) rfl ⟨rfl, ?_⟩
  exact hb1
set_option maxHeartbeats 1000000 in
theorem rmix_field (l : Int) (a c : Option Addr) (cap cap2 n : Nat) (W : World) (HS : Hid (Calls Try.prog 17 #[.slice a n cap] W fun e w' => e = .returned (.bool true) ∧ Below W.heap.size W w'))
    (HA : Hid (∀ w, Below W.heap.size W w → Calls Try.prog 21 #[.int .i64 l, .slice c n cap2] w fun e w' => e = .returned (.bool false) ∧ Below w.heap.size w w')) :
    Calls Try.prog 10 #[.int .i64 l, .slice a n cap, .slice c n cap2] W fun e w' => e = .returned (.tuple #[.slice none 0 0, .int .i64 5]) ∧ Below W.heap.size W w' := by
  go_enter Try.func10, Try.ntmps10
  go_wp2_with (first | (go_at_call 17; refine HS.out.mono ?_; rintro e w1 ⟨rfl, hb1⟩) | (go_at_call 21; refine (HA.out _ hb1).mono ?_; rintro e w2 ⟨rfl, hb2⟩))
  refine bodyPost_ret (v := .tuple #[.slice none 0 0, .int .i64 5]) (by simp [results, Try.results10, go_sem]) rfl ⟨rfl, ?_⟩
  exact hb1.trans (hb2.mono hb1.size)
set_option maxHeartbeats 2000000 in
theorem rcol_none (a : Option Addr) (cap : Nat) (j : Int) (ls : List (Option Addr × Nat × Nat)) (hn : ls.length ≤ 1000) (he : evenB ls = true) (hj : ls.length = 0 ∨ j < 0 ∨ ((ls.getD 0 (none, 0, 0)).2.1 : Int) ≤ j) (W : World) (hr : Grid W a ls) :
    Calls Try.prog 7 #[.slice a ls.length cap, .int .i64 j] W fun e w' => e = .returned (.tuple #[.slice none 0 0, .int .i64 4]) ∧ Below W.heap.size W w' := by
  have HS : Hid (Calls Try.prog 17 #[.slice a ls.length cap] W fun e w' => e = .returned (.bool true) ∧ Below W.heap.size W w') := by
    have := even_any a cap ls hn W hr
    rw [he] at this
    exact this
  clear he
  by_cases h0 : ls.length = 0
  · rw [h0] at HS ⊢
    clear hj hr hn h0
    have l1 : (0 : Int) = ((0 : Nat) : Int) := rfl
    clear l1
    go_enter Try.func7, Try.ntmps7
    go_wp2_with (go_at_call 17; refine HS.out.mono ?_; rintro e w1 ⟨rfl, hb1⟩)
    refine bodyPost_ret (v := .tuple #[.slice none 0 0, .int .i64 4]) (by simp [results, Try.results7, go_sem]) rfl ⟨rfl, ?_⟩
    exact hb1
  · have l2 : ¬ (ls.length : Int) = 0 := by omega
    have l4 : ((ls.length : Int) == 0) = false := beq_eq_false_iff_ne.2 l2
    by_cases h1 : j < 0
    · clear hj hr hn
      go_enter Try.func7, Try.ntmps7
      go_wp2_with (go_at_call 17; refine HS.out.mono ?_; rintro e w1 ⟨rfl, hb1⟩)
      refine bodyPost_ret (v := .tuple #[.slice none 0 0, .int .i64 4]) (by simp [results, Try.results7, go_sem]) rfl ⟨rfl, ?_⟩
      exact hb1
    · have h2 : ((ls.getD 0 (none, 0, 0)).2.1 : Int) ≤ j := by omega
      obtain ⟨b, off, rfl, hb, cb⟩ := hr.cells 0 (by omega)
      rw [Nat.add_zero] at cb
      have HCb := hidT (And.intro cb h2)
      clear hj hr hb cb h2
      go_enter Try.func7, Try.ntmps7
      go_wp2_with (go_at_call 17; refine HS.out.mono ?_; rintro e w1 ⟨rfl, hb1⟩; have db := keepc hb1 HCb.out.1; have j1 := HCb.out.2; clear HCb; generalize ls.getD 0 (none, 0, 0) = z at db j1)
      refine bodyPost_ret (v := .tuple #[.slice none 0 0, .int .i64 4]) (by simp [results, Try.results7, go_sem]) rfl ⟨rfl, ?_⟩
      exact hb1
theorem mixv_take (n N : Nat) (rs : List (List (Nat × Nat))) (ys : List (Nat × Nat)) : mixv n (N + 1) rs ys = mixv n N rs ys ++ [dots (colv n rs N) ys n] := by simp [mixv, List.range_succ]
theorem colv_lt {n : Nat} {rs : List (List (Nat × Nat))} (h : ∀ i, i < n → ltE (rs.getD i [])) (j : Nat) : ltE (colv n rs j) := fun e he => by
  obtain ⟨i, hi, rfl⟩ := List.mem_map.1 he
  exact (h i (List.mem_range.1 hi)).at j
theorem ofB_seven (h l : Nat) : ofB 7 (h : Int) (l : Int) = true := (ofB_iff 7 h l (by decide)).2 (.inl rfl)
theorem dotv_seven (es fs : List (Nat × Nat)) (h : fs.length = es.length) : dotv 7 es fs = dots es fs es.length := dotv_rt h fun _ _ => ⟨ofB_seven _ _, ofB_seven _ _⟩
set_option linter.unusedSimpArgs false in
set_option linter.unusedVariables false in
set_option maxHeartbeats 20000000 in
set_option maxRecDepth 100000 in
theorem rmix_any (l : Int) (a a2 : Option Addr) (cap cap2 n N : Nat) (ls : List (Option Addr × Nat × Nat)) (rs : List (List (Nat × Nat))) (ys : List (Nat × Nat)) (hn : ls.length = n) (hy : ys.length = n) (n1 : n ≤ 1000) (hN : (ls.getD 0 (none, 0, 0)).2.1 = N) (N1 : N ≤ 1000) (he : evenB ls = true)
    (ly : ltE ys) (oy : (ys.all fun e => ofB l (e.1 : Int) (e.2 : Int)) = true) (W : World) (hr : Grid W a ls) (hh : Held W ls rs) (hy2 : ERow W a2 ys) :
    Calls Try.prog 10 #[.int .i64 l, .slice a n cap, .slice a2 n cap2] W fun e w' => (((∀ k, k < n → ((rs.getD k []).all fun e => ofB l (e.1 : Int) (e.2 : Int)) = true) ∧ ∃ a' cap', e = .returned (.tuple #[.slice a' N cap', .int .i64 0]) ∧ ERow w' a' (mixv n N rs ys)) ∨ ((¬ ∀ k, k < n → ((rs.getD k []).all fun e => ofB l (e.1 : Int) (e.2 : Int)) = true) ∧ e = .returned (.tuple #[.slice none 0 0, .int .i64 5]))) ∧ Below W.heap.size W w' := by
  obtain ⟨i0, hi, hz0, hz1, hz2⟩ := info_relem
  have HI := hidT (show Try.prog.info? 50 = some i0 ∧ i0.zero = some (.agg #[.int .u64 0, .int .u64 0]) ∧ i0.size = 2 ∧ i0.bytes = 16 from ⟨hi, hz0, hz1, hz2⟩)
  have HS := hidT (show Calls Try.prog 17 #[.slice a n cap] W fun e w' => e = .returned (.bool true) ∧ Below W.heap.size W w' from by
    have := even_any a cap ls (by omega) W hr
    rw [he, hn] at this
    exact this)
  have HA := hidT (fun w (hb : Below W.heap.size W w) => show Calls Try.prog 21 #[.int .i64 l, .slice a2 n cap2] w fun e w' => e = .returned (.bool true) ∧ Below w.heap.size w w' from by
    have := rall_any l a2 cap2 ys ly w (hy2.below hb) (by omega)
    rw [oy, hy] at this
    exact this)
  have HE := hidT (And.intro he hN)
  have HR := hidT (And.intro hr hn)
  have HH := hidT hh
  have HY := hidT (And.intro ly (And.intro hy2 hy))
  clear hi hz0 hz1 hz2 hr hh he hN ly oy hy2 hn hy
  go_enter Try.func10, Try.ntmps10
  go_wp2_with (first
    | (go_at_call 17; refine HS.out.mono ?_; rintro e w1 ⟨rfl, hb1⟩; have D1 := hidT hb1; clear hb1)
    | (go_at_call 21; refine (HA.out _ D1.out).mono ?_; rintro e w2 ⟨rfl, hb2⟩; have D := hidT (D1.out.trans (hb2.mono D1.out.size)); clear hb2 D1))
  clear HS HA
  go_loopw [9] (fun u wr => ∃ i : Nat, i ≤ n ∧ u = .int .i64 i ∧ Hid (Below W.heap.size W wr) ∧ Hid (∀ k, k < i → ((rs.getD k []).all fun e => ofB l (e.1 : Int) (e.2 : Int)) = true)) (fun u _ => n - (intOf u).toNat)
  case atStart => exact ⟨0, Nat.zero_le _, rfl, D, hidT (fun k hk => absurd hk (Nat.not_lt_zero _))⟩
  case round =>
    obtain ⟨i, hi, rfl, BW, HP⟩ := hrel
    clear D
    by_cases hlt : i < n
    · obtain ⟨b, off, rfl, hb, cb⟩ := HR.out.1.cells i (by have := HR.out.2; omega)
      obtain ⟨q1, q2, q3⟩ := HH.out i (by have := HR.out.2; omega)
      have hm := (even_at HE.out.1 i (by have := HR.out.2; omega)).trans HE.out.2
      obtain ⟨ra, hra⟩ : ∃ ra, ra = (ls.getD i (none, 0, 0)).1 := ⟨_, rfl⟩
      rw [← hra] at q3
      rw [hm] at q1
      have db := keepc BW.out cb
      rw [hm, ← hra] at db
      clear cb hra hm
      generalize (ls.getD i (none, 0, 0)).2.2 = cp at *
      have HA := hidT (fun w (hb : Below W.heap.size W w) => show Calls Try.prog 21 #[.int .i64 l, .slice ra N cp] w fun e w' => e = .returned (.bool ((rs.getD i []).all fun e => ofB l (e.1 : Int) (e.2 : Int))) ∧ Below w.heap.size w w' from by
        have := rall_any l ra cp (rs.getD i []) q2 w (q3.below hb) (by omega)
        rw [← q1] at this
        exact this)
      clear q1 q2 q3
      have i1 : (i : Int) < (n : Int) := by omega
      have i0 : (0 : Int) ≤ (i : Int) := by omega
      by_cases hall : ((rs.getD i []).all fun e => ofB l (e.1 : Int) (e.2 : Int)) = true
      · rw [hall] at HA
        have HP2 := hidT (show ∀ k, k < i + 1 → ((rs.getD k []).all fun e => ofB l (e.1 : Int) (e.2 : Int)) = true from fun k hk => by
          by_cases e : k < i
          · exact HP.out k e
          · rw [show k = i by omega]; exact hall)
        clear hall HP
        go_wp2_with (go_at_call 21; refine (HA.out _ BW.out).mono ?_; rintro e w5 ⟨rfl, hb5⟩; have B5 := hidT (BW.out.trans (hb5.mono BW.out.size)); clear hb5 BW HA db)
        exact ⟨⟨i + 1, hlt, by simp, B5, HP2⟩, by simp [intOf]; omega⟩
      · have hf : ((rs.getD i []).all fun e => ofB l (e.1 : Int) (e.2 : Int)) = false := by cases h : ((rs.getD i []).all fun e => ofB l (e.1 : Int) (e.2 : Int)) with | true => exact absurd h hall | false => rfl
        rw [hf] at HA
        have HNO := hidT (show ¬ ∀ k, k < n → ((rs.getD k []).all fun e => ofB l (e.1 : Int) (e.2 : Int)) = true from fun h => hall (h i hlt))
        clear hf hall
        go_wp2_with (go_at_call 21; refine (HA.out _ BW.out).mono ?_; rintro e w5 ⟨rfl, hb5⟩; have B5 := hidT (BW.out.trans (hb5.mono BW.out.size)); clear hb5 BW HA db)
        refine bodyPost_ret (v := .tuple #[.slice none 0 0, .int .i64 5]) (by simp [results, Try.results10, go_sem]) rfl ?_
        exact ⟨.inr ⟨HNO.out, rfl⟩, B5.out⟩
    · obtain rfl : i = n := by omega
      go_wp2_with fail
      go_loopw [8, 10] (fun v u wr2 => ∃ j : Nat, j ≤ N ∧ u = .int .i64 j ∧ wr2.ownsRow W.heap.size 50 2 v j (flat (mixv i j rs ys)) ∧ Hid (Below W.heap.size W wr2)) (fun _ u _ => N - (intOf u).toNat)
      case atStart => exact ⟨0, Nat.zero_le _, rfl, ⟨by simp [flat, mixv], .inl ⟨rfl, rfl⟩⟩, BW⟩
      case round =>
        obtain ⟨j, hj, rfl, hown, HB⟩ := hrel
        have HO := hidT hown
        clear hown BW
        by_cases hjl : j < N
        · have hpos : 0 < i := by
            refine Nat.pos_of_ne_zero fun e => ?_
            have h1 := HR.out.2
            have h2 := HE.out.2
            rw [List.getD_eq_getElem?_getD, List.getElem?_eq_none (by omega)] at h2
            simp at h2
            omega
          obtain ⟨b, off, rfl, hb, cb⟩ := HR.out.1.cells 0 (by have := HR.out.2; omega)
          rw [Nat.add_zero] at cb
          have db := keepc HB.out cb
          rw [HE.out.2] at db
          clear cb hb
          generalize (ls.getD 0 (none, 0, 0)).1 = ra at db
          generalize (ls.getD 0 (none, 0, 0)).2.2 = cp at db
          have HCo := hidT (fun w (hb : Below W.heap.size W w) => show Calls Try.prog 7 #[.slice (some ⟨b, off, none⟩) i cap, .int .i64 (j : Int)] w fun e w' => ∃ a' cap', e = .returned (.tuple #[.slice a' i cap', .int .i64 0]) ∧ ERow w' a' (colv i rs j) ∧ Below w.heap.size w w' from by
            have := rcol_ok (some ⟨b, off, none⟩) cap j ls rs (by have := HR.out.2; omega) (by have := HR.out.2; omega) (by rw [HE.out.2]; exact hjl) HE.out.1 w (HR.out.1.below hb) (HH.out.below hb)
            rw [HR.out.2] at this
            exact this)
          have hcl : ltE (colv i rs j) := colv_lt (fun k hk => (HH.out k (by have := HR.out.2; omega)).2.1) j
          have HDo := hidT (fun w (a' : Option Addr) (cap' : Nat) (hb : Below W.heap.size W w) (hE : ERow w a' (colv i rs j)) => show Calls Try.prog 22 #[.int .i64 7, .slice a' i cap', .slice a2 i cap2] w fun e w' => e = .returned (.agg #[.int .u64 ((dots (colv i rs j) ys i).1 : Int), .int .u64 ((dots (colv i rs j) ys i).2 : Int)]) ∧ Below w.heap.size w w' from by
            have := rdot_any 7 a' a2 cap' cap2 (colv i rs j) ys hcl HY.out.1 (by rw [colv_len]; exact n1) w hE (HY.out.2.1.below hb)
            rw [dotv_seven _ _ (by rw [colv_len]; exact HY.out.2.2), colv_len, HY.out.2.2] at this
            exact this)
          have HC := hidT (mixv_take i j rs ys)
          clear hcl
          generalize dots (colv i rs j) ys i = z at *
          have l1 : (0 : Int) < (i : Int) := by omega
          have j1 : (j : Int) < (N : Int) := by omega
          have j0 : (0 : Int) ≤ (j : Int) := by omega
          go_wp2_with (first
            | (go_at_call 7; refine (HCo.out _ HB.out).mono ?_; rintro e w1 ⟨ac, cc, rfl, hE, hb1⟩; have K1 := hidT (And.intro (own_below HO.out hb1) (And.intro (HB.out.trans (hb1.mono HB.out.size)) hE)); clear hE hb1 HO HB HCo db)
            | (go_at_call 22; refine (HDo.out _ _ _ K1.out.2.1 K1.out.2.2).mono ?_; rintro e w2 ⟨rfl, hb2⟩; have K2 := hidT (And.intro (own_below K1.out.1 hb2) (K1.out.2.1.trans (hb2.mono K1.out.2.1.size))); clear hb2 K1 HDo)
            | (at_builtin; refine wpList_append_own _ rfl _ _ 31 rfl W.heap.size 50 i0 (.agg #[.int .u64 0, .int .u64 0]) 2 16 Try.underlying31 HI.out.1 HI.out.2.1 HI.out.2.2.1 HI.out.2.2.2 rfl (by decide) _ _ _ rfl (own_below K2.out.1 (by go_grown)) ⟨w2.heap.size, 0, none⟩ 1 1 [.int .u64 (z.1 : Int), .int .u64 (z.2 : Int)] rfl rfl (fun p u hu => by rcases p with _ | _ | p <;> simp at hu <;> subst hu <;> simp [go_sem]) (by intro u hu; simp at hu; rcases hu with rfl | rfl <;> rfl) (by simp only [maxLen]; omega) (by omega) (by have := K2.out.2.size; simp; omega) ?_; intro v' w' hown' hgr _))
          refine ⟨⟨j + 1, hjl, by simp, ?_, ?_⟩, by simp [intOf]; omega⟩
          · rw [HC.out, flat_snoc]; exact hown'
          · exact hidT ((K2.out.2.alloc K2.out.2.size _).grown hgr (by have := K2.out.2.size; simp; omega) fun k hk => (K2.out.1.lt k hk).1)
        · obtain rfl : j = N := by omega
          have HO' : wr.ownsRow W.heap.size 50 2 u8 (mixv i j rs ys).length (flat (mixv i j rs ys)) := by rw [mixv_len]; exact HO.out
          obtain ⟨a', cap', hv, hE⟩ := own_row HO'
          rw [mixv_len] at hv
          subst hv
          have HEr := hidT (And.intro hE HB.out)
          clear hE HO HO' HB
          have FIN : ∀ w', w' = wr → (((∀ k, k < i → ((rs.getD k []).all fun e => ofB l (e.1 : Int) (e.2 : Int)) = true) ∧ ∃ a'' cap'', Ending.returned (.tuple #[.slice a' j cap', .int .i64 0]) = .returned (.tuple #[.slice a'' j cap'', .int .i64 0]) ∧ ERow w' a'' (mixv i j rs ys)) ∨ ((¬ ∀ k, k < i → ((rs.getD k []).all fun e => ofB l (e.1 : Int) (e.2 : Int)) = true) ∧ Ending.returned (.tuple #[.slice a' j cap', .int .i64 0]) = .returned (.tuple #[.slice none 0 0, .int .i64 5]))) ∧ Below W.heap.size W w' := by
            rintro w' rfl
            exact ⟨.inl ⟨HP.out, a', cap', rfl, HEr.out.1⟩, HEr.out.2⟩
          rcases Nat.eq_zero_or_pos i with h0 | hpos
          · have l1 : ¬ (0 : Int) < (i : Int) := by omega
            clear HH HY HP
            go_wp2
            refine bodyPost_ret (v := .tuple #[.slice a' j cap', .int .i64 0]) (by simp [results, Try.results10, go_sem]) rfl ?_
            exact ⟨⟨a', ⟨cap', rfl⟩, by have := HEr.out.1; rw [h0] at this; exact this⟩, HEr.out.2⟩
          · obtain ⟨b, off, rfl, hb, cb⟩ := HR.out.1.cells 0 (by have := HR.out.2; omega)
            rw [Nat.add_zero] at cb
            have db := keepc HEr.out.2 cb
            rw [HE.out.2] at db
            clear cb hb
            generalize (ls.getD 0 (none, 0, 0)).1 = ra at db
            generalize (ls.getD 0 (none, 0, 0)).2.2 = cp at db
            have l1 : (0 : Int) < (i : Int) := by omega
            clear HH HY HP
            go_wp2
            refine bodyPost_ret (v := .tuple #[.slice a' j cap', .int .i64 0]) (by simp [results, Try.results10, go_sem]) rfl ?_
            exact FIN _ rfl
end Go.Proofs.Ytccaobfhldfamaa
