/- The contract of weave.Mix over the seat's translation. -/
import Derived.Test.YtccaobfhldfamaaWwR
import Derived.Test.YtccaobfhldfamaaWvB
import Derived.Test.YtccaobfhldfamaaPSlD
import Derived.Test.YtccaobfhldfamaaPRgC
namespace Go.Proofs.Ytccaobfhldfamaa
open Go.RowKit
open Cb Rg
open Tw (pm)

/-- Rows, mixed. -/
def mixv (n N : Nat) (rs : List (List (Nat × Nat))) (ys : List (Nat × Nat)) : List (Nat × Nat) := (List.range N).map fun c => dots (colv n rs c) ys n
/-- i rows done, and j places of one more. -/
def mxh (n : Nat) (rs : List (List (Nat × Nat))) (ys : List (Nat × Nat)) (i j c : Nat) : Nat × Nat := dots (colv n rs c) ys (if c < j then i + 1 else i)
theorem mixv_len (n N : Nat) (rs : List (List (Nat × Nat))) (ys : List (Nat × Nat)) : (mixv n N rs ys).length = N := by simp [mixv]
theorem mixv_at (n N : Nat) (rs : List (List (Nat × Nat))) (ys : List (Nat × Nat)) (c : Nat) (hc : c < N) : el (mixv n N rs ys) c = mxh n rs ys n 0 c := by
  unfold mxh
  rw [if_neg (Nat.not_lt_zero c)]
  simp [mixv, el, List.getD, hc]
theorem mxh_zero (n : Nat) (rs : List (List (Nat × Nat))) (ys : List (Nat × Nat)) (c : Nat) : mxh n rs ys 0 0 c = (0, 0) := by
  unfold mxh; rw [if_neg (Nat.not_lt_zero c)]; rfl
theorem mxh_next (n : Nat) (rs : List (List (Nat × Nat))) (ys : List (Nat × Nat)) (i N c : Nat) (hc : c < N) : mxh n rs ys i N c = mxh n rs ys (i + 1) 0 c := by
  unfold mxh; rw [if_pos hc, if_neg (Nat.not_lt_zero c)]
theorem mxh_put (n : Nat) (rs : List (List (Nat × Nat))) (ys : List (Nat × Nat)) (i j : Nat) (hi : i < n) (c : Nat) :
    mxh n rs ys i (j + 1) c = if c = j then xa (mxh n rs ys i j j) (pm (el ys i) (el (rs.getD i []) j)) else mxh n rs ys i j c := by
  by_cases h : c = j
  · subst h
    rw [if_pos rfl]
    unfold mxh
    rw [if_pos (by omega), if_neg (by omega), dots_succ, colv_at n rs c i hi, Tw.pm_comm' ((rs.getD i []).getD c (0, 0))]
    rfl
  · rw [if_neg h]
    unfold mxh
    by_cases h1 : c < j
    · rw [if_pos h1, if_pos (by omega)]
    · rw [if_neg h1, if_neg (by omega)]
/-- The row that is made, and the box of an element. -/
structure Mw (W2 w : World) (N : Nat) (h : Nat → Nat × Nat) (q : Nat) (x : Nat × Nat) : Prop where
  t : Tn W2 w N h
  x : El w q x.1 x.2
  n : q ≠ W2.heap.size
theorem Mw.below {W2 w w' : World} {N : Nat} {h : Nat → Nat × Nat} {q : Nat} {x : Nat × Nat} (k : Mw W2 w N h q x) (hb : Below w.heap.size w w') : Mw W2 w' N h q x := ⟨k.t.below hb, k.x.below hb, k.n⟩
theorem Mw.drew {W2 w : World} {N : Nat} {h : Nat → Nat × Nat} {q : Nat} {x : Nat × Nat} (k : Mw W2 w N h q x) : Mw W2 w.drew N h q x := k.below (Below.refl _ _).drew
theorem mul_ofs {l : Int} {a b : Nat × Nat} (h1 : ofB l (a.1 : Int) (a.2 : Int) = true) (h2 : ofB l (b.1 : Int) (b.2 : Int) = true) (la : lt2 a) (lb : lt2 b) :
    Ret 20 #[.int .i64 l, .agg #[.int .u64 (a.1 : Int), .int .u64 (a.2 : Int)], .agg #[.int .u64 (b.1 : Int), .int .u64 (b.2 : Int)]] (.agg #[.int .u64 ((pm a b).1 : Int), .int .u64 ((pm a b).2 : Int)]) := by
  have := mul_any l a b la.1 la.2 lb.1 lb.2
  rw [mulv_of h1 h2] at this
  exact this
theorem el_of {l : Int} {es : List (Nat × Nat)} (h : (es.all fun e => ofB l (e.1 : Int) (e.2 : Int)) = true) {i : Nat} (hi : i < es.length) : ofB l ((el es i).1 : Int) ((el es i).2 : Int) = true :=
  List.all_eq_true.1 h _ (by rw [show el es i = es[i] from by simp [el, hi]]; exact List.getElem_mem hi)
set_option linter.unusedSimpArgs false in
set_option linter.unusedVariables false in
set_option maxHeartbeats 20000000 in
set_option maxRecDepth 100000 in
theorem wmix_any (l : Int) (a a2 : Option Addr) (cap cap2 n N : Nat) (ls : List (Option Addr × Nat × Nat)) (rs : List (List (Nat × Nat))) (ys : List (Nat × Nat)) (hn : ls.length = n) (hy : ys.length = n) (n1 : n ≤ 1000) (hN : (ls.getD 0 (none, 0, 0)).2.1 = N) (N1 : N ≤ 1000) (he : evenB ls = true)
    (ly : ltE ys) (oy : (ys.all fun e => ofB l (e.1 : Int) (e.2 : Int)) = true) (W : World) (hr : Grid W a ls) (hh : Held W ls rs) (hy2 : ERow W a2 ys) :
    Calls Try.prog 9 #[.int .i64 l, .slice a n cap, .slice a2 n cap2] W fun e w' => (((∀ k, k < n → ((rs.getD k []).all fun e => ofB l (e.1 : Int) (e.2 : Int)) = true) ∧ ∃ p, e = .returned (.tuple #[.slice (some ⟨p, 0, none⟩) N N, .int .i64 0]) ∧ ERow w' (some ⟨p, 0, none⟩) (mixv n N rs ys)) ∨ ((¬ ∀ k, k < n → ((rs.getD k []).all fun e => ofB l (e.1 : Int) (e.2 : Int)) = true) ∧ e = .returned (.tuple #[.slice none 0 0, .int .i64 5]))) ∧ Below W.heap.size W w' := by
  obtain ⟨i0, hi, hz0, hz1, hz2⟩ := info_elem
  have HI := hidT (show Try.prog.info? 44 = some i0 ∧ i0.zero = some (.agg #[.int .u64 0, .int .u64 0]) ∧ i0.size = 2 ∧ i0.bytes = 16 from ⟨hi, hz0, hz1, hz2⟩)
  have HS := hidT (show Calls Try.prog 15 #[.slice a n cap] W fun e w' => e = .returned (.bool true) ∧ Below W.heap.size W w' from by
    have := slen_any a cap ls (by omega) W hr
    rw [he, hn] at this
    exact this)
  have HA := hidT (fun w (hb : Below W.heap.size W w) => show Calls Try.prog 18 #[.int .i64 l, .slice a2 n cap2] w fun e w' => e = .returned (.bool true) ∧ Below w.heap.size w w' from by
    have := wall_any l a2 cap2 ys ly w (hy2.below hb) (by omega)
    rw [oy, hy] at this
    exact this)
  have HW := hidT (fun w (hb : Below W.heap.size W w) => show Calls Try.prog 16 #[.slice a n cap] w fun e w' => e = .returned (.int .i64 (N : Int)) ∧ Below w.heap.size w w' from by
    have := wid_any a cap ls w (hr.below hb)
    rw [hN, hn] at this
    exact this)
  have HE := hidT (And.intro he hN)
  have HR := hidT (And.intro hr hn)
  have HH := hidT hh
  have HY := hidT (And.intro ly (And.intro oy (And.intro hy2 hy)))
  have NN : (n : Int) = (n : Int) := rfl
  clear hi hz0 hz1 hz2 hr hh he hN ly oy hy2 hn hy NN
  go_enter Try.func9, Try.ntmps9
  go_wp2_with (first
    | (go_at_call 15; refine HS.out.mono ?_; rintro e w1 ⟨rfl, hb1⟩; have D1 := hidT hb1; clear hb1)
    | (go_at_call 18; refine (HA.out _ D1.out).mono ?_; rintro e w2 ⟨rfl, hb2⟩; have D2 := hidT (D1.out.trans (hb2.mono D1.out.size)); clear hb2 D1)
    | (go_at_call 16; refine (HW.out _ D2.out).mono ?_; rintro e W2 ⟨rfl, hb3⟩; have D := hidT (D2.out.trans (hb3.mono D2.out.size)); clear hb3 D2)
    | (at_make; refine wpList_make_full _ rfl _ _ 23 rfl 0 44 i0 (.agg #[.int .u64 0, .int .u64 0]) 2 Try.underlying23 HI.out.1 HI.out.2.1 HI.out.2.2.1 .i64 .i64 _ _ N rfl rfl rfl rfl (by rw [HI.out.2.2.2]; omega) (by simp only [maxLen]; omega) (Nat.zero_le _) ?_; intro w3 own3 hgr3; have K0 := hidT (Tn.start own3 hgr3 (mxh n rs ys 0 0) (fun c _ => mxh_zero n rs ys c)); clear own3 hgr3))
  clear HS HA HW HI
  go_loopw [32] (fun u wr => ∃ i : Nat, i ≤ n ∧ u = .int .i64 i ∧ Hid (Tn W2 wr N (mxh n rs ys i 0)) ∧ Hid (∀ k, k < i → ((rs.getD k []).all fun e => ofB l (e.1 : Int) (e.2 : Int)) = true)) (fun u _ => n - (intOf u).toNat)
  case atStart => exact ⟨0, Nat.zero_le _, rfl, K0, hidT (fun k hk => absurd hk (Nat.not_lt_zero _))⟩
  case round =>
    obtain ⟨i, hi, rfl, HK, HP⟩ := hrel
    clear K0
    by_cases hlt : i < n
    · obtain ⟨b, off, rfl, hb, cb⟩ := HR.out.1.cells i (by have := HR.out.2; omega)
      obtain ⟨q1, q2, q3⟩ := HH.out i (by have := HR.out.2; omega)
      have hm := (even_at HE.out.1 i (by have := HR.out.2; omega)).trans HE.out.2
      obtain ⟨ra, hra⟩ : ∃ ra, ra = (ls.getD i (none, 0, 0)).1 := ⟨_, rfl⟩
      rw [← hra] at q3
      rw [hm] at q1
      have BW := hidT (D.out.trans (HK.out.d.mono D.out.size))
      have db := keepc BW.out cb
      rw [hm, ← hra] at db
      clear cb hra hm
      generalize (ls.getD i (none, 0, 0)).2.2 = cp at *
      have HQ := hidT (And.intro q1 (And.intro q2 q3))
      have HA := hidT (fun w (hb : Below W.heap.size W w) => show Calls Try.prog 18 #[.int .i64 l, .slice ra N cp] w fun e w' => e = .returned (.bool ((rs.getD i []).all fun e => ofB l (e.1 : Int) (e.2 : Int))) ∧ Below w.heap.size w w' from by
        have := wall_any l ra cp (rs.getD i []) q2 w (q3.below hb) (by omega)
        rw [← q1] at this
        exact this)
      clear q1 q2 q3
      have i1 : (i : Int) < (n : Int) := by omega
      have i0 : (0 : Int) ≤ (i : Int) := by omega
      obtain ⟨rw_, hrw⟩ : ∃ r : List (Nat × Nat), r = rs.getD i [] := ⟨_, rfl⟩
      by_cases hall : ((rs.getD i []).all fun e => ofB l (e.1 : Int) (e.2 : Int)) = true
      · rw [hall] at HA
        have HP2 := hidT (show ∀ k, k < i + 1 → ((rs.getD k []).all fun e => ofB l (e.1 : Int) (e.2 : Int)) = true from fun k hk => by
          by_cases e : k < i
          · exact HP.out k e
          · rw [show k = i by omega]; exact hall)
        have HO := hidT hall
        clear hall HP
        go_wp2_with (go_at_call 18; refine (HA.out _ BW.out).mono ?_; rintro e w5 ⟨rfl, hb5⟩; have K5 := hidT (HK.out.below hb5); clear hb5 HK BW HA db)
        go_loopw [43] (fun u wr2 => ∃ j : Nat, j ≤ N ∧ u = .int .i64 j ∧ Hid (Tn W2 wr2 N (mxh n rs ys i j))) (fun u _ => N - (intOf u).toNat)
        case atStart => exact ⟨0, Nat.zero_le _, rfl, K5⟩
        case round =>
          obtain ⟨j, hj, rfl, HK⟩ := hrel
          clear K5
          by_cases hjl : j < N
          · obtain ⟨b2, o2, rfl, hb2, d1, d0⟩ := HQ.out.2.2.cells j (by have := HQ.out.1; omega)
            have BW := hidT (D.out.trans (HK.out.d.mono D.out.size))
            have e1 := keepc BW.out d1
            have e0 := keepc BW.out d0
            obtain ⟨b3, o3, ha3, hb3, g1, g0⟩ := HY.out.2.2.1.cells i (by have := HY.out.2.2.2; omega)
            have HC := hidT (fun w (hw : Below W2.heap.size W2 w) => show w.cell? ⟨b3, o3 + i * 2, none⟩ = some (.int .u64 ((el ys i).1 : Int)) ∧ w.cell? ⟨b3, o3 + i * 2 + 1, none⟩ = some (.int .u64 ((el ys i).2 : Int)) from ⟨keepc (D.out.trans (hw.mono D.out.size)) g1, keepc (D.out.trans (hw.mono D.out.size)) g0⟩)
            subst ha3
            have hx := And.intro (ltE_el HQ.out.2.1 j) (el_of HO.out (i := j) (by have := HQ.out.1; omega))
            have hyy := And.intro (ltE_el HY.out.1 i) (el_of HY.out.2.1 (i := i) (by have := HY.out.2.2.2; omega))
            have MU := hidT (mul_ofs hyy.2 hx.2 hyy.1 hx.1)
            have hu : lt2 (mxh n rs ys i j j) := dots_lt _ _ _
            have AD := hidT (show Ret 19 #[.agg #[.int .u64 ((mxh n rs ys i j j).1 : Int), .int .u64 ((mxh n rs ys i j j).2 : Int)], .agg #[.int .u64 ((pm (el ys i) (el (rs.getD i []) j)).1 : Int), .int .u64 ((pm (el ys i) (el (rs.getD i []) j)).2 : Int)]] (.agg #[.int .u64 ((xa (mxh n rs ys i j j) (pm (el ys i) (el (rs.getD i []) j))).1 : Int), .int .u64 ((xa (mxh n rs ys i j j) (pm (el ys i) (el (rs.getD i []) j))).2 : Int)]) from fun w => add_any _ _ _ _ hu.1 hu.2 (lt_pm _ _).1 (lt_pm _ _).2 w)
            have HZ := hidT (fun c => mxh_put n rs ys i j hlt c)
            obtain ⟨z, hz⟩ : ∃ z, z = xa (mxh n rs ys i j j) (pm (el ys i) (el (rs.getD i []) j)) := ⟨_, rfl⟩
            rw [← hz] at AD HZ
            clear hz hx hyy hu g1 g0 hb3 d1 d0 HO
            change wr.cell? ⟨b2, o2 + j * 2, none⟩ = some (.int .u64 ((el (rs.getD i []) j).1 : Int)) at e1
            change wr.cell? ⟨b2, o2 + j * 2 + 1, none⟩ = some (.int .u64 ((el (rs.getD i []) j).2 : Int)) at e0
            obtain ⟨m1, hm1⟩ : ∃ m, m = pm (el ys i) (el (rs.getD i []) j) := ⟨_, rfl⟩
            rw [← hm1] at MU AD
            obtain ⟨x, hx⟩ : ∃ x, x = el (rs.getD i []) j := ⟨_, rfl⟩
            rw [← hx] at MU e1 e0
            obtain ⟨y, hy⟩ : ∃ y, y = el ys i := ⟨_, rfl⟩
            rw [← hy] at MU HC
            obtain ⟨u, hu⟩ : ∃ u, mxh n rs ys i j j = u := ⟨_, rfl⟩
            rw [hu] at AD
            have HT := hidT hu
            clear hm1 hx hy hu
            have j1 : (j : Int) < (N : Int) := by omega
            have j0 : (0 : Int) ≤ (j : Int) := by omega
            go_wp2_with fail
            obtain ⟨K, hK⟩ : ∃ K : Mw W2 (wr.alloc (Obj.cells #[.int .u64 (x.1 : Int), .int .u64 (x.2 : Int)] 44)) N (mxh n rs ys i j) wr.heap.size x, True := ⟨⟨HK.out.below ((Below.refl _ _).alloc (Nat.le_refl _) _), El.newR wr x _, by have := HK.out.row.lt; omega⟩, trivial⟩
            clear hK HK e1 e0 BW
            generalize (wr.alloc (Obj.cells #[.int .u64 (x.1 : Int), .int .u64 (x.2 : Int)] 44)) = wa at *
            generalize wr.heap.size = q at *
            refine wp_region_noPanic ?_
            refine wp_region_peel (S := fun w => w.cell? ⟨W2.heap.size, j * 2, none⟩ = some (.int .u64 (u.1 : Int)) ∧ w.cell? ⟨W2.heap.size, j * 2 + 1, none⟩ = some (.int .u64 (u.2 : Int)) ∧ w.cell? ⟨q, 0, none⟩ = some (.int .u64 (x.1 : Int)) ∧ w.cell? ⟨q, 1, none⟩ = some (.int .u64 (x.2 : Int)) ∧ w.cell? ⟨b3, o3 + i * 2, none⟩ = some (.int .u64 (y.1 : Int)) ∧ w.cell? ⟨b3, o3 + i * 2 + 1, none⟩ = some (.int .u64 (y.2 : Int))) 15 (by kernel_rfl) rfl (by kernel_rfl) ?_ (fun hHeld => ?_)
            · exact by have f := K.t.facts j hjl; rw [HT.out] at f; exact ⟨f.1, f.2.1, K.x.hi, K.x.lo, HC.out _ (by first | exact K.t.d | exact K.drew.t.d)⟩
            refine wpAnyH_take (i := 0) (oi := _) (v := ?_) rfl (by kernel_rfl) (by kernel_rfl) (by kernel_rfl) (fun _ _ _ h => h) (Or.inl ⟨by rfl, ?_⟩) (by assumption) ?_
            rotate_left
            · ((intro w hSw; (try dsimp only at hSw); go_simp) <;> (try with_reducible rfl))
            show wpAnyH _ _ _ _ _ _ _ (Act.put _ (some 48) _) _
            simp only [Act.put, List.setIfInBounds_toArray, List.set_cons_succ, List.set_cons_zero]
            refine wpAnyH_take (i := 1) (oi := _) (v := ?_) rfl (by kernel_rfl) (by kernel_rfl) (by kernel_rfl) (fun _ _ _ h => h) (Or.inl ⟨by rfl, ?_⟩) (by assumption) ?_
            rotate_left
            · ((intro w hSw; (try dsimp only at hSw); go_simp) <;> (try with_reducible rfl))
            show wpAnyH _ _ _ _ _ _ _ (Act.put _ (some 49) _) _
            simp only [Act.put, List.setIfInBounds_toArray, List.set_cons_succ, List.set_cons_zero]
            refine wpAnyH_take (i := 2) (oi := _) (v := ?_) rfl (by kernel_rfl) (by kernel_rfl) (by kernel_rfl) (fun _ _ _ h => h) (Or.inl ⟨by rfl, ?_⟩) (by assumption) ?_
            rotate_left
            · ((intro w hSw; (try dsimp only at hSw); go_simp) <;> (try with_reducible rfl))
            show wpAnyH _ _ _ _ _ _ _ (Act.put _ (some 50) _) _
            simp only [Act.put, List.setIfInBounds_toArray, List.set_cons_succ, List.set_cons_zero]
            refine wpAnyH_take (i := 3) (oi := _) (v := ?_) rfl (by kernel_rfl) (by kernel_rfl) (by kernel_rfl) (fun _ _ _ h => h) (Or.inl ⟨by rfl, ?_⟩) (by assumption) ?_
            rotate_left
            · ((intro w hSw; (try dsimp only at hSw); go_simp) <;> (try with_reducible rfl))
            show wpAnyH _ _ _ _ _ _ _ (Act.put _ (some 51) _) _
            simp only [Act.put, List.setIfInBounds_toArray, List.set_cons_succ, List.set_cons_zero]
            refine wpAnyH_take (i := 4) (oi := _) (v := ?_) rfl (by kernel_rfl) (by kernel_rfl) (by kernel_rfl) (fun _ _ _ h => h) (Or.inl ⟨by rfl, ?_⟩) (by assumption) ?_
            rotate_left
            · ((intro w hSw; (try dsimp only at hSw); go_simp) <;> (try with_reducible rfl))
            show wpAnyH _ _ _ _ _ _ _ (Act.put _ (some 52) _) _
            simp only [Act.put, List.setIfInBounds_toArray, List.set_cons_succ, List.set_cons_zero]
            refine wpAnyH_take (i := 5) (oi := _) (v := ?_) rfl (by kernel_rfl) (by kernel_rfl) (by kernel_rfl) (fun _ _ _ h => h) (Or.inl ⟨by rfl, ?_⟩) (by assumption) ?_
            rotate_left
            · ((intro w hSw; (try dsimp only at hSw); go_simp) <;> (try with_reducible rfl))
            show wpAnyH _ _ _ _ _ _ _ (Act.put _ (some 53) _) _
            simp only [Act.put, List.setIfInBounds_toArray, List.set_cons_succ, List.set_cons_zero]
            refine wpAnyH_take (i := 6) (oi := _) (v := ?_) rfl (by kernel_rfl) (by kernel_rfl) (by kernel_rfl) (fun _ _ _ h => h) (Or.inl ⟨by rfl, ?_⟩) (by assumption) ?_
            rotate_left
            · ((intro w hSw; (try dsimp only at hSw); go_simp) <;> (try with_reducible rfl))
            show wpAnyH _ _ _ _ _ _ _ (Act.put _ (some 54) _) _
            simp only [Act.put, List.setIfInBounds_toArray, List.set_cons_succ, List.set_cons_zero]
            refine wpAnyH_take (i := 7) (oi := _) (v := ?_) rfl (by kernel_rfl) (by kernel_rfl) (by kernel_rfl) (fun _ _ _ h => h) (Or.inl ⟨by rfl, ?_⟩) (by assumption) ?_
            rotate_left
            · ((intro w hSw; (try dsimp only at hSw); go_simp) <;> (try with_reducible rfl))
            show wpAnyH _ _ _ _ _ _ _ (Act.put _ (some 55) _) _
            simp only [Act.put, List.setIfInBounds_toArray, List.set_cons_succ, List.set_cons_zero]
            refine wpAnyH_take (i := 8) (oi := _) (v := ?_) rfl (by kernel_rfl) (by kernel_rfl) (by kernel_rfl) (fun _ _ _ h => h) (Or.inl ⟨by rfl, ?_⟩) (by assumption) ?_
            rotate_left
            · ((intro w hSw; (try dsimp only at hSw); go_simp) <;> (try with_reducible rfl))
            show wpAnyH _ _ _ _ _ _ _ (Act.put _ (some 56) _) _
            simp only [Act.put, List.setIfInBounds_toArray, List.set_cons_succ, List.set_cons_zero]
            refine wpAnyH_take (i := 9) (oi := _) (v := ?_) rfl (by kernel_rfl) (by kernel_rfl) (by kernel_rfl) (fun _ _ _ h => h) (Or.inl ⟨by rfl, ?_⟩) (by assumption) ?_
            rotate_left
            · ((intro w hSw; (try dsimp only at hSw); go_simp) <;> (try with_reducible rfl))
            show wpAnyH _ _ _ _ _ _ _ (Act.put _ (some 57) _) _
            simp only [Act.put, List.setIfInBounds_toArray, List.set_cons_succ, List.set_cons_zero]
            refine wpAnyH_take (i := 10) (oi := _) (v := ?_) rfl (by kernel_rfl) (by kernel_rfl) (by kernel_rfl) (fun _ _ _ h => h) (Or.inl ⟨by rfl, ?_⟩) (by assumption) ?_
            rotate_left
            · ((intro w hSw; (try dsimp only at hSw); go_simp) <;> (try with_reducible rfl))
            show wpAnyH _ _ _ _ _ _ _ (Act.put _ (some 58) _) _
            simp only [Act.put, List.setIfInBounds_toArray, List.set_cons_succ, List.set_cons_zero]
            refine wpAnyH_take (i := 11) (oi := _) (v := ?_) rfl (by kernel_rfl) (by kernel_rfl) (by kernel_rfl) (fun _ _ _ h => h) (Or.inl ⟨by rfl, ?_⟩) (by assumption) ?_
            rotate_left
            · ((intro w hSw; (try dsimp only at hSw); go_simp) <;> (try with_reducible rfl))
            show wpAnyH _ _ _ _ _ _ _ (Act.put _ (some 59) _) _
            simp only [Act.put, List.setIfInBounds_toArray, List.set_cons_succ, List.set_cons_zero]
            refine wpAnyH_ready (rs := [12]) (by kernel_rfl) (by simp) ?_
            refine AllReadyH.cons (o := _) rfl (fun KK hKK => ?_) AllReadyH.nil
            go_simp
            (go_at_call 20; refine (MU.out.go _).mono ?_; rintro e w' ⟨rfl, hb'⟩)
            have K'' := Mw.below (w' := w') (by first | exact K | exact K.drew) hb'
            clear K hb'
            have K := K''
            clear K''
            refine hKK.out _ _ ?_ (fun hHeld => ?_)
            · exact by have f := K.t.facts j hjl; rw [HT.out] at f; exact ⟨f.1, f.2.1, K.x.hi, K.x.lo, HC.out _ (by first | exact K.t.d | exact K.drew.t.d)⟩
            clear hKK KK
            try simp only [Act.put]
            refine wpAnyH_ready (rs := [13]) (by kernel_rfl) (by simp) ?_
            refine AllReadyH.cons (o := _) rfl (fun KK hKK => ?_) AllReadyH.nil
            go_simp
            (go_at_call 19; refine (AD.out.go _).mono ?_; rintro e w' ⟨rfl, hb'⟩)
            have K'' := Mw.below (w' := w') (by first | exact K | exact K.drew) hb'
            clear K hb'
            have K := K''
            clear K''
            refine hKK.out _ _ ?_ (fun hHeld => ?_)
            · exact by have f := K.t.facts j hjl; rw [HT.out] at f; exact ⟨f.1, f.2.1, K.x.hi, K.x.lo, HC.out _ (by first | exact K.t.d | exact K.drew.t.d)⟩
            clear hKK KK
            try simp only [Act.put]
            refine wpAnyH_take (i := 14) (oi := _) (v := ?_) rfl (by kernel_rfl) (by kernel_rfl) (by kernel_rfl) (fun _ _ _ h => h) (Or.inl ⟨by rfl, ?_⟩) (by assumption) ?_
            rotate_left
            · ((intro w hSw; (try dsimp only at hSw); go_simp) <;> (try with_reducible rfl))
            show wpAnyH _ _ _ _ _ _ _ (Act.put _ (some 62) _) _
            simp only [Act.put, List.setIfInBounds_toArray, List.set_cons_succ, List.set_cons_zero]
            refine wpAnyH_done (by kernel_rfl) ?_ _
            refine peel_last rfl (fun KK hKK => ?_)
            clear hHeld
            obtain ⟨r1, r0, f1, f0⟩ := K.t.facts j hjl
            rw [HT.out] at r1 r0
            go_simp
            refine hKK _ _ ?_
            refine NoPanic.normal ?_
            clear hKK KK
            have K2 := hidT (K.t.put j z (mxh n rs ys i (j + 1)) fun c _ => HZ.out c)
            clear K r1 r0 f1 f0
            go_wp2
            exact ⟨⟨j + 1, hjl, by simp, K2⟩, by simp [intOf]; omega⟩
          · obtain rfl : j = N := by omega
            have K6 := hidT (HK.out.like fun c hc => mxh_next n rs ys i j c hc)
            clear HK
            go_wp2
            exact ⟨⟨i + 1, hlt, by simp, K6, HP2⟩, by simp [intOf]; omega⟩
      · have hf : ((rs.getD i []).all fun e => ofB l (e.1 : Int) (e.2 : Int)) = false := by cases h : ((rs.getD i []).all fun e => ofB l (e.1 : Int) (e.2 : Int)) with | true => exact absurd h hall | false => rfl
        rw [hf] at HA
        have HNO := hidT (show ¬ ∀ k, k < n → ((rs.getD k []).all fun e => ofB l (e.1 : Int) (e.2 : Int)) = true from fun h => hall (h i hlt))
        clear hf hall
        go_wp2_with (go_at_call 18; refine (HA.out _ BW.out).mono ?_; rintro e w5 ⟨rfl, hb5⟩; have B5 := hidT (BW.out.trans (hb5.mono BW.out.size)); clear hb5 HK BW HA db)
        refine bodyPost_ret (v := .tuple #[.slice none 0 0, .int .i64 5]) (by simp [results, Try.results9, go_sem]) rfl ?_
        exact ⟨.inr ⟨HNO.out, rfl⟩, B5.out⟩
    · obtain rfl : i = n := by omega
      have HF := hidT (And.intro (HK.out.erow (mixv_len i N rs ys) fun c hc => mixv_at i N rs ys c hc) (D.out.trans (HK.out.d.mono D.out.size)))
      clear HK D HH HY HE HR
      generalize W2.heap.size = p at *
      go_wp2
      refine bodyPost_ret (v := .tuple #[.slice (some ⟨p, 0, none⟩) N N, .int .i64 0]) (by simp [results, Try.results9, go_sem]) rfl ?_
      exact ⟨.inl ⟨HP.out, _, rfl, HF.out.1⟩, HF.out.2⟩
end Go.Proofs.Ytccaobfhldfamaa
