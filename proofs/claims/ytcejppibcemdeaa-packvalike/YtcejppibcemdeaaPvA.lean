/- The contract of packv.added over the seat's translation. -/
import Derived.Test.YtcejppibcemdeaaPWvO
import Derived.Test.YtcejppibcemdeaaRgC
namespace Go.Proofs.Ytcejppibcemdeaa
open Go.RowKit
open Cb Rg
open Tw (pm)
namespace Pv

/-- Rows, added. -/
def addv (n N : Nat) (rs : List (List (Nat × Nat))) : List (Nat × Nat) := (List.range N).map fun c => xs n fun k => el (rs.getD k []) c
/-- i rows done, and j places of one more. -/
def adh (rs : List (List (Nat × Nat))) (i j c : Nat) : Nat × Nat := xs (if c < j then i + 1 else i) fun k => el (rs.getD k []) c
theorem addv_len (n N : Nat) (rs : List (List (Nat × Nat))) : (addv n N rs).length = N := by simp [addv]
theorem addv_at (n N : Nat) (rs : List (List (Nat × Nat))) (c : Nat) (hc : c < N) : el (addv n N rs) c = adh rs n 0 c := by
  unfold adh
  rw [if_neg (Nat.not_lt_zero c)]
  simp [addv, el, List.getD, hc]
theorem adh_zero (rs : List (List (Nat × Nat))) (c : Nat) : adh rs 0 0 c = (0, 0) := by
  unfold adh; rw [if_neg (Nat.not_lt_zero c)]; rfl
theorem adh_next (rs : List (List (Nat × Nat))) (i N c : Nat) (hc : c < N) : adh rs i N c = adh rs (i + 1) 0 c := by
  unfold adh; rw [if_pos hc, if_neg (Nat.not_lt_zero c)]
theorem adh_put (rs : List (List (Nat × Nat))) (i j c : Nat) : adh rs i (j + 1) c = if c = j then xa (adh rs i j j) (el (rs.getD i []) j) else adh rs i j c := by
  by_cases h : c = j
  · subst h
    rw [if_pos rfl]
    unfold adh
    rw [if_pos (by omega), if_neg (by omega)]
    rfl
  · rw [if_neg h]
    unfold adh
    by_cases h1 : c < j
    · rw [if_pos h1, if_pos (by omega)]
    · rw [if_neg h1, if_neg (by omega)]
theorem lt_xsn {f : Nat → Nat × Nat} {n : Nat} (h : ∀ i, i < n → lt2 (f i)) : lt2 (xs n f) := by
  rw [xs_congr (f := f) (g := fun k => if k < n then f k else (0, 0)) n fun i hi => by rw [if_pos hi]]
  refine lt_xs (fun i => ?_) n
  by_cases c : i < n
  · rw [if_pos c]; exact h i c
  · rw [if_neg c]; exact ⟨by decide, by decide⟩
/-- The next theorem's rows: as long as the first at least. -/
def Long (N : Nat) (n : Nat) (rs : List (List (Nat × Nat))) : Prop := ∀ i, i < n → N ≤ (rs.getD i []).length
set_option linter.unusedSimpArgs false in
set_option linter.unusedVariables false in
set_option maxHeartbeats 20000000 in
set_option maxRecDepth 100000 in
theorem added_row (a : Option Addr) (cap n N : Nat) (ls : List (Option Addr × Nat × Nat)) (rs : List (List (Nat × Nat))) (hn : ls.length = n) (n0 : 0 < n) (n1 : n ≤ 1000) (hN : (ls.getD 0 (none, 0, 0)).2.1 = N) (N1 : N ≤ 1000) (hL : Long N n rs) (W : World) (hr : Grid W a ls) (hh : Held W ls rs) :
    Calls Try.prog 40 #[.slice a n cap] W fun e w' => ∃ p, e = .returned (.slice (some ⟨p, 0, none⟩) N N) ∧ (ERow w' (some ⟨p, 0, none⟩) (addv n N rs) ∧ ∃ F, w'.rowIs p 24 (N * 2) F) ∧ W.heap.size ≤ p ∧ Below W.heap.size W w' := by
  obtain ⟨i0, hi, hz0, hz1, hz2⟩ := info_elem
  have HI := hidT (show Try.prog.info? 24 = some i0 ∧ i0.zero = some (.agg #[.int .u64 0, .int .u64 0]) ∧ i0.size = 2 ∧ i0.bytes = 16 from ⟨hi, hz0, hz1, hz2⟩)
  have HR := hidT (And.intro hr hn)
  have HH := hidT hh
  have HL := hidT hL
  obtain ⟨b, off, rfl, hb, cb⟩ := hr.cells 0 (by omega)
  rw [Nat.add_zero, hN] at cb
  generalize (ls.getD 0 (none, 0, 0)).1 = ra0 at cb
  generalize (ls.getD 0 (none, 0, 0)).2.2 = cp0 at cb
  have l1 : (0 : Int) < (n : Int) := by omega
  clear hi hz0 hz1 hz2 hr hh hN hn hb hL
  go_enter Try.func40, Try.ntmps40
  go_wp2_with (at_make; refine wpList_make_full _ rfl _ _ 26 rfl 0 24 i0 (.agg #[.int .u64 0, .int .u64 0]) 2 Try.underlying26 HI.out.1 HI.out.2.1 HI.out.2.2.1 .i64 .i64 _ _ N rfl rfl rfl rfl (by rw [HI.out.2.2.2]; omega) (by simp only [maxLen]; omega) (Nat.zero_le _) ?_; intro w3 own3 hgr3; have K0 := hidT (Tn.start own3 hgr3 (adh rs 0 0) (fun c _ => adh_zero rs c)); clear own3 hgr3)
  clear HI cb
  have HW2 := hidT (Below.refl W.heap.size W)
  go_loopw [14] (fun u wr => ∃ i : Nat, i ≤ n ∧ u = .int .i64 i ∧ Hid (Tn W wr N (adh rs i 0))) (fun u _ => n - (intOf u).toNat)
  case atStart => exact ⟨0, Nat.zero_le _, rfl, K0⟩
  case round =>
    obtain ⟨i, hi, rfl, HK⟩ := hrel
    clear K0
    by_cases hlt : i < n
    · obtain ⟨b', off', hab, hb, cb⟩ := HR.out.1.cells i (by have := HR.out.2; omega)
      injection hab with hab; injection hab with hab1 hab2
      subst hab1; subst hab2
      obtain ⟨q1, q2, q3⟩ := HH.out i (by have := HR.out.2; omega)
      have qN := HL.out i hlt
      obtain ⟨ra, hra⟩ : ∃ ra, ra = (ls.getD i (none, 0, 0)).1 := ⟨_, rfl⟩
      obtain ⟨M, hM⟩ : ∃ M, M = (rs.getD i []).length := ⟨_, rfl⟩
      rw [← hra] at q3
      have db := keepc HK.out.d cb
      rw [q1, ← hra, ← hM] at db
      rw [← hM] at qN
      clear cb hra q1
      generalize (ls.getD i (none, 0, 0)).2.2 = cp at *
      have HQ := hidT (And.intro hM (And.intro q2 q3))
      clear hM q2 q3
      have i1 : (i : Int) < (n : Int) := by omega
      have i0 : (0 : Int) ≤ (i : Int) := by omega
      go_wp2_with fail
      clear db
      go_loopw [20] (fun u wr2 => ∃ j : Nat, j ≤ N ∧ u = .int .i64 j ∧ Hid (Tn W wr2 N (adh rs i j))) (fun u _ => N - (intOf u).toNat)
      case atStart => exact ⟨0, Nat.zero_le _, rfl, HK⟩
      case round =>
        obtain ⟨j, hj, rfl, HK⟩ := hrel
        by_cases hjl : j < N
        · obtain ⟨b2, o2, rfl, hb2, d1, d0⟩ := HQ.out.2.2.cells j (by have := HQ.out.1; omega)
          have HC := hidT (fun w (hw : Below W.heap.size W w) => show w.cell? ⟨b2, o2 + j * 2, none⟩ = some (.int .u64 ((el (rs.getD i []) j).1 : Int)) ∧ w.cell? ⟨b2, o2 + j * 2 + 1, none⟩ = some (.int .u64 ((el (rs.getD i []) j).2 : Int)) from ⟨keepc hw d1, keepc hw d0⟩)
          have hx := ltE_el HQ.out.2.1 j
          have hu : lt2 (adh rs i j j) := by
            unfold adh
            rw [if_neg (Nat.lt_irrefl j)]
            exact lt_xsn fun k hk => ltE_el (HH.out k (by have := HR.out.2; omega)).2.1 j
          have AD := hidT (show Ret 56 #[.agg #[.int .u64 ((adh rs i j j).1 : Int), .int .u64 ((adh rs i j j).2 : Int)], .agg #[.int .u64 ((el (rs.getD i []) j).1 : Int), .int .u64 ((el (rs.getD i []) j).2 : Int)]] (.agg #[.int .u64 ((xa (adh rs i j j) (el (rs.getD i []) j)).1 : Int), .int .u64 ((xa (adh rs i j j) (el (rs.getD i []) j)).2 : Int)]) from fun w => add_any _ _ _ _ hu.1 hu.2 hx.1 hx.2 w)
          have HZ := hidT (fun c => adh_put rs i j c)
          obtain ⟨z, hz⟩ : ∃ z, z = xa (adh rs i j j) (el (rs.getD i []) j) := ⟨_, rfl⟩
          rw [← hz] at AD HZ
          clear hz hx d1 d0 hb2
          obtain ⟨x, hx⟩ : ∃ x, x = el (rs.getD i []) j := ⟨_, rfl⟩
          rw [← hx] at AD HC
          obtain ⟨u, hu'⟩ : ∃ u, adh rs i j j = u := ⟨_, rfl⟩
          rw [hu'] at AD
          have HT := hidT hu'
          clear hx hu' hu
          have j1 : (j : Int) < (N : Int) := by omega
          have j2 : (j : Int) < (M : Int) := by omega
          have j0 : (0 : Int) ≤ (j : Int) := by omega
          have W2e : W.heap.size = W.heap.size := rfl
          clear W2e
          go_upto_region 8 with fail
          have K := HK.out
          clear HK
          refine wp_region_noPanic ?_
          refine wp_region_peel (S := fun w => w.cell? ⟨W.heap.size, j * 2, none⟩ = some (.int .u64 (u.1 : Int)) ∧ w.cell? ⟨W.heap.size, j * 2 + 1, none⟩ = some (.int .u64 (u.2 : Int)) ∧ w.cell? ⟨b2, o2 + j * 2, none⟩ = some (.int .u64 (x.1 : Int)) ∧ w.cell? ⟨b2, o2 + j * 2 + 1, none⟩ = some (.int .u64 (x.2 : Int))) 12 (by kernel_rfl) rfl (by kernel_rfl) ?_ (fun hHeld => ?_)
          · exact by have f := K.facts j hjl; rw [HT.out] at f; exact ⟨f.1, f.2.1, HC.out _ (by first | exact K.d | exact K.drew.d)⟩
          refine wpAnyH_take (i := 0) (oi := _) (v := ?_) rfl (by kernel_rfl) (by kernel_rfl) (by kernel_rfl) (fun _ _ _ h => h) (Or.inl ⟨by rfl, ?_⟩) (by assumption) ?_
          rotate_left
          · ((intro w hSw; (try dsimp only at hSw); go_simp) <;> (try with_reducible rfl))
          show wpAnyH _ _ _ _ _ _ _ (Act.put _ (some 23) _) _
          simp only [Act.put, List.setIfInBounds_toArray, List.set_cons_succ, List.set_cons_zero]
          refine wpAnyH_take (i := 1) (oi := _) (v := ?_) rfl (by kernel_rfl) (by kernel_rfl) (by kernel_rfl) (fun _ _ _ h => h) (Or.inl ⟨by rfl, ?_⟩) (by assumption) ?_
          rotate_left
          · ((intro w hSw; (try dsimp only at hSw); go_simp) <;> (try with_reducible rfl))
          show wpAnyH _ _ _ _ _ _ _ (Act.put _ (some 24) _) _
          simp only [Act.put, List.setIfInBounds_toArray, List.set_cons_succ, List.set_cons_zero]
          refine wpAnyH_take (i := 2) (oi := _) (v := ?_) rfl (by kernel_rfl) (by kernel_rfl) (by kernel_rfl) (fun _ _ _ h => h) (Or.inl ⟨by rfl, ?_⟩) (by assumption) ?_
          rotate_left
          · ((intro w hSw; (try dsimp only at hSw); go_simp) <;> (try with_reducible rfl))
          show wpAnyH _ _ _ _ _ _ _ (Act.put _ (some 25) _) _
          simp only [Act.put, List.setIfInBounds_toArray, List.set_cons_succ, List.set_cons_zero]
          refine wpAnyH_take (i := 3) (oi := _) (v := ?_) rfl (by kernel_rfl) (by kernel_rfl) (by kernel_rfl) (fun _ _ _ h => h) (Or.inl ⟨by rfl, ?_⟩) (by assumption) ?_
          rotate_left
          · ((intro w hSw; (try dsimp only at hSw); go_simp) <;> (try with_reducible rfl))
          show wpAnyH _ _ _ _ _ _ _ (Act.put _ (some 26) _) _
          simp only [Act.put, List.setIfInBounds_toArray, List.set_cons_succ, List.set_cons_zero]
          refine wpAnyH_take (i := 4) (oi := _) (v := ?_) rfl (by kernel_rfl) (by kernel_rfl) (by kernel_rfl) (fun _ _ _ h => h) (Or.inl ⟨by rfl, ?_⟩) (by assumption) ?_
          rotate_left
          · ((intro w hSw; (try dsimp only at hSw); go_simp) <;> (try with_reducible rfl))
          show wpAnyH _ _ _ _ _ _ _ (Act.put _ (some 27) _) _
          simp only [Act.put, List.setIfInBounds_toArray, List.set_cons_succ, List.set_cons_zero]
          refine wpAnyH_take (i := 5) (oi := _) (v := ?_) rfl (by kernel_rfl) (by kernel_rfl) (by kernel_rfl) (fun _ _ _ h => h) (Or.inl ⟨by rfl, ?_⟩) (by assumption) ?_
          rotate_left
          · ((intro w hSw; (try dsimp only at hSw); go_simp) <;> (try with_reducible rfl))
          show wpAnyH _ _ _ _ _ _ _ (Act.put _ (some 28) _) _
          simp only [Act.put, List.setIfInBounds_toArray, List.set_cons_succ, List.set_cons_zero]
          refine wpAnyH_take (i := 6) (oi := _) (v := ?_) rfl (by kernel_rfl) (by kernel_rfl) (by kernel_rfl) (fun _ _ _ h => h) (Or.inl ⟨by rfl, ?_⟩) (by assumption) ?_
          rotate_left
          · ((intro w hSw; (try dsimp only at hSw); go_simp) <;> (try with_reducible rfl))
          show wpAnyH _ _ _ _ _ _ _ (Act.put _ (some 29) _) _
          simp only [Act.put, List.setIfInBounds_toArray, List.set_cons_succ, List.set_cons_zero]
          refine wpAnyH_take (i := 7) (oi := _) (v := ?_) rfl (by kernel_rfl) (by kernel_rfl) (by kernel_rfl) (fun _ _ _ h => h) (Or.inl ⟨by rfl, ?_⟩) (by assumption) ?_
          rotate_left
          · ((intro w hSw; (try dsimp only at hSw); go_simp) <;> (try with_reducible rfl))
          show wpAnyH _ _ _ _ _ _ _ (Act.put _ (some 30) _) _
          simp only [Act.put, List.setIfInBounds_toArray, List.set_cons_succ, List.set_cons_zero]
          refine wpAnyH_take (i := 8) (oi := _) (v := ?_) rfl (by kernel_rfl) (by kernel_rfl) (by kernel_rfl) (fun _ _ _ h => h) (Or.inl ⟨by rfl, ?_⟩) (by assumption) ?_
          rotate_left
          · ((intro w hSw; (try dsimp only at hSw); go_simp) <;> (try with_reducible rfl))
          show wpAnyH _ _ _ _ _ _ _ (Act.put _ (some 31) _) _
          simp only [Act.put, List.setIfInBounds_toArray, List.set_cons_succ, List.set_cons_zero]
          refine wpAnyH_take (i := 9) (oi := _) (v := ?_) rfl (by kernel_rfl) (by kernel_rfl) (by kernel_rfl) (fun _ _ _ h => h) (Or.inl ⟨by rfl, ?_⟩) (by assumption) ?_
          rotate_left
          · ((intro w hSw; (try dsimp only at hSw); go_simp) <;> (try with_reducible rfl))
          show wpAnyH _ _ _ _ _ _ _ (Act.put _ (some 32) _) _
          simp only [Act.put, List.setIfInBounds_toArray, List.set_cons_succ, List.set_cons_zero]
          refine wpAnyH_ready (rs := [10]) (by kernel_rfl) (by simp) ?_
          refine AllReadyH.cons (o := _) rfl (fun KK hKK => ?_) AllReadyH.nil
          go_simp
          (go_at_call 56; refine (AD.out.go _).mono ?_; rintro e w' ⟨rfl, hb'⟩)
          have K'' := Tn.below (w' := w') (by first | exact K | exact K.drew) hb'
          clear K hb'
          have K := K''
          clear K''
          refine hKK.out _ _ ?_ (fun hHeld => ?_)
          · exact by have f := K.facts j hjl; rw [HT.out] at f; exact ⟨f.1, f.2.1, HC.out _ (by first | exact K.d | exact K.drew.d)⟩
          clear hKK KK
          try simp only [Act.put]
          refine wpAnyH_take (i := 11) (oi := _) (v := ?_) rfl (by kernel_rfl) (by kernel_rfl) (by kernel_rfl) (fun _ _ _ h => h) (Or.inl ⟨by rfl, ?_⟩) (by assumption) ?_
          rotate_left
          · ((intro w hSw; (try dsimp only at hSw); go_simp) <;> (try with_reducible rfl))
          show wpAnyH _ _ _ _ _ _ _ (Act.put _ (some 34) _) _
          simp only [Act.put, List.setIfInBounds_toArray, List.set_cons_succ, List.set_cons_zero]
          refine wpAnyH_done (by kernel_rfl) ?_ _
          refine peel_last rfl (fun KK hKK => ?_)
          clear hHeld
          obtain ⟨r1, r0, f1, f0⟩ := K.facts j hjl
          rw [HT.out] at r1 r0
          go_simp
          refine hKK _ _ ?_
          refine NoPanic.normal ?_
          clear hKK KK
          have K2 := hidT (K.put j z (adh rs i (j + 1)) fun c _ => HZ.out c)
          clear K r1 r0 f1 f0
          go_wp2
          exact ⟨⟨j + 1, hjl, by simp, K2⟩, by simp [intOf]; omega⟩
        · obtain rfl : j = N := by omega
          have K6 := hidT (HK.out.like fun c hc => adh_next rs i j c hc)
          clear HK
          go_wp2
          exact ⟨⟨i + 1, hlt, by simp, K6⟩, by simp [intOf]; omega⟩
    · obtain rfl : i = n := by omega
      have HF := hidT (And.intro (HK.out.erow (addv_len i N rs) fun c hc => addv_at i N rs c hc) HK.out.d)
      have HF2 : Hid (∃ F, wr.rowIs W.heap.size 24 (N * 2) F) := ⟨_, HK.out.row⟩
      clear HK HH HR HL
      go_wp2
      go_ret
      exact ⟨_, rfl, ⟨HF.out.1, HF2.out⟩, Nat.le_refl _, HF.out.2⟩
theorem added_any (a : Option Addr) (cap n N : Nat) (ls : List (Option Addr × Nat × Nat)) (rs : List (List (Nat × Nat))) (hn : ls.length = n) (n0 : 0 < n) (n1 : n ≤ 1000) (hN : (ls.getD 0 (none, 0, 0)).2.1 = N) (N1 : N ≤ 1000) (hL : Long N n rs) (W : World) (hr : Grid W a ls) (hh : Held W ls rs) :
    Calls Try.prog 40 #[.slice a n cap] W fun e w' => ∃ p, e = .returned (.slice (some ⟨p, 0, none⟩) N N) ∧ ERow w' (some ⟨p, 0, none⟩) (addv n N rs) ∧ W.heap.size ≤ p ∧ Below W.heap.size W w' := (added_row a cap n N ls rs hn n0 n1 hN N1 hL W hr hh).mono fun _ _ ⟨p, h1, h2, h3, h4⟩ => ⟨p, h1, h2.1, h3, h4⟩
end Pv
end Go.Proofs.Ytcejppibcemdeaa
