/- The contract of packv.hindrance over the seat's translation. -/
import Derived.Test.YtcejppibcemdeaaPvH
namespace Go.Proofs.Ytcejppibcemdeaa
open Go.RowKit
open Cb Rg
open Tw (pm)
namespace Pv

/-- Are rows of so many elements? -/
def szB (N : Nat) (rs : List (List (Nat × Nat))) : Bool := rs.all fun r => decide (r.length = N)
/-- Are all elements of all rows of a level? -/
def alB (k : Nat) (rs : List (List (Nat × Nat))) : Bool := rs.all fun r => r.all fun e => ofB (k : Int) (e.1 : Int) (e.2 : Int)
/-- What hinders rows from being tensors of a level, or a list of elements beside them. -/
def hdv (k N : Nat) (rs : List (List (Nat × Nat))) (bs : List (Nat × Nat)) : Int := if szB N rs = true then (if alB k (rs ++ [bs]) = true then 0 else 5) else 6
def sls (ls : List (Option Addr × Nat × Nat)) : List Value := ls.map fun r => .slice r.1 r.2.1 r.2.2
theorem info_ten : ∃ i, Try.prog.info? 26 = some i ∧ i.zero = some (.slice none 0 0) ∧ i.size = 1 ∧ i.bytes = 24 := by
  have h : (Try.prog.info? 26).map (fun i => (i.zero, i.size, i.bytes)) = some (some (.slice none 0 0), 1, 24) := by kernel_rfl
  obtain ⟨i, hi, he⟩ := Option.map_eq_some_iff.1 h
  simp only [Prod.mk.injEq] at he
  exact ⟨i, hi, he.1, he.2.1, he.2.2⟩
theorem phind_lev (l : Int) (hl : ¬ (0 ≤ l ∧ l ≤ 7)) (a b : Option Addr) (n c n2 c2 : Nat) : Ret 39 #[.int .i64 l, .slice a n c, .slice b n2 c2] (.int .i64 1) := by
  intro W
  have HL := hidT (plev_no l hl)
  go_enter Try.func39, Try.ntmps39
  go_wp2_with (go_at_call 49; refine (HL.out.go _).mono ?_; rintro e w1 ⟨rfl, hb1⟩)
  go_ret
  exact ⟨rfl, hb1⟩
theorem all_at {α : Type} {p : α → Bool} {l : List α} (z : α) (h : ∀ i, i < l.length → p (l.getD i z) = true) : l.all p = true := by
  rw [List.all_eq_true]
  intro x hx
  obtain ⟨i, hi, rfl⟩ := List.mem_iff_getElem.1 hx
  have := h i hi
  simpa [List.getD, hi] using this
theorem all_not {α : Type} {p : α → Bool} {l : List α} (z : α) {i : Nat} (hi : i < l.length) (h : p (l.getD i z) = false) : l.all p = false := by
  rw [List.all_eq_false]
  refine ⟨l[i], List.getElem_mem hi, ?_⟩
  have e : l.getD i z = l[i] := by simp [List.getD, hi]
  rw [e] at h
  rw [h]
  decide
set_option linter.unusedSimpArgs false in
set_option linter.unusedVariables false in
set_option maxHeartbeats 8000000 in
set_option maxRecDepth 100000 in
theorem phind_any (k : Nat) (hk : k < 8) (N : Nat) (hN : N = 2 ^ k) (b0 : Option Addr) (cb : Nat) (bs : List (Nat × Nat)) (g n : Nat) (ls : List (Option Addr × Nat × Nat)) (rs : List (List (Nat × Nat))) (hl : ls.length = n) (hr : rs.length = n) (hn : n ≤ 100)
    (R W : World) (hD : Below R.heap.size R W) (hb : ERow R b0 bs) (lb : ltE bs) (h1 : bs.length ≤ 100000) (h2 : ∀ r ∈ rs, r.length ≤ 100000) (hh : Held R ls rs) (own : W.ownsRow R.heap.size 26 1 (.slice (some ⟨g, 0, none⟩) n n) n (sls ls)) :
    Calls Try.prog 39 #[.int .i64 (k : Int), .slice b0 bs.length cb, .slice (some ⟨g, 0, none⟩) n n] W fun e w' => e = .returned (.int .i64 (hdv k N rs bs)) ∧ Below R.heap.size R w' := by
  have HL := hidT (plev_yes (k : Int) (by omega))
  have k0 : ¬ (k : Int) < 0 := by omega
  have k1 : (0 : Int) ≤ (k : Int) := by omega
  have k2 : (k : Int) < 64 := by omega
  have hsh : wrap64 ((2 : Int) ^ k) = (N : Int) := by
    rw [hN]
    have : ∀ k, k < 8 → wrap64 ((2 : Int) ^ k) = ((2 ^ k : Nat) : Int) := by decide +kernel
    exact this k hk
  have HB := hidT (And.intro hb (And.intro lb h1))
  have HH := hidT (And.intro hh (And.intro hl (And.intro hr h2)))
  have HO := hidT (And.intro own hD)
  obtain ⟨i0, hi, hz0, hz1, hz2⟩ := info_ten
  have HI := hidT (show Try.prog.info? 26 = some i0 ∧ i0.zero = some (.slice none 0 0) ∧ i0.size = 1 ∧ i0.bytes = 24 from ⟨hi, hz0, hz1, hz2⟩)
  have HS : ∀ i, i < n → (sls ls)[i]? = some (.slice (ls.getD i (none, 0, 0)).1 (ls.getD i (none, 0, 0)).2.1 (ls.getD i (none, 0, 0)).2.2) := fun i hi => by
    have hi2 : i < ls.length := by omega
    simp [sls, List.getD, hi2]
  have HS := hidT HS
  obtain ⟨m, hm⟩ : ∃ m, m = bs.length := ⟨_, rfl⟩
  rw [← hm]
  have HM := hidT hm
  clear hi hz0 hz1 hz2 hN hb lb h1 hh hl hr h2 own hD hm
  go_enter Try.func39, Try.ntmps39
  go_wp2_with (go_at_call 49; refine (HL.out.go _).mono ?_; rintro e w1 ⟨rfl, hb1⟩; have K1 := hidT (And.intro (own_below HO.out.1 hb1) (HO.out.2.trans (hb1.mono HO.out.2.size))); clear hb1 HO)
  go_loopw [16] (fun u wr => ∃ i : Nat, i ≤ n ∧ u = .int .i64 i ∧ Hid (∀ j, j < i → (rs.getD j []).length = N) ∧ Hid (wr.ownsRow R.heap.size 26 1 (.slice (some ⟨g, 0, none⟩) n n) n (sls ls) ∧ Below R.heap.size R wr)) (fun u _ => n - (intOf u).toNat)
  case atStart => exact ⟨0, Nat.zero_le _, rfl, (fun j hj => by omega), K1⟩
  case round =>
    obtain ⟨i, hi, rfl, HA, HK⟩ := hrel
    clear K1
    by_cases hlt : i < n
    · have i1 : (i : Int) < (n : Int) := by omega
      have i0' : (0 : Int) ≤ (i : Int) := by omega
      have cell := HK.out.1.cellAt i (by omega)
      rw [HS.out i hlt, (HH.out.1 i (by rw [HH.out.2.1]; exact hlt)).1] at cell
      generalize (ls.getD i (none, 0, 0)).1 = ra at cell
      generalize (ls.getD i (none, 0, 0)).2.2 = cp at cell
      have hri : i < rs.length := by rw [HH.out.2.2.1]; exact hlt
      obtain ⟨L, hL⟩ : ∃ L, L = (rs.getD i []).length := ⟨_, rfl⟩
      rw [← hL] at cell
      have HLL := hidT hL
      clear hL
      by_cases hLN : L = N
      · have x1 : (L : Int) = (N : Int) := by omega
        go_wp2
        refine ⟨⟨i + 1, hlt, by simp, fun j hj => ?_, HK⟩, by simp [intOf]; omega⟩
        by_cases e : j = i
        · rw [e, ← HLL.out]; exact hLN
        · exact HA.out j (by omega)
      · have x1 : ¬ (L : Int) = (N : Int) := by omega
        have HV : Hid (hdv k N rs bs = 6) := by
          show _ = _
          unfold hdv szB
          rw [all_not [] hri (by rw [← HLL.out]; exact decide_eq_false hLN)]
          rfl
        go_wp2
        go_ret
        exact ⟨by rw [HV.out]; rfl, HK.out.2⟩
    · obtain rfl : i = n := by omega
      have HZ : Hid (szB N rs = true) := all_at [] fun j hj => decide_eq_true (HA.out j (by rw [← HH.out.2.2.1]; exact hj))
      clear HA
      have HAP : Hid (hdv k N rs bs = if alB k (rs ++ [bs]) = true then 0 else 5) := by show _ = _; unfold hdv; rw [if_pos HZ.out]
      go_upto_region 10 with (at_builtin; refine wpList_append_lies _ rfl _ _ 83 rfl R.heap.size 26 i0 (.slice none 0 0) 1 24 Try.underlying83 HI.out.1 HI.out.2.1 HI.out.2.2.1 HI.out.2.2.2 rfl (by decide) (.slice (some ⟨g, 0, none⟩) i i) i (sls ls) rfl (own_below HK.out.1 ((Below.refl wr.heap.size wr).alloc (Nat.le_refl _) _)) ⟨wr.heap.size, 0, none⟩ 1 1 [.slice b0 m cb] rfl rfl (World.news_of_block (cs := #[.slice b0 m cb]) (heap_alloc_new wr _)) (by simp [Value.oneCell']) (by decide) (by simp only [maxLen]; omega) (by omega) (by have := HK.out.2.size; simp; omega) (wr.heap.size + 1) (by simp) ?_; intro gg cp w5 hown5 hgr5 hat5 hlt5; have K5 := hidT (show w5.ownsRow R.heap.size 26 1 (.slice (some ⟨gg, 0, none⟩) (i + 1) cp) (i + 1) (sls ls ++ [.slice b0 m cb]) ∧ Below R.heap.size R w5 from ⟨hown5, (HK.out.2.alloc HK.out.2.size _).grown hgr5 (by have := HK.out.2.size; simp; omega) (fun q hq => (HK.out.1.lt q hq).1)⟩); clear hown5 hgr5 hat5 hlt5)
      clear HK
      have RO : Hid (∀ j, j < i + 1 → ∃ (ra : Option Addr) (cp : Nat), (sls ls ++ [.slice b0 m cb])[j]? = some (.slice ra ((rs ++ [bs]).getD j []).length cp) ∧ ltE ((rs ++ [bs]).getD j []) ∧ ERow R ra ((rs ++ [bs]).getD j []) ∧ ((rs ++ [bs]).getD j []).length ≤ 100000) := fun j hj => by
        have hll : (sls ls).length = i := by simp [sls, HH.out.2.1]
        by_cases e : j < i
        · have hj2 : j < rs.length := by rw [HH.out.2.2.1]; exact e
          have e1 : (rs ++ [bs]).getD j [] = rs.getD j [] := by simp [List.getD, List.getElem?_append_left hj2]
          have e2 := HH.out.1 j (by rw [HH.out.2.1]; exact e)
          rw [e1]
          refine ⟨(ls.getD j (none, 0, 0)).1, (ls.getD j (none, 0, 0)).2.2, ?_, e2.2.1, e2.2.2, HH.out.2.2.2 _ (by simp [List.getD, hj2])⟩
          rw [List.getElem?_append_left (by omega), HS.out j e, e2.1]
        · obtain rfl : j = i := by omega
          have e1 : (rs ++ [bs]).getD j [] = bs := by
            have : rs.length = j := HH.out.2.2.1
            simp [List.getD, this]
          rw [e1]
          refine ⟨b0, cb, ?_, HB.out.2.1, HB.out.1, HB.out.2.2⟩
          rw [List.getElem?_append_right (by omega), hll, Nat.sub_self, ← HM.out]
          rfl
      have HRL : Hid ((rs ++ [bs]).length = i + 1) := by show _ = _; rw [List.length_append, HH.out.2.2.1]; rfl
      clear HB HH HS HZ HM
      generalize rs ++ [bs] = qs at *
      generalize sls ls ++ [.slice b0 m cb] = vs at *
      go_loopw [31] (fun u wr => ∃ j : Nat, j ≤ i + 1 ∧ u = .int .i64 j ∧ Hid (∀ p, p < j → ((qs.getD p []).all fun e => ofB (k : Int) (e.1 : Int) (e.2 : Int)) = true) ∧ Hid (wr.ownsRow R.heap.size 26 1 (.slice (some ⟨gg, 0, none⟩) (i + 1) cp) (i + 1) vs ∧ Below R.heap.size R wr)) (fun u _ => (i + 1) - (intOf u).toNat)
      case atStart => exact ⟨0, Nat.zero_le _, rfl, (fun j hj => by omega), K5⟩
      case round =>
        obtain ⟨j, hj, rfl, HA, HK⟩ := hrel
        clear K5
        by_cases hjl : j < i + 1
        · have j1 : (j : Int) < (i : Int) + 1 := by omega
          have j0 : (0 : Int) ≤ (j : Int) := by omega
          have cell := HK.out.1.cellAt j (by omega)
          obtain ⟨ra, cp2, e1, e2, e3, e4⟩ := RO.out j hjl
          rw [e1] at cell
          have PA := hidT (fun w (hw : Below R.heap.size R w) => pall_any (k : Int) ra cp2 (qs.getD j []) e2 w (e3.below hw) e4)
          have hjq : j < qs.length := by rw [HRL.out]; exact hjl
          obtain ⟨B, hB⟩ : ∃ B, B = ((qs.getD j []).all fun e => ofB (k : Int) (e.1 : Int) (e.2 : Int)) := ⟨_, rfl⟩
          rw [← hB] at PA
          have HBB := hidT hB
          clear hB e1 e2 e3 e4
          generalize (qs.getD j []).length = L at *
          cases B with
          | true =>
            go_wp2_with (go_at_call 50; refine (PA.out _ HK.out.2).mono ?_; rintro e w6 ⟨rfl, hb6⟩; have K6 := hidT (And.intro (own_below HK.out.1 hb6) (HK.out.2.trans (hb6.mono HK.out.2.size))); clear hb6 HK)
            refine ⟨⟨j + 1, hjl, by simp, fun p hp => ?_, K6⟩, by simp [intOf]; omega⟩
            by_cases e : p = j
            · rw [e]; exact HBB.out.symm
            · exact HA.out p (by omega)
          | false =>
            have HV : Hid (alB k qs = false) := all_not [] hjq HBB.out.symm
            go_wp2_with (go_at_call 50; refine (PA.out _ HK.out.2).mono ?_; rintro e w6 ⟨rfl, hb6⟩; have K6 := hidT (HK.out.2.trans (hb6.mono HK.out.2.size)); clear hb6 HK)
            go_ret
            exact ⟨by rw [HAP.out, HV.out]; rfl, K6.out⟩
        · obtain rfl : j = i + 1 := by omega
          have HV : Hid (alB k qs = true) := all_at [] fun p hp => HA.out p (by rw [← HRL.out]; exact hp)
          go_wp2
          go_ret
          exact ⟨by rw [HAP.out, HV.out]; rfl, HK.out.2⟩
end Pv
end Go.Proofs.Ytcejppibcemdeaa
