/- The contract of steeplelaw01.Same over the seat's translation: the same elements. -/
import Derived.Test.YtkllihomdlibgaaPSlA
import Derived.Test.YtkllihomdlibgaaSqH
import Derived.Deep.AppendLies
namespace Go.Proofs.Ytkllihomdlibgaa
open Go.RowKit

set_option maxHeartbeats 1000000 in
theorem same_rows (a1 a2 : Option Addr) (cap1 cap2 : Nat) (es : List (Nat × Nat)) (hn : es.length ≤ 100000) (W : World) (h1 : ERow W a1 es) (h2 : ERow W a2 es) :
    Calls Try.prog 12 #[.slice a1 es.length cap1, .slice a2 es.length cap2] W fun e w' => e = .returned (.bool true) ∧ Below W.heap.size W w' := by
  have H1 : Hid (ERow W a1 es) := h1
  have H2 : Hid (ERow W a2 es) := h2
  clear h1 h2
  go_enter Try.func12, Try.ntmps12
  go_wp2_with fail
  go_loopw [5] (fun u wr => ∃ j : Nat, j ≤ es.length ∧ u = .int .i64 j ∧ Below W.heap.size W wr) (fun u _ => es.length - (intOf u).toNat)
  case atStart => exact ⟨0, Nat.zero_le _, rfl, Below.refl _ _⟩
  case round =>
    obtain ⟨j, hj, rfl, hD⟩ := hrel
    have HD : Hid (Below W.heap.size W wr) := hD
    by_cases hlt : j < es.length
    · obtain ⟨b, off, rfl, hb, c1, c0⟩ := H1.out.cells j hlt
      obtain ⟨b', off', rfl, hb', c1', c0'⟩ := H2.out.cells j hlt
      have d1 := keepc hD c1
      have d0 := keepc hD c0
      have d1' := keepc hD c1'
      have d0' := keepc hD c0'
      clear c1 c0 c1' c0' hD
      generalize es.getD j (0, 0) = x at *
      go_wp2_with fail
      go_region_held3 (fun w => w.cell? ⟨b, off + j * 2, none⟩ = some (.int .u64 (x.1 : Nat)) ∧ w.cell? ⟨b, off + j * 2 + 1, none⟩ = some (.int .u64 (x.2 : Nat)) ∧ w.cell? ⟨b', off' + j * 2, none⟩ = some (.int .u64 (x.1 : Nat)) ∧ w.cell? ⟨b', off' + j * 2 + 1, none⟩ = some (.int .u64 (x.2 : Nat))) (go_keep) (fail)
      go_wp2
      exact ⟨⟨j + 1, hlt, by simp, HD.out.drew⟩, by simp [intOf]; omega⟩
    · obtain rfl : j = es.length := by omega
      clear hD
      go_wp2
      go_ret
      exact ⟨rfl, HD.out⟩
end Go.Proofs.Ytkllihomdlibgaa

/- The contracts of slices.Equal, span's Same, and the document's Lead, in and clear, over the seat's translation. -/
namespace Go.Proofs.Ytkllihomdlibgaa
open Go.RowKit
open Cb Rg Sq

set_option maxHeartbeats 2000000 in
theorem seq_dec (a1 a2 : Option Addr) (cap1 cap2 n : Nat) (es fs : List (Nat × Nat)) (he : es.length = n) (hf : fs.length = n) (hn : n ≤ 100000) (W : World) (h1 : ERow W a1 es) (h2 : ERow W a2 fs) :
    Calls Try.prog 40 #[.slice a1 n cap1, .slice a2 n cap2] W fun e w' => e = .returned (.bool (decide (es = fs))) ∧ Below W.heap.size W w' := by
  have H1 : Hid (ERow W a1 es ∧ es.length = n) := ⟨h1, he⟩
  have H2 : Hid (ERow W a2 fs ∧ fs.length = n) := ⟨h2, hf⟩
  clear h1 h2 he hf
  go_enter Try.func40, Try.ntmps40
  go_wp2_with fail
  go_loopw [13] (fun u wr => ∃ j : Nat, j ≤ n ∧ u = .int .i64 j ∧ Hid (es.take j = fs.take j) ∧ Below W.heap.size W wr) (fun u _ => n - (intOf u).toNat)
  case atStart => exact ⟨0, Nat.zero_le _, rfl, (by rfl), Below.refl _ _⟩
  case round =>
    obtain ⟨j, hj, rfl, HT, hD⟩ := hrel
    have HD : Hid (Below W.heap.size W wr) := hD
    by_cases hlt : j < n
    · obtain ⟨b, off, rfl, hb, c1, c0⟩ := H1.out.1.cells j (by rw [H1.out.2]; exact hlt)
      obtain ⟨b', off', rfl, hb', c1', c0'⟩ := H2.out.1.cells j (by rw [H2.out.2]; exact hlt)
      have d1 := keepc hD c1
      have d0 := keepc hD c0
      have d1' := keepc hD c1'
      have d0' := keepc hD c0'
      have T1 : Hid (es.take (j + 1) = es.take j ++ [es.getD j (0, 0)]) := take_sn es j (by rw [H1.out.2]; exact hlt)
      have T2 : Hid (fs.take (j + 1) = fs.take j ++ [fs.getD j (0, 0)]) := take_sn fs j (by rw [H2.out.2]; exact hlt)
      have T3 : Hid (¬ es.getD j (0, 0) = fs.getD j (0, 0) → ¬ es = fs) := fun h e => h (by rw [e])
      clear c1 c0 c1' c0' hD
      generalize es.getD j (0, 0) = x at *
      generalize fs.getD j (0, 0) = y at *
      by_cases hxy : x = y
      · subst hxy
        go_wp2_with fail
        go_region_held3 (fun w => w.cell? ⟨b, off + j * 2, none⟩ = some (.int .u64 (x.1 : Nat)) ∧ w.cell? ⟨b, off + j * 2 + 1, none⟩ = some (.int .u64 (x.2 : Nat)) ∧ w.cell? ⟨b', off' + j * 2, none⟩ = some (.int .u64 (x.1 : Nat)) ∧ w.cell? ⟨b', off' + j * 2 + 1, none⟩ = some (.int .u64 (x.2 : Nat))) (go_keep) (fail)
        go_wp2
        exact ⟨⟨j + 1, hlt, by simp, (by show _ = _; rw [T1.out, T2.out, HT.out]), HD.out.drew⟩, by simp [intOf]; omega⟩
      · have HN : Hid (¬ es = fs) := T3.out hxy
        by_cases h1 : x.1 = y.1
        · have h2 : ¬ (x.2 : Int) = (y.2 : Int) := fun h => hxy (Prod.ext h1 (by omega))
          rw [← h1] at d1'
          clear h1 hxy T3
          go_wp2_with fail
          go_region_held3 (fun w => w.cell? ⟨b, off + j * 2, none⟩ = some (.int .u64 (x.1 : Nat)) ∧ w.cell? ⟨b, off + j * 2 + 1, none⟩ = some (.int .u64 (x.2 : Nat)) ∧ w.cell? ⟨b', off' + j * 2, none⟩ = some (.int .u64 (x.1 : Nat)) ∧ w.cell? ⟨b', off' + j * 2 + 1, none⟩ = some (.int .u64 (y.2 : Nat))) (go_keep) (fail)
          go_wp2
          go_ret
          exact ⟨by rw [decide_eq_false HN.out]; rfl, HD.out.drew⟩
        · have h2 : ¬ (x.1 : Int) = (y.1 : Int) := by omega
          clear h1 hxy T3
          go_wp2_with fail
          go_region_held3 (fun w => w.cell? ⟨b, off + j * 2, none⟩ = some (.int .u64 (x.1 : Nat)) ∧ w.cell? ⟨b, off + j * 2 + 1, none⟩ = some (.int .u64 (x.2 : Nat)) ∧ w.cell? ⟨b', off' + j * 2, none⟩ = some (.int .u64 (y.1 : Nat)) ∧ w.cell? ⟨b', off' + j * 2 + 1, none⟩ = some (.int .u64 (y.2 : Nat))) (go_keep) (fail)
          go_wp2
          go_ret
          exact ⟨by rw [decide_eq_false HN.out]; rfl, HD.out.drew⟩
    · obtain rfl : j = n := by omega
      have HE : Hid (es = fs) := by
        have h := HT.out
        rw [List.take_of_length_le (by rw [H1.out.2]; exact Nat.le_refl _), List.take_of_length_le (by rw [H2.out.2]; exact Nat.le_refl _)] at h
        exact h
      clear hD
      go_wp2
      go_ret
      exact ⟨by rw [decide_eq_true HE.out]; rfl, HD.out⟩
set_option maxHeartbeats 2000000 in
theorem seq_far (a1 a2 : Option Addr) (cap1 cap2 n m : Nat) (h : ¬ n = m) : Ret 40 #[.slice a1 n cap1, .slice a2 m cap2] (.bool false) := by
  intro W
  have h' : ¬ (n : Int) = (m : Int) := by omega
  go_enter Try.func40, Try.ntmps40
  go_wp2
  go_ret
  exact ⟨rfl, by first | exact Below.refl _ _ | go_grown⟩
theorem seq_any (a1 a2 : Option Addr) (cap1 cap2 : Nat) (es fs : List (Nat × Nat)) (hn : es.length ≤ 100000) (W : World) (h1 : ERow W a1 es) (h2 : ERow W a2 fs) :
    Calls Try.prog 40 #[.slice a1 es.length cap1, .slice a2 fs.length cap2] W fun e w' => e = .returned (.bool (decide (es = fs))) ∧ Below W.heap.size W w' := by
  by_cases h : es.length = fs.length
  · have := seq_dec a1 a2 cap1 cap2 es.length es fs rfl h.symm hn W h1 h2
    rwa [h] at this ⊢
  · rw [decide_eq_false (fun e => h (by rw [e]))]
    exact seq_far a1 a2 cap1 cap2 _ _ h W
set_option maxRecDepth 100000 in
set_option maxHeartbeats 2000000 in
theorem Same_any (a1 a2 : Option Addr) (cap1 cap2 : Nat) (l m : List (Nat × Nat)) (hl : ltE l) (hm : ltE m) (l128 : l.length ≤ 128) (m128 : m.length ≤ 128) (W : World) (h1 : ERow W a1 l) (h2 : ERow W a2 m) :
    Calls Try.prog 17 #[.slice a1 l.length cap1, .slice a2 m.length cap2] W fun e w' => e = .returned (.bool (decide (rb l = rb m))) ∧ Below W.heap.size W w' := by
  have H1 := hidT (Basis_any a1 cap1 l hl l128 W h1)
  have H2 : Hid (∀ w, Below W.heap.size W w → Calls Try.prog 13 #[.slice a2 m.length cap2] w fun e w' => ∃ g, e = .returned (.slice (some ⟨g, 0, none⟩) (rb m).length (rb m).length) ∧ ERow w' (some ⟨g, 0, none⟩) (rb m) ∧ w.heap.size ≤ g ∧ Below w.heap.size w w') := fun w hw => Basis_any a2 cap2 m hm m128 w (h2.below hw)
  have hk : (rb l).length ≤ 128 := by
    rw [← elm_len hl]
    have h := elm_ei hl l.length (Nat.le_refl _)
    have := h.len; have := h.le; omega
  clear h1 h2 hl hm
  generalize rb l = x at *
  generalize rb m = y at *
  go_enter Try.func17, Try.ntmps17
  go_wp2_with (first
    | (go_at_call_of 13 (#[.slice a1 l.length cap1] : Array Value); refine H1.out.mono ?_; rintro e w1 ⟨g1, rfl, r1, _, hb1⟩; have K1 := hidT (And.intro r1 hb1); clear r1 hb1 H1)
    | (go_at_call_of 13 (#[.slice a2 m.length cap2] : Array Value); refine (H2.out _ K1.out.2).mono ?_; rintro e w2 ⟨g2, rfl, r2, _, hb2⟩; have K2 := hidT (And.intro (K1.out.1.below hb2) (And.intro r2 (K1.out.2.trans (hb2.mono K1.out.2.size)))); clear r2 hb2 H2)
    | (go_at_call 40; refine (seq_any _ _ _ _ x y (by omega) _ K2.out.1 K2.out.2.1).mono ?_; rintro e w3 ⟨rfl, hb3⟩; have K3 := hidT (K2.out.2.2.trans (hb3.mono K2.out.2.2.size)); clear hb3))
  go_ret
  exact ⟨rfl, K3.out⟩
/-- The leading bit of the first i. -/
def ldi (x : Nat × Nat) : Nat → Int
  | 0 => -1
  | i + 1 => if hs x i = true then (i : Int) else ldi x i
theorem ldi_ge (x : Nat × Nat) : ∀ i, -1 ≤ ldi x i ∧ ldi x i < i
  | 0 => by simp [ldi]
  | i + 1 => by
    have := ldi_ge x i
    unfold ldi; split <;> omega
theorem ldi_hs (x : Nat × Nat) : ∀ i b, b < i → hs x b = true → (b : Int) ≤ ldi x i
  | 0, b, h, _ => by omega
  | i + 1, b, h, hb => by
    unfold ldi
    split
    · omega
    · rename_i c
      have : b ≠ i := fun e => c (e ▸ hb)
      exact ldi_hs x i b (by omega) hb
theorem ldi_is (x : Nat × Nat) : ∀ i, ldi x i = -1 ∨ ∃ b : Nat, ldi x i = (b : Int) ∧ hs x b = true
  | 0 => .inl rfl
  | i + 1 => by
    unfold ldi; split
    · rename_i c; exact .inr ⟨i, rfl, c⟩
    · exact ldi_is x i
theorem ldi_all {x : Nat × Nat} (hx : lt2 x) : ldi x 128 = (lngE x : Int) - 1 := by
  by_cases h0 : x = (0, 0)
  · rcases ldi_is x 128 with h | ⟨b, _, h⟩
    · rw [h, h0]; rfl
    · rw [h0, hs_zero] at h; cases h
  · have h1 := ldi_hs x 128 (ld x) (ld_lt hx h0) (hs_ld hx h0)
    have h2 := lng_ld hx h0
    rcases ldi_is x 128 with h | ⟨b, h, hb⟩
    · omega
    · have := le_ld hx hb; omega
set_option maxHeartbeats 2000000 in
theorem rlead04 (x : Nat × Nat) (hx : lt2 x) : Ret 18 #[.agg #[.int .u64 (x.1 : Int), .int .u64 (x.2 : Int)]] (.int .i64 ((lngE x : Int) - 1)) := by
  intro W
  rw [← ldi_all hx]
  have HH : Hid (∀ j : Nat, j < 128 → Ret 19 #[.agg #[.int .u64 (x.1 : Int), .int .u64 (x.2 : Int)], .int .i64 (j : Int)] (.bool (hs x j))) := fun j hj => has_any _ _ _ hx.1 hx.2 hj
  clear hx
  go_enter Try.func18, Try.ntmps18
  go_wp2_with fail
  go_loopw [3, 4] (fun v u wr => ∃ j : Nat, j ≤ 128 ∧ u = .int .i64 j ∧ v = .int .i64 (ldi x j) ∧ El wr W.heap.size x.1 x.2 ∧ Below W.heap.size W wr) (fun _ u _ => 128 - (intOf u).toNat)
  case atStart => exact ⟨0, Nat.zero_le _, rfl, rfl, ⟨by simp [go_sem], by simp [go_sem]⟩, by go_grown⟩
  case round =>
    obtain ⟨j, hj, rfl, rfl, hE, hD⟩ := hrel
    by_cases hlt : j < 128
    · have H1 := hidT (HH.out j hlt)
      have HK := hidT (And.intro hE hD)
      have HS : Hid (ldi x (j + 1) = if hs x j = true then (j : Int) else ldi x j) := by show _ = _; rfl
      have d1 := hE.hi
      have d0 := hE.lo
      clear hE hD HH
      generalize ldi x j = r at *
      generalize hs x j = b at *
      have j1 : (j : Int) < 128 := by omega
      cases b
      · go_wp2_with (go_at_call 19; refine (H1.out.go _).mono ?_; rintro e w4 ⟨rfl, hb4⟩; have K4 := hidT (And.intro (HK.out.1.below hb4) (HK.out.2.trans (hb4.mono HK.out.2.size))); clear hb4 d1 d0 HK)
        exact ⟨⟨j + 1, hlt, by simp, by rw [HS.out]; rfl, K4.out.1, K4.out.2⟩, by simp [intOf]; omega⟩
      · go_wp2_with (go_at_call 19; refine (H1.out.go _).mono ?_; rintro e w4 ⟨rfl, hb4⟩; have K4 := hidT (And.intro (HK.out.1.below hb4) (HK.out.2.trans (hb4.mono HK.out.2.size))); clear hb4 d1 d0 HK)
        exact ⟨⟨j + 1, hlt, by simp, by rw [HS.out]; rfl, K4.out.1, K4.out.2⟩, by simp [intOf]; omega⟩
    · obtain rfl : j = 128 := by omega
      have HD := hidT hD
      clear hE hD
      go_wp2
      go_ret
      exact ⟨rfl, HD.out⟩
/-- Numbers in memory. -/
structure IRow (w : World) (a : Option Addr) (fr : List Nat) : Prop where
  cells : ∀ i, i < fr.length → ∃ b off, a = some ⟨b, off, none⟩ ∧ b < w.heap.size ∧ w.cell? ⟨b, off + i, none⟩ = some (.int .i64 ((fr.getD i 0 : Nat) : Int))
theorem ints_at (fr : List Nat) {i : Nat} (h : i < fr.length) : (ints fr)[i]? = some (.int .i64 ((fr.getD i 0 : Nat) : Int)) := by
  simp [ints, List.getD, h]
theorem own_irow {w : World} {base : Nat} {a : Option Addr} {c : Nat} {fr : List Nat} (h : w.ownsRow base 3 1 (.slice a fr.length c) fr.length (ints fr)) : IRow w a fr := by
  rcases h.2 with ⟨h1, h0⟩ | ⟨g, cap, cur, e, _⟩
  · exact ⟨fun i hi => by omega⟩
  · have e1 : a = some ⟨g, 0, none⟩ := by injection e
    have e2 : c = cap := by injection e
    subst e1 e2
    refine ⟨fun i hi => ?_⟩
    have c0 := (own_cell h i (by omega)).1
    rw [ints_at fr hi] at c0
    exact ⟨g, 0, rfl, cell_lt c0, by rw [Nat.zero_add]; exact c0⟩
theorem IRow.below {w w' : World} {a : Option Addr} {fr : List Nat} (h : IRow w a fr) (hb : Below w.heap.size w w') : IRow w' a fr := ⟨fun i hi => by
  obtain ⟨b, off, e, hl, c⟩ := h.cells i hi
  exact ⟨b, off, e, Nat.lt_of_lt_of_le hl hb.size, keepc hb c⟩⟩
set_option maxHeartbeats 2000000 in
theorem rin04 (a : Option Addr) (cap : Nat) (fr : List Nat) (n : Nat) (hn : fr.length ≤ 1000) (W : World) (hr : IRow W a fr) :
    Calls Try.prog 35 #[.slice a fr.length cap, .int .i64 (n : Int)] W fun e w' => e = .returned (.bool (fr.contains n)) ∧ Below W.heap.size W w' := by
  have HR := hidT hr
  clear hr
  go_enter Try.func35, Try.ntmps35
  go_wp2_with fail
  go_loopw [5] (fun u wr => ∃ j : Nat, j ≤ fr.length ∧ u = .int .i64 j ∧ Hid (∀ i, i < j → fr.getD i 0 ≠ n) ∧ Below W.heap.size W wr) (fun u _ => fr.length - (intOf u).toNat)
  case atStart => exact ⟨0, Nat.zero_le _, rfl, (by show ∀ _, _; omega), Below.refl _ _⟩
  case round =>
    obtain ⟨j, hj, rfl, HN, hD⟩ := hrel
    have HD := hidT hD
    by_cases hlt : j < fr.length
    · obtain ⟨b, off, rfl, hb, c0⟩ := HR.out.cells j hlt
      have d0 := keepc hD c0
      have HC : Hid (fr.getD j 0 ∈ fr) := by
        show _ ∈ _
        rw [show fr.getD j 0 = fr[j] by simp [List.getD, hlt]]; exact List.getElem_mem hlt
      have HM : Hid (fr.getD j 0 ≠ n → ∀ i, i < j + 1 → fr.getD i 0 ≠ n) := fun h i hi => by
        by_cases e : i = j
        · rw [e]; exact h
        · exact HN.out i (by omega)
      clear c0 hD HN
      generalize fr.getD j 0 = y at *
      by_cases hy : y = n
      · subst hy
        go_wp2
        go_ret
        exact ⟨by rw [List.contains_iff_mem.2 HC.out]; rfl, HD.out⟩
      · have h1 := hidT (HM.out hy)
        have hy' : ¬ (y : Int) = (n : Int) := by omega
        clear HM hy
        go_wp2
        exact ⟨⟨j + 1, hlt, by simp, h1, HD.out⟩, by simp [intOf]; omega⟩
    · obtain rfl : j = fr.length := by omega
      have HF : Hid (fr.contains n = false) := by
        show _ = _
        rw [Bool.eq_false_iff]
        intro h
        obtain ⟨i, hi, e⟩ := List.getElem_of_mem (List.contains_iff_mem.1 h)
        exact HN.out i hi (by rw [← e]; simp [List.getD, hi])
      clear hD
      go_wp2
      go_ret
      exact ⟨by rw [HF.out]; rfl, HD.out⟩
end Go.Proofs.Ytkllihomdlibgaa

/- The contract of the document's clear over the seat's translation. -/
namespace Go.Proofs.Ytkllihomdlibgaa
open Go.RowKit
open Cb Rg Sq

theorem clr_take (rows : List (Nat × Nat)) (a bit j : Nat) (h : j < rows.length) : (clr rows a bit).take (j + 1) = (clr rows a bit).take j ++ [clr1 rows a bit j] := by
  rw [take_sn _ j (by rw [clr_len]; exact h)]
  congr 2
  exact clr_at rows a bit j
set_option maxHeartbeats 8000000 in
set_option maxRecDepth 100000 in
theorem rclear04 (a : Option Addr) (cap at' bit : Nat) (es : List (Nat × Nat)) (hes : ltE es) (hn : es.length ≤ 1000) (ha : at' < es.length) (hb : bit < 128) (W : World) (hr : ERow W a es) :
    Calls Try.prog 36 #[.slice a es.length cap, .int .i64 (at' : Int), .int .i64 (bit : Int)] W fun e w' => ∃ a' cap', e = .returned (.slice a' es.length cap') ∧ w'.ownsRow W.heap.size 30 2 (.slice a' es.length cap') es.length (flat (clr es at' bit)) ∧ Below W.heap.size W w' := by
  have HC : Hid (ERow W a es) := hr
  have HH : Hid (∀ j : Nat, Ret 19 #[.agg #[.int .u64 ((el es j).1 : Int), .int .u64 ((el es j).2 : Int)], .int .i64 (bit : Int)] (.bool (hs (el es j) bit))) := fun j => has_any _ _ _ (ltE_el hes j).1 (ltE_el hes j).2 hb
  have HA : Hid (∀ j : Nat, Ret 42 #[.agg #[.int .u64 ((el es j).1 : Int), .int .u64 ((el es j).2 : Int)], .agg #[.int .u64 ((el es at').1 : Int), .int .u64 ((el es at').2 : Int)]] (.agg #[.int .u64 ((xa (el es j) (el es at')).1 : Int), .int .u64 ((xa (el es j) (el es at')).2 : Int)])) := fun j => radd _ _ _ _ (ltE_el hes j).1 (ltE_el hes j).2 (ltE_el hes at').1 (ltE_el hes at').2
  obtain ⟨i0, hi, hz0, hz1, hz2⟩ := info_relem
  have HI : Hid (Try.prog.info? 30 = some i0 ∧ i0.zero = some (.agg #[.int .u64 0, .int .u64 0]) ∧ i0.size = 2 ∧ i0.bytes = 16) := ⟨hi, hz0, hz1, hz2⟩
  have a1 : (at' : Int) < (es.length : Int) := by omega
  clear hr hes hb hi hz0 hz1 hz2
  go_enter Try.func36, Try.ntmps36
  go_wp2_with fail
  go_loopw [7, 8] (fun v u wr => ∃ j : Nat, j ≤ es.length ∧ u = .int .i64 j ∧ wr.ownsRow W.heap.size 30 2 v j (flat ((clr es at' bit).take j)) ∧ Below W.heap.size W wr) (fun _ u _ => es.length - (intOf u).toNat)
  case atStart => exact ⟨0, Nat.zero_le _, rfl, ⟨by simp [flat], .inl ⟨rfl, rfl⟩⟩, Below.refl _ _⟩
  case round =>
    obtain ⟨j, hj, rfl, hown, hbw⟩ := hrel
    by_cases hlt : j < es.length
    · obtain ⟨b, off, rfl, hb, c1, c0⟩ := HC.out.cells j hlt
      obtain ⟨b', off', e', hb', y1', y0'⟩ := HC.out.cells at' ha
      injection e' with e'; injection e' with e1 e2; subst e1; subst e2
      have HX : Hid (W.cell? ⟨b, off + j * 2, none⟩ = some (.int .u64 ((el es j).1 : Int)) ∧ W.cell? ⟨b, off + j * 2 + 1, none⟩ = some (.int .u64 ((el es j).2 : Int)) ∧ W.cell? ⟨b, off + at' * 2, none⟩ = some (.int .u64 ((el es at').1 : Int)) ∧ W.cell? ⟨b, off + at' * 2 + 1, none⟩ = some (.int .u64 ((el es at').2 : Int))) := ⟨c1, c0, y1', y0'⟩
      have HO : Hid (wr.ownsRow W.heap.size 30 2 u7 j (flat ((clr es at' bit).take j)) ∧ Below W.heap.size W wr) := ⟨hown, hbw⟩
      have HN : Hid ((clr es at' bit).take (j + 1) = (clr es at' bit).take j ++ [clr1 es at' bit j]) := clr_take es at' bit j hlt
      have HY : Hid (clr1 es at' bit j = if j ≠ at' ∧ hs (el es j) bit = true then xa (el es j) (el es at') else el es j) := by show _ = _; rfl
      have H1 := hidT (HH.out j)
      have H2 := hidT (HA.out j)
      have x1 := keepc hbw HX.out.1
      have x0 := keepc hbw HX.out.2.1
      have j1 : (j : Int) < (es.length : Int) := by omega
      clear c1 c0 y1' y0' hown hbw HH HA HC
      generalize clr1 es at' bit j = z at *
      generalize xa (el es j) (el es at') = xz at *
      generalize hs (el es j) bit = bb at *
      generalize el es j = x at *
      generalize el es at' = y at *
      by_cases hja : j = at'
      · have hq : (j : Int) = (at' : Int) := by omega
        have HZ : Hid (z = x) := by show _ = _; rw [HY.out, if_neg (by simp [hja])]
        have hne : ((j : Int) != (at' : Int)) = false := by simp [hq]
        clear HY hja H1 H2 hq
        go_wp2_with (at_builtin; refine wpList_append_own _ rfl _ _ 27 rfl W.heap.size 30 i0 (.agg #[.int .u64 0, .int .u64 0]) 2 16 Try.underlying27 HI.out.1 HI.out.2.1 HI.out.2.2.1 HI.out.2.2.2 rfl (by decide) _ _ _ rfl (own_below HO.out.1 (by go_grown)) ⟨wr.heap.size, 0, none⟩ 1 1 [.int .u64 (x.1 : Int), .int .u64 (x.2 : Int)] rfl rfl (fun p u hu => by rcases p with _ | _ | p <;> simp at hu <;> subst hu <;> simp [go_sem]) (by intro u hu; simp at hu; rcases hu with rfl | rfl <;> rfl) (by simp only [maxLen]; omega) (by omega) (by have := HO.out.2.size; simp; omega) ?_; intro v' w' hown' hgr _)
        refine ⟨⟨j + 1, hlt, by simp, ?_, ?_⟩, by simp [intOf]; omega⟩
        · rw [HN.out, HZ.out, flat_snoc]; exact hown'
        · exact (HO.out.2.alloc HO.out.2.size _).grown hgr (by have := HO.out.2.size; simp; omega) fun k hk => (HO.out.1.lt k hk).1
      · have hq : ¬ (j : Int) = (at' : Int) := by omega
        cases bb
        · have HZ : Hid (z = x) := by show _ = _; rw [HY.out, if_neg (by simp)]
          clear HY hja H2
          go_wp2_with (first
            | (go_at_call 19; refine (H1.out.go _).mono ?_; rintro e w4 ⟨rfl, hb4⟩; have HO4 : Hid (w4.ownsRow W.heap.size 30 2 u7 j (flat ((clr es at' bit).take j)) ∧ Below W.heap.size W w4) := ⟨own_below HO.out.1 hb4, HO.out.2.trans (hb4.mono HO.out.2.size)⟩; clear HO hb4 x1 x0; have x1 := keepc HO4.out.2 HX.out.1; have x0 := keepc HO4.out.2 HX.out.2.1)
            | (at_builtin; refine wpList_append_own _ rfl _ _ 27 rfl W.heap.size 30 i0 (.agg #[.int .u64 0, .int .u64 0]) 2 16 Try.underlying27 HI.out.1 HI.out.2.1 HI.out.2.2.1 HI.out.2.2.2 rfl (by decide) _ _ _ rfl (own_below HO4.out.1 (by go_grown)) ⟨w4.heap.size, 0, none⟩ 1 1 [.int .u64 (x.1 : Int), .int .u64 (x.2 : Int)] rfl rfl (fun p u hu => by rcases p with _ | _ | p <;> simp at hu <;> subst hu <;> simp [go_sem]) (by intro u hu; simp at hu; rcases hu with rfl | rfl <;> rfl) (by simp only [maxLen]; omega) (by omega) (by have := HO4.out.2.size; simp; omega) ?_; intro v' w' hown' hgr _))
          refine ⟨⟨j + 1, hlt, by simp, ?_, ?_⟩, by simp [intOf]; omega⟩
          · rw [HN.out, HZ.out, flat_snoc]; exact hown'
          · exact (HO4.out.2.alloc HO4.out.2.size _).grown hgr (by have := HO4.out.2.size; simp; omega) fun k hk => (HO4.out.1.lt k hk).1
        · have HZ : Hid (z = xz) := by show _ = _; rw [HY.out, if_pos ⟨hja, rfl⟩]
          clear HY hja
          go_upto_region 6 with (go_at_call 19; refine (H1.out.go _).mono ?_; rintro e w4 ⟨rfl, hb4⟩; have O : Hid (w4.ownsRow W.heap.size 30 2 u7 j (flat ((clr es at' bit).take j)) ∧ Below W.heap.size W w4) := ⟨own_below HO.out.1 hb4, HO.out.2.trans (hb4.mono HO.out.2.size)⟩; clear HO hb4 x1 x0)
          have F : w4.cell? ⟨b, off + j * 2, none⟩ = some (.int .u64 (x.1 : Int)) ∧ w4.cell? ⟨b, off + j * 2 + 1, none⟩ = some (.int .u64 (x.2 : Int)) ∧ w4.cell? ⟨b, off + at' * 2, none⟩ = some (.int .u64 (y.1 : Int)) ∧ w4.cell? ⟨b, off + at' * 2 + 1, none⟩ = some (.int .u64 (y.2 : Int)) := ⟨keepc O.out.2 HX.out.1, keepc O.out.2 HX.out.2.1, keepc O.out.2 HX.out.2.2.1, keepc O.out.2 HX.out.2.2.2⟩
          have lB := O.out.2.size
          go_region_held3 (fun w => w.cell? ⟨b, off + j * 2, none⟩ = some (.int .u64 (x.1 : Int)) ∧ w.cell? ⟨b, off + j * 2 + 1, none⟩ = some (.int .u64 (x.2 : Int)) ∧ w.cell? ⟨b, off + at' * 2, none⟩ = some (.int .u64 (y.1 : Int)) ∧ w.cell? ⟨b, off + at' * 2 + 1, none⟩ = some (.int .u64 (y.2 : Int)))
            (first | (go_keep; done) | exact ⟨keepc O.out.2 HX.out.1, keepc O.out.2 HX.out.2.1, keepc O.out.2 HX.out.2.2.1, keepc O.out.2 HX.out.2.2.2⟩)
            (first
              | (go_at_call 42; refine (H2.out.go _).mono ?_; rintro e w' ⟨rfl, hb'⟩; have O' : Hid (w'.ownsRow W.heap.size 30 2 u7 j (flat ((clr es at' bit).take j)) ∧ Below W.heap.size W w') := (by first | exact ⟨own_below O.out.1 hb', O.out.2.trans (hb'.mono O.out.2.size)⟩ | exact ⟨own_below O.out.1.drew hb', O.out.2.drew.trans (hb'.mono O.out.2.size)⟩); clear F O hb' lB; have O := O'; clear O'; have lB := O.out.2.size)
              | (refine step_append_lies _ (by rfl) _ _ _ (by rfl) W.heap.size 30 i0 _ 2 16 Try.underlying27 HI.out.1 HI.out.2.1 HI.out.2.2.1 HI.out.2.2.2 rfl (by omega) u7 j _ (by rfl) (O.out.1.alloc _) ⟨w'.heap.size, 0, none⟩ 1 1 [.int .u64 (xz.1 : Int), .int .u64 (xz.2 : Int)] (by rfl) (by rfl) (World.news_of_block (cs := #[.int .u64 (xz.1 : Int), .int .u64 (xz.2 : Int)]) (t := 30) (fr := (0, 0)) (heap_alloc_new w' _)) (by simp [Value.oneCell']) (by omega) (by simp only [maxLen]; omega) (by omega) (by simp; omega) (w'.heap.size + 1) (by simp) ?_; intro gg cap w5 hown5 hgrow hat hlt5; have O' : Hid (w5.ownsRow W.heap.size 30 2 (.slice (some ⟨gg, 0, none⟩) (j + 1) cap) (j + 1) (flat ((clr es at' bit).take j) ++ [.int .u64 (xz.1 : Int), .int .u64 (xz.2 : Int)]) ∧ Below W.heap.size W w5) := ⟨hown5, (O.out.2.alloc lB _).grown hgrow (by simp; omega) (fun g hg => (O.out.1.lt g hg).1)⟩; clear O hown5 hgrow hat hlt5; have O := O'; clear O'))
          go_wp2
          refine ⟨⟨j + 1, hlt, by simp, ?_, O.out.2⟩, by simp [intOf]; omega⟩
          rw [HN.out, HZ.out, flat_snoc]
          exact O.out.1
    · have hje : j = es.length := by omega
      subst hje
      have hl := clr_len es at' bit
      rw [List.take_of_length_le (by omega)] at hown
      have HB : Hid (Below W.heap.size W wr) := hbw
      obtain ⟨a', cap', hv⟩ := own_slc hown
      subst hv
      have HE := hidT hown
      clear hown hbw HC
      go_wp2
      go_ret
      exact ⟨_, _, rfl, HE.out, HB.out⟩
end Go.Proofs.Ytkllihomdlibgaa
