/- Rows that came in; contracts of steeplelaw09.Few, of code's Encode of a nil code and of weave.Encode without a code, over the seat's translation; the walk of WeaveNone. -/
import Derived.Test.YtccaobfhldfamaaWvF
namespace Go.Proofs.Ytccaobfhldfamaa
open Go.RowKit

/-- Rows in memory: slices, as a slice has them. -/
structure Grid (w : World) (a : Option Addr) (ls : List (Option Addr × Nat × Nat)) : Prop where
  cells : ∀ i, i < ls.length → ∃ b off : Nat, a = some ⟨b, off, none⟩ ∧ b < w.heap.size ∧ w.cell? ⟨b, off + i, none⟩ = some (.slice (ls.getD i (none, 0, 0)).1 (ls.getD i (none, 0, 0)).2.1 (ls.getD i (none, 0, 0)).2.2)
theorem Grid.below {w w' : World} {a : Option Addr} {ls : List (Option Addr × Nat × Nat)} (h : Grid w a ls) (hb : Below w.heap.size w w') : Grid w' a ls := ⟨fun i hi => by
  obtain ⟨b, off, h1, h2, h3⟩ := h.cells i hi
  exact ⟨b, off, h1, Nat.lt_of_lt_of_le h2 hb.size, keepc hb h3⟩⟩
/-- Are rows no more than so many, and no longer than so many? -/
def fewB (ls : List (Option Addr × Nat × Nat)) (most long : Nat) : Bool := decide (ls.length ≤ most) && ls.all fun r => decide (r.2.1 ≤ long)
set_option maxHeartbeats 1000000 in
theorem few_any (a : Option Addr) (cap most long : Nat) (ls : List (Option Addr × Nat × Nat)) (hm : most ≤ 1000) (W : World) (hr : Grid W a ls) :
    Calls Try.prog 4 #[.slice a ls.length cap, .int .i64 (most : Int), .int .i64 (long : Int)] W fun e w' => e = .returned (.bool (fewB ls most long)) ∧ Below W.heap.size W w' := by
  have HR : Hid (Grid W a ls) := hr
  clear hr
  by_cases hl : ls.length ≤ most
  · have h1 : ¬ (most : Int) < (ls.length : Int) := by omega
    have HF : Hid (fewB ls most long = ls.all fun r => decide (r.2.1 ≤ long)) := by show _ = _; simp [fewB, hl]
    go_enter Try.func4, Try.ntmps4
    go_wp2_with fail
    go_loopw [7] (fun u wr => ∃ j : Nat, j ≤ ls.length ∧ u = .int .i64 j ∧ Hid ((ls.take j).all (fun r => decide (r.2.1 ≤ long)) = true) ∧ Below W.heap.size W wr) (fun u _ => ls.length - (intOf u).toNat)
    case atStart => exact ⟨0, Nat.zero_le _, rfl, (by rfl), Below.refl _ _⟩
    case round =>
      obtain ⟨j, hj, rfl, HT, hD⟩ := hrel
      have HD : Hid (Below W.heap.size W wr) := hD
      clear hD
      by_cases hlt : j < ls.length
      · obtain ⟨b, off, rfl, hb, cb⟩ := HR.out.cells j hlt
        have db := keepc HD.out cb
        have HS : Hid (ls.take (j + 1) = ls.take j ++ [ls.getD j (none, 0, 0)]) := by show _ = _; rw [List.take_succ_eq_append_getElem hlt]; simp [hlt]
        have HM : Hid (ls.getD j (none, 0, 0) ∈ ls) := by show _ ∈ _; rw [show ls.getD j (none, 0, 0) = ls[j] by simp [hlt]]; exact List.getElem_mem hlt
        clear cb
        generalize ls.getD j (none, 0, 0) = x at *
        by_cases hx : x.2.1 ≤ long
        · have h2 : ¬ (long : Int) < (x.2.1 : Int) := by omega
          go_wp2
          exact ⟨⟨j + 1, hlt, by simp, (by show _ = _; rw [HS.out, List.all_append, HT.out]; simp [hx]), HD.out⟩, by simp [intOf]; omega⟩
        · have h2 : (long : Int) < (x.2.1 : Int) := by omega
          go_wp2
          go_ret
          refine ⟨?_, HD.out⟩
          rw [HF.out, show (ls.all fun r => decide (r.2.1 ≤ long)) = false from by
            rw [List.all_eq_false]; exact ⟨x, HM.out, by simp [hx]⟩]
          rfl
      · obtain rfl : j = ls.length := by omega
        go_wp2
        go_ret
        refine ⟨?_, HD.out⟩
        have := HT.out
        rw [List.take_of_length_le (Nat.le_refl _)] at this
        rw [HF.out, this]
        rfl
  · have h1 : (most : Int) < (ls.length : Int) := by omega
    have HF : Hid (fewB ls most long = false) := by show _ = _; simp [fewB, hl]
    go_enter Try.func4, Try.ntmps4
    go_wp2
    go_ret
    exact ⟨by rw [HF.out]; rfl, by first | exact Below.refl _ _ | go_grown⟩
end Go.Proofs.Ytccaobfhldfamaa

/- Contracts of weave.width, steepleref09.Even and weave.sameLength over the seat's translation. -/
namespace Go.Proofs.Ytccaobfhldfamaa
open Go.RowKit

/-- Have rows one length? -/
def evenB (ls : List (Option Addr × Nat × Nat)) : Bool := ls.all fun r => decide (r.2.1 = (ls.getD 0 (none, 0, 0)).2.1)
theorem take_sg (ls : List (Option Addr × Nat × Nat)) (j : Nat) (h : j < ls.length) : ls.take (j + 1) = ls.take j ++ [ls.getD j (none, 0, 0)] := by rw [List.take_succ_eq_append_getElem h]; simp [h]
theorem mem_sg (ls : List (Option Addr × Nat × Nat)) (j : Nat) (h : j < ls.length) : ls.getD j (none, 0, 0) ∈ ls := by rw [show ls.getD j (none, 0, 0) = ls[j] by simp [h]]; exact List.getElem_mem h
set_option maxHeartbeats 1000000 in
theorem wid_any (a : Option Addr) (cap : Nat) (ls : List (Option Addr × Nat × Nat)) (W : World) (hr : Grid W a ls) :
    Calls Try.prog 16 #[.slice a ls.length cap] W fun e w' => e = .returned (.int .i64 ((ls.getD 0 (none, 0, 0)).2.1 : Int)) ∧ Below W.heap.size W w' := by
  by_cases h0 : ls.length = 0
  · have HE : Hid ((ls.getD 0 (none, 0, 0)).2.1 = 0) := by show _ = _; simp [List.length_eq_zero_iff.1 h0]
    rw [HE.out]
    go_enter Try.func16, Try.ntmps16
    go_wp2
    go_ret
    exact ⟨rfl, by first | exact Below.refl _ _ | go_grown⟩
  · obtain ⟨b, off, rfl, hb, cb⟩ := hr.cells 0 (by omega)
    rw [Nat.add_zero] at cb
    have h1 : ¬ (ls.length : Int) = 0 := by omega
    have h2 : (0 : Int) < (ls.length : Int) := by omega
    have h3 : 0 < ls.length := by omega
    clear hr
    generalize ls.getD 0 (none, 0, 0) = x at *
    go_enter Try.func16, Try.ntmps16
    go_wp2
    go_ret
    exact ⟨rfl, by first | exact Below.refl _ _ | go_grown⟩
set_option maxHeartbeats 1000000 in
theorem even_any (a : Option Addr) (cap : Nat) (ls : List (Option Addr × Nat × Nat)) (hn : ls.length ≤ 1000) (W : World) (hr : Grid W a ls) :
    Calls Try.prog 17 #[.slice a ls.length cap] W fun e w' => e = .returned (.bool (evenB ls)) ∧ Below W.heap.size W w' := by
  have HR : Hid (Grid W a ls) := hr
  clear hr
  go_enter Try.func17, Try.ntmps17
  go_wp2_with fail
  go_loopw [3] (fun u wr => ∃ j : Nat, j ≤ ls.length ∧ u = .int .i64 j ∧ Hid ((ls.take j).all (fun r => decide (r.2.1 = (ls.getD 0 (none, 0, 0)).2.1)) = true) ∧ Below W.heap.size W wr) (fun u _ => ls.length - (intOf u).toNat)
  case atStart => exact ⟨0, Nat.zero_le _, rfl, (by rfl), Below.refl _ _⟩
  case round =>
    obtain ⟨j, hj, rfl, HT, hD⟩ := hrel
    have HD : Hid (Below W.heap.size W wr) := hD
    clear hD
    by_cases hlt : j < ls.length
    · obtain ⟨b, off, rfl, hb, cb⟩ := HR.out.cells j hlt
      obtain ⟨b', off', hab, hb', cb'⟩ := HR.out.cells 0 (by omega)
      injection hab with hab; injection hab with hab1 hab2
      subst hab1; subst hab2
      rw [Nat.add_zero] at cb'
      have db := keepc HD.out cb
      have db' := keepc HD.out cb'
      have HS : Hid (ls.take (j + 1) = ls.take j ++ [ls.getD j (none, 0, 0)]) := take_sg ls j hlt
      have HM : Hid (ls.getD j (none, 0, 0) ∈ ls) := mem_sg ls j hlt
      have HE : Hid (evenB ls = ls.all fun r => decide (r.2.1 = (ls.getD 0 (none, 0, 0)).2.1)) := rfl
      have h2 : (0 : Int) < (ls.length : Int) := by omega
      have h3 : 0 < ls.length := by omega
      clear cb cb'
      generalize ls.getD 0 (none, 0, 0) = y at *
      generalize ls.getD j (none, 0, 0) = x at *
      by_cases hx : x.2.1 = y.2.1
      · have h4 : (x.2.1 : Int) = (y.2.1 : Int) := by omega
        go_wp2_with fail
        go_region_held3 (fun w => w.cell? ⟨b, off + j, none⟩ = some (.slice x.1 x.2.1 x.2.2) ∧ w.cell? ⟨b, off, none⟩ = some (.slice y.1 y.2.1 y.2.2)) (go_keep) (fail)
        go_wp2
        exact ⟨⟨j + 1, hlt, by simp, (by show _ = _; rw [HS.out, List.all_append, HT.out]; simp [hx]), HD.out.drew⟩, by simp [intOf]; omega⟩
      · have h4 : ¬ (x.2.1 : Int) = (y.2.1 : Int) := by omega
        go_wp2_with fail
        go_region_held3 (fun w => w.cell? ⟨b, off + j, none⟩ = some (.slice x.1 x.2.1 x.2.2) ∧ w.cell? ⟨b, off, none⟩ = some (.slice y.1 y.2.1 y.2.2)) (go_keep) (fail)
        go_wp2
        go_ret
        refine ⟨?_, HD.out.drew⟩
        rw [HE.out, show (ls.all fun r => decide (r.2.1 = y.2.1)) = false from by
          rw [List.all_eq_false]; exact ⟨x, HM.out, by simp [hx]⟩]
        rfl
    · obtain rfl : j = ls.length := by omega
      go_wp2
      go_ret
      refine ⟨?_, HD.out⟩
      have := HT.out
      rw [List.take_of_length_le (Nat.le_refl _)] at this
      rw [show evenB ls = true from this]
      rfl
set_option maxHeartbeats 1000000 in
theorem slen_any (a : Option Addr) (cap : Nat) (ls : List (Option Addr × Nat × Nat)) (hn : ls.length ≤ 1000) (W : World) (hr : Grid W a ls) :
    Calls Try.prog 15 #[.slice a ls.length cap] W fun e w' => e = .returned (.bool (evenB ls)) ∧ Below W.heap.size W w' := by
  have HR : Hid (Grid W a ls) := hr
  clear hr
  go_enter Try.func15, Try.ntmps15
  go_wp2_with fail
  go_loopw [7] (fun u wr => ∃ j : Nat, j ≤ ls.length ∧ u = .int .i64 j ∧ Hid ((ls.take j).all (fun r => decide (r.2.1 = (ls.getD 0 (none, 0, 0)).2.1)) = true) ∧ Below W.heap.size W wr) (fun u _ => ls.length - (intOf u).toNat)
  case atStart => exact ⟨0, Nat.zero_le _, rfl, (by rfl), Below.refl _ _⟩
  case round =>
    obtain ⟨j, hj, rfl, HT, hD⟩ := hrel
    have HD : Hid (Below W.heap.size W wr) := hD
    clear hD
    by_cases hlt : j < ls.length
    · obtain ⟨b, off, rfl, hb, cb⟩ := HR.out.cells j hlt
      obtain ⟨b', off', hab, hb', cb'⟩ := HR.out.cells 0 (by omega)
      injection hab with hab; injection hab with hab1 hab2
      subst hab1; subst hab2
      rw [Nat.add_zero] at cb'
      have db := keepc HD.out cb
      have db' := keepc HD.out cb'
      have HS : Hid (ls.take (j + 1) = ls.take j ++ [ls.getD j (none, 0, 0)]) := take_sg ls j hlt
      have HM : Hid (ls.getD j (none, 0, 0) ∈ ls) := mem_sg ls j hlt
      have HE : Hid (evenB ls = ls.all fun r => decide (r.2.1 = (ls.getD 0 (none, 0, 0)).2.1)) := rfl
      have h2 : (0 : Int) < (ls.length : Int) := by omega
      have h3 : 0 < ls.length := by omega
      clear cb cb'
      generalize ls.getD 0 (none, 0, 0) = y at *
      generalize ls.getD j (none, 0, 0) = x at *
      by_cases hx : x.2.1 = y.2.1
      · have h4 : (x.2.1 : Int) = (y.2.1 : Int) := by omega
        go_wp2
        exact ⟨⟨j + 1, hlt, by simp, (by show _ = _; rw [HS.out, List.all_append, HT.out]; simp [hx]), HD.out⟩, by simp [intOf]; omega⟩
      · have h4 : ¬ (x.2.1 : Int) = (y.2.1 : Int) := by omega
        go_wp2
        go_ret
        refine ⟨?_, HD.out⟩
        rw [HE.out, show (ls.all fun r => decide (r.2.1 = y.2.1)) = false from by
          rw [List.all_eq_false]; exact ⟨x, HM.out, by simp [hx]⟩]
        rfl
    · obtain rfl : j = ls.length := by omega
      go_wp2
      go_ret
      refine ⟨?_, HD.out⟩
      have := HT.out
      rw [List.take_of_length_le (Nat.le_refl _)] at this
      rw [show evenB ls = true from this]
      rfl
end Go.Proofs.Ytccaobfhldfamaa
