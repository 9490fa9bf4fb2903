/- The document's side of layer 15 over the seat's translation: Value, All, May. -/
import Derived.Test.YtcejppibcemdeaaCbG
import Derived.Test.YtcejppibcemdeaaPPvP
namespace Go.Proofs.Ytcejppibcemdeaa
open Go.RowKit
open Cb
open Tw (pm)

set_option maxHeartbeats 2000000 in
/-- The document's side: are all elements of a level? -/
theorem rall15 (l : Int) (a : Option Addr) (cap : Nat) (es : List (Nat × Nat)) (hes : ltE es) (W : World) (hr : ERow W a es) (h10 : es.length ≤ 100000) :
    Calls Try.prog 30 #[.int .i64 l, .slice a es.length cap] W fun e w' => e = .returned (.bool (es.all fun e => ofB l (e.1 : Int) (e.2 : Int))) ∧ Below W.heap.size W w' := by
  have HR : Hid (ERow W a es) := hr
  have HO : Hid (∀ j : Nat, Ret 14 #[.int .i64 l, .agg #[.int .u64 ((es.getD j (0, 0)).1 : Int), .int .u64 ((es.getD j (0, 0)).2 : Int)]] (.bool (ofB l ((es.getD j (0, 0)).1 : Int) ((es.getD j (0, 0)).2 : Int)))) := fun j => rof_any l _ _ (hes.at j).1 (hes.at j).2
  clear hr hes
  go_enter Try.func30, Try.ntmps30
  go_wp2_with fail
  go_loopw [5] (fun u wr => ∃ j : Nat, j ≤ es.length ∧ u = .int .i64 j ∧ Hid ((es.take j).all (fun e => ofB l (e.1 : Int) (e.2 : Int)) = true) ∧ Below W.heap.size W wr) (fun u _ => es.length - (intOf u).toNat)
  case atStart => exact ⟨0, Nat.zero_le _, rfl, (by rfl), Below.refl _ _⟩
  case round =>
    obtain ⟨j, hj, rfl, HT, hD⟩ := hrel
    by_cases hlt : j < es.length
    · obtain ⟨b, off, rfl, hb, c1, c0⟩ := HR.out.cells j hlt
      have d1 : wr.cell? ⟨b, off + j * 2, none⟩ = some (.int .u64 ((es.getD j (0, 0)).1 : Nat)) := by rw [hD.cell (p := ⟨b, off + j * 2, none⟩) hb]; exact c1
      have d0 : wr.cell? ⟨b, off + j * 2 + 1, none⟩ = some (.int .u64 ((es.getD j (0, 0)).2 : Nat)) := by rw [hD.cell (p := ⟨b, off + j * 2 + 1, none⟩) hb]; exact c0
      have H1 := HO.out j
      have HD : Hid (Below W.heap.size W wr) := hD
      have HS : Hid (es.take (j + 1) = es.take j ++ [es.getD j (0, 0)]) := take_sn es j hlt
      have HM : Hid (es.getD j (0, 0) ∈ es) := by show _ ∈ _; rw [show es.getD j (0, 0) = es[j] by simp [hlt]]; exact List.getElem_mem hlt
      clear hD c1 c0 HR HO
      generalize es.getD j (0, 0) = x at *
      rcases hB : ofB l (x.1 : Int) (x.2 : Int) with _ | _
      · rw [hB] at H1
        go_wp2_with fail
        refine (H1.go _).mono ?_
        rintro e w4 ⟨rfl, hb4⟩
        have HD4 : Hid (Below W.heap.size W w4) := HD.out.trans (hb4.mono HD.out.size)
        clear hb4 d1 d0 HD
        go_wp2
        go_ret
        refine ⟨?_, HD4.out⟩
        rw [show (es.all fun e => ofB l (e.1 : Int) (e.2 : Int)) = false from by
          rw [List.all_eq_false]; exact ⟨x, HM.out, by rw [hB]; decide⟩]
        rfl
      · rw [hB] at H1
        go_wp2_with fail
        refine (H1.go _).mono ?_
        rintro e w4 ⟨rfl, hb4⟩
        have HD4 : Hid (Below W.heap.size W w4) := HD.out.trans (hb4.mono HD.out.size)
        clear hb4 d1 d0 HD
        go_wp2
        exact ⟨⟨j + 1, hlt, by simp, (by show _ = _; rw [HS.out, List.all_append, HT.out]; simp [hB]), HD4.out⟩, by simp [intOf]; omega⟩
    · have HD : Hid (Below W.heap.size W wr) := hD
      obtain rfl : j = es.length := by omega
      clear hD
      go_wp2
      go_ret
      refine ⟨?_, HD.out⟩
      have := HT.out
      rw [List.take_of_length_le (Nat.le_refl _)] at this
      rw [this]
      rfl
end Go.Proofs.Ytcejppibcemdeaa

/- steeplelaw15.awake and the walk of CubeValues over the seat's translation. -/
namespace Go.Proofs.Ytcejppibcemdeaa
open Go.RowKit
open Cb
open Tw (pm)

theorem px33 : Tw.px 3 3 = 2 := by decide +kernel
theorem awake_v : firsts [(0, 1), (0, 2)] [(0, 3)] = [(0, 3)] := by
  have h : pm (0, 3) (0, 3) = (0, 2) := by
    show (Tw.pmh 0 3 0 3, Tw.pml 0 3 0 3) = (0, 2)
    rw [Tw.pmh_low, Tw.pml_low, px33]
  have e : firsts [(0, 1), (0, 2)] [(0, 3)] = [xa (0, 1) (pm (0, 3) (xa (0, 1) (0, 2)))] := by
    rw [firsts_one]
    simp [fst1, half, hv, el]
  rw [e, show xa (0, 1) (0, 2) = (0, 3) by decide, h]
  decide
theorem erow_cells2 {w : World} {b : Nat} {x y : Nat × Nat} (h1 : w.cell? ⟨b, 0, none⟩ = some (.int .u64 (x.1 : Int))) (h2 : w.cell? ⟨b, 1, none⟩ = some (.int .u64 (x.2 : Int))) (h3 : w.cell? ⟨b, 2, none⟩ = some (.int .u64 (y.1 : Int))) (h4 : w.cell? ⟨b, 3, none⟩ = some (.int .u64 (y.2 : Int))) : ERow w (some ⟨b, 0, none⟩) [x, y] := ⟨fun i hi => by
  simp at hi
  have hb := cell_lt h1
  obtain rfl | rfl : i = 0 ∨ i = 1 := by omega
  · exact ⟨b, 0, rfl, hb, h1, h2⟩
  · exact ⟨b, 0, rfl, hb, h3, h4⟩⟩
theorem erow_cells1 {w : World} {b : Nat} {x : Nat × Nat} (h1 : w.cell? ⟨b, 0, none⟩ = some (.int .u64 (x.1 : Int))) (h2 : w.cell? ⟨b, 1, none⟩ = some (.int .u64 (x.2 : Int))) : ERow w (some ⟨b, 0, none⟩) [x] := ⟨fun i hi => by
  simp at hi
  have hb := cell_lt h1
  subst hi
  exact ⟨b, 0, rfl, hb, h1, h2⟩⟩
theorem El.new (w : World) (v : Nat × Nat) (T : TypeId) : El (w.alloc (Obj.cells #[.int .u64 (v.1 : Int), .int .u64 (v.2 : Int)] T)) w.heap.size v.1 v.2 := ⟨by simp [go_sem], by simp [go_sem]⟩
/-- What CubeValues holds: the value, both tables, and what lay there. -/
structure Cvs (W w : World) (q : Nat) (v : Nat × Nat) : Prop where
  v : El w q v.1 v.2
  d : Below W.heap.size W w
theorem Cvs.below {W w w' : World} {q : Nat} {v : Nat × Nat} (h : Cvs W w q v) (hb : Below w.heap.size w w') : Cvs W w' q v := ⟨h.v.below hb, h.d.trans (hb.mono h.d.size)⟩
theorem Cvs.drew {W w : World} {q : Nat} {v : Nat × Nat} (h : Cvs W w q v) : Cvs W w.drew q v := h.below (Below.refl _ _).drew
structure Cvt (W w : World) (q : Nat) (v : Nat × Nat) (ax ay : Option Addr) (t p : List (Nat × Nat)) : Prop where
  c : Cvs W w q v
  x : ERow w ax t
  y : ERow w ay p
theorem Cvt.below {W w w' : World} {q : Nat} {v : Nat × Nat} {ax ay : Option Addr} {t p : List (Nat × Nat)} (h : Cvt W w q v ax ay t p) (hb : Below w.heap.size w w') : Cvt W w' q v ax ay t p := ⟨h.c.below hb, h.x.below hb, h.y.below hb⟩
theorem Cvt.drew {W w : World} {q : Nat} {v : Nat × Nat} {ax ay : Option Addr} {t p : List (Nat × Nat)} (h : Cvt W w q v ax ay t p) : Cvt W w.drew q v ax ay t p := h.below (Below.refl _ _).drew
end Go.Proofs.Ytcejppibcemdeaa

/- Contracts of cube.Log of any number, cube.Corner and steepleref15.Two over the seat's translation. -/
namespace Go.Proofs.Ytcejppibcemdeaa
open Go.RowKit
open Cb
open Tw (pm)

theorem crn_at : ∀ (n i j : Nat), j < n → el (crn n i) j = (0, i / 2 ^ j % 2)
  | 0, _, _, h => by omega
  | n + 1, i, 0, _ => by simp [crn, el]
  | n + 1, i, j + 1, h => by
    show el (crn n (i / 2)) j = _
    rw [crn_at n (i / 2) j (by omega), Nat.div_div_eq_div_mul, Nat.pow_succ, Nat.mul_comm 2]
theorem crn_lt (n i : Nat) : ltE (crn n i) := ltE_of fun j hj => by
  rw [crn_len] at hj
  rw [crn_at n i j hj]
  exact ⟨Nat.two_pow_pos 64, by omega⟩
theorem crn_of (k : Nat) (hk : k < 8) (n i : Nat) : ofT k (crn n i) := ofT_of fun j hj => by
  rw [crn_len] at hj
  rw [crn_at n i j hj]
  rcases Nat.mod_two_eq_zero_or_one (i / 2 ^ j) with h | h
  · rw [h]; exact of_zero k hk
  · rw [h]; exact of_one k hk
theorem bit_intC (i k : Nat) (hi : i < 65536) : bits .and .i64 ((i : Int) / 2 ^ k) 1 = ((i / 2 ^ k % 2 : Nat) : Int) := by
  rw [show (i : Int) / 2 ^ k = ((i / 2 ^ k : Nat) : Int) by simp, show (1 : Int) = ((1 : Nat) : Int) by rfl, cand_nat _ 1 (by have := Nat.div_le_self i (2 ^ k); omega) (by decide), Nat.and_one_is_mod]
set_option maxHeartbeats 400000 in
theorem rtwo15 (n : Nat) (hn : n ≤ 16) : Ret 51 #[.int .i64 (n : Int)] (.int .i64 ((2 ^ n : Nat) : Int)) := by
  intro W
  go_enter Try.func51, Try.ntmps51
  go_wp2_with fail
  go_loopw [3, 4] (fun v u wr => ∃ j q : Nat, j ≤ n ∧ Hid (q = 2 ^ j) ∧ v = .int .i64 (q : Int) ∧ u = .int .i64 j ∧ W = wr) (fun _ u _ => n - (intOf u).toNat)
  case atStart => exact ⟨0, 1, Nat.zero_le _, (by rfl), rfl, rfl, rfl⟩
  case round =>
    obtain ⟨j, q, hj, HQ, rfl, rfl, rfl⟩ := hrel
    by_cases hlt : j < n
    · have hq : q ≤ 65536 := by rw [HQ.out]; exact Nat.pow_le_pow_right (by decide) (show j ≤ 16 by omega)
      have hw : IntKind.i64.wrap (2 * (q : Int)) = ((2 * q : Nat) : Int) := by rw [IntKind.wrap_i64]; omega
      go_wp2
      exact ⟨⟨j + 1, 2 * q, hlt, (by show _ = _; rw [HQ.out, Nat.pow_succ]; omega), by simp, by simp, by first | rfl | trivial⟩, by simp [intOf]; omega⟩
    · obtain rfl : j = n := by omega
      go_wp2
      go_ret
      exact ⟨by rw [← HQ.out]; rfl, Below.refl _ _⟩
theorem wrap_twoC (n : Nat) (hn : n ≤ 16) : IntKind.i64.wrap (2 ^ n) = ((2 ^ n : Nat) : Int) := by
  have h1 : 2 ^ n ≤ 2 ^ 16 := Nat.pow_le_pow_right (by decide) hn
  rw [IntKind.wrap_i64, show (2 : Int) ^ n = ((2 ^ n : Nat) : Int) by simp]
  generalize 2 ^ n = p at *
  omega
end Go.Proofs.Ytcejppibcemdeaa

/- The contracts of steepleref19.N and Pair over the seat's translation. -/
namespace Go.Proofs.Ytcejppibcemdeaa
open Go.RowKit
open Cb Rg
namespace Pv

theorem rn19 (k : Nat) (hk : k < 8) : Ret 36 #[.int .i64 (k : Int)] (.int .i64 ((2 ^ k : Nat) : Int)) := by
  intro W
  have HT := hidT (rtwo15 k (by omega))
  generalize 2 ^ k = N at *
  go_enter Try.func36, Try.ntmps36
  go_wp2_with (go_at_call 51; refine (HT.out.go _).mono ?_; rintro e w1 ⟨rfl, hb1⟩)
  go_ret
  exact ⟨rfl, hb1⟩
/-- A pair as a tensor. -/
def pairv (N : Nat) (a b : Nat × Nat) : List (Nat × Nat) := (List.range N).map fun u => if hs a u = true then b else (0, 0)
theorem pairv_len (N : Nat) (a b : Nat × Nat) : (pairv N a b).length = N := by simp [pairv]
theorem pairv_take (N : Nat) (a b : Nat × Nat) : pairv (N + 1) a b = pairv N a b ++ [if hs a N = true then b else (0, 0)] := by simp [pairv, List.range_succ]
end Pv
end Go.Proofs.Ytcejppibcemdeaa
