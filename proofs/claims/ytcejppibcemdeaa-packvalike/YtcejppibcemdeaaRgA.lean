/- Contracts of span.isMap, within, made and Apply over the seat's translation. -/
import Derived.Test.YtcejppibcemdeaaPTwMx
import Derived.Test.YtcejppibcemdeaaRgP
namespace Go.Proofs.Ytcejppibcemdeaa
open Go.RowKit
open Cb
open Rg
open Tw (pm)

theorem hidT {p : Prop} (h : p) : Hid p := h
theorem hs_hasE (x : Nat × Nat) (n : Nat) : hs x n = hasE x n := rfl
theorem bitLen_bits (x n : Nat) (h : x < 2 ^ 64) (hn : Lib.bitLen x ≤ n) : x.testBit n = false :=
  Nat.testBit_lt_two_pow (Nat.lt_of_lt_of_le (bitLen_lt 64 x (Nat.le_refl _) h) (Nat.pow_le_pow_right (by decide) hn))
/-- Behind its leading bit an element has none. -/
theorem hs_long (x : Nat × Nat) (hx : lt2 x) (n : Nat) (hn : lngE x ≤ n) : hs x n = false := by
  unfold hs hasB
  unfold lngE at hn
  by_cases h : x.1 = 0
  · rw [if_pos h] at hn
    split
    · exact bitLen_bits _ _ hx.2 hn
    · rw [h]; exact Nat.zero_testBit _
  · rw [if_neg h] at hn
    rw [if_neg (by omega)]
    exact bitLen_bits _ _ hx.1 (by omega)
/-- An element of a level has no more bits than that. -/
theorem lng_of {k : Nat} (hk : k < 8) {x : Nat × Nat} (hx : lt2 x) (o : ofE k x) : lngE x ≤ 2 ^ k := by
  have o' := (ofB_iff _ _ _ hk).1 o
  have h7 : (2 : Nat) ^ 7 = 128 := by decide
  unfold lngE
  rcases o' with rfl | ⟨h0, hl⟩
  · have a := bitLen_le x.1 hx.1
    have b := bitLen_le x.2 hx.2
    rw [h7]
    split <;> omega
  · have h0' : x.1 = 0 := by omega
    rw [if_pos h0']
    by_cases h : k = 7
    · subst h; have b := bitLen_le x.2 hx.2; rw [h7]; omega
    · have h6 : 2 ^ k ≤ 2 ^ 6 := Nat.pow_le_pow_right (by decide) (by omega)
      have e6 : (2 : Nat) ^ 6 = 64 := by decide
      exact bitLen_pow (2 ^ k) x.2 (by omega) (by exact_mod_cast hl)
theorem smap_yes (a : Option Addr) (n cap : Nat) (h : n ≤ 128) : Ret 65 #[.slice a n cap] (.bool true) := by
  intro W
  have h1 : (n : Int) ≤ 128 := by omega
  go_enter Try.func65, Try.ntmps65
  go_wp2
  go_ret
  exact ⟨rfl, by first | exact Below.refl _ _ | go_grown⟩
set_option maxHeartbeats 2000000 in
theorem swithin (a : Option Addr) (cap n : Nat) (es : List (Nat × Nat)) (hes : ltE es) (h10 : es.length ≤ 1000) (hn : ∀ e ∈ es, lngE e ≤ n) (W : World) (hr : ERow W a es) :
    Calls Try.prog 66 #[.slice a es.length cap, .int .i64 (n : Int)] W fun e w' => e = .returned (.bool true) ∧ Below W.heap.size W w' := by
  have HR : Hid (ERow W a es) := hr
  have HO : Hid (∀ j : Nat, j < es.length → Ret 67 #[.agg #[.int .u64 ((es.getD j (0, 0)).1 : Int), .int .u64 ((es.getD j (0, 0)).2 : Int)]] (.int .i64 (lngE (es.getD j (0, 0)) : Int)) ∧ lngE (es.getD j (0, 0)) ≤ n) := fun j hj => ⟨long_any _ (hes.at j).1 (hes.at j).2, hn _ (by rw [show es.getD j (0, 0) = es[j] by simp [hj]]; exact List.getElem_mem hj)⟩
  clear hr hes hn
  go_enter Try.func66, Try.ntmps66
  go_wp2_with fail
  go_loopw [9] (fun u wr => ∃ j : Nat, j ≤ es.length ∧ u = .int .i64 j ∧ Below W.heap.size W wr) (fun u _ => es.length - (intOf u).toNat)
  case atStart => exact ⟨0, Nat.zero_le _, rfl, Below.refl _ _⟩
  case round =>
    obtain ⟨j, hj, rfl, hD⟩ := hrel
    by_cases hlt : j < es.length
    · obtain ⟨b, off, rfl, hb, c1, c0⟩ := HR.out.cells j hlt
      have d1 := keepc hD c1
      have d0 := keepc hD c0
      obtain ⟨H1, hL⟩ := HO.out j hlt
      have HD : Hid (Below W.heap.size W wr) := hD
      clear hD c1 c0 HR HO
      generalize es.getD j (0, 0) = x at *
      generalize lngE x = L at *
      have hL2 : ¬ (n : Int) < (L : Int) := by omega
      go_wp2_with fail
      refine (H1.go _).mono ?_
      rintro e w4 ⟨rfl, hb4⟩
      have HD4 : Hid (Below W.heap.size W w4) := (HD.out.alloc HD.out.size _).trans (hb4.mono (by have := HD.out.size; simp; omega))
      clear hb4 d1 d0 HD
      go_wp2
      exact ⟨⟨j + 1, hlt, by simp, HD4.out⟩, by simp [intOf]; omega⟩
    · have HD : Hid (Below W.heap.size W wr) := hD
      obtain rfl : j = es.length := by omega
      clear hD
      go_wp2
      go_ret
      exact ⟨rfl, HD.out⟩
/-- What a map makes of an element. -/
def mdv (n : Nat) (m : List (Nat × Nat)) (x : Nat × Nat) : Nat × Nat := xs n fun i => sl (hs x i) (el m i)
theorem lt_mdv (n : Nat) {m : List (Nat × Nat)} (hm : ltE m) (x : Nat × Nat) : lt2 (mdv n m x) := lt_xs (fun i => lt_sl (ltE_el hm i)) _
/-- The bits behind the leading one add nothing. -/
theorem mdv_long (m : List (Nat × Nat)) (x : Nat × Nat) (hx : lt2 x) (n : Nat) (hn : lngE x ≤ n) : mdv (lngE x) m x = mdv n m x := by
  unfold mdv
  obtain ⟨d, rfl⟩ : ∃ d, n = lngE x + d := ⟨n - lngE x, by omega⟩
  rw [Rg.xs_add, Rg.xs_none d, xa_zero]
  intro i _
  rw [hs_long x hx _ (by omega)]
  rfl
/-- The element, the room, and the sum. -/
structure Md (W w : World) (x s : Nat × Nat) : Prop where
  x : Ew w W.heap.size x.1 x.2
  r : Ew w (W.heap.size + 1) 0 0
  s : Ew w (W.heap.size + 2) s.1 s.2
  d : Below W.heap.size W w
theorem Md.below {W w w' : World} {x s : Nat × Nat} (h : Md W w x s) (hb : Below w.heap.size w w') : Md W w' x s := ⟨h.x.below hb, h.r.below hb, h.s.below hb, h.d.trans (hb.mono h.d.size)⟩
theorem Md.drew {W w : World} {x s : Nat × Nat} (h : Md W w x s) : Md W w.drew x s := ⟨h.x.drew, h.r.drew, h.s.drew, h.d.drew⟩
theorem Md.put {W w : World} {x s : Nat × Nat} (h : Md W w x s) (t : Nat × Nat) : Md W ((w.setCell ⟨W.heap.size + 2, 0, none⟩ (.int .u64 (t.1 : Int))).setCell ⟨W.heap.size + 2, 1, none⟩ (.int .u64 (t.2 : Int))) x t :=
  ⟨h.x.other (by omega) _ _, h.r.other (by omega) _ _, h.s.set _ _, below2 (p := W.heap.size + 2) h.d (by omega) _ _⟩
theorem Md.facts {W w : World} {b o : Nat} {x s y : Nat × Nat} (h : Md W w x s) (A : b < W.heap.size ∧ W.cell? ⟨b, o, none⟩ = some (.int .u64 (y.1 : Int)) ∧ W.cell? ⟨b, o + 1, none⟩ = some (.int .u64 (y.2 : Int))) :
    w.cell? ⟨b, o, none⟩ = some (.int .u64 (y.1 : Int)) ∧ w.cell? ⟨b, o + 1, none⟩ = some (.int .u64 (y.2 : Int)) ∧ w.cell? ⟨W.heap.size + 2, 0, none⟩ = some (.int .u64 (s.1 : Int)) ∧ w.cell? ⟨W.heap.size + 2, 1, none⟩ = some (.int .u64 (s.2 : Int)) ∧ w.frozen? ⟨W.heap.size + 2, 0, none⟩ = false ∧ w.frozen? ⟨W.heap.size + 2, 1, none⟩ = false :=
  ⟨by rw [h.d.cell (p := ⟨b, o, none⟩) A.1]; exact A.2.1, by rw [h.d.cell (p := ⟨b, o + 1, none⟩) A.1]; exact A.2.2, h.s.hi, h.s.lo, h.s.fhi, h.s.flo⟩
end Go.Proofs.Ytcejppibcemdeaa
