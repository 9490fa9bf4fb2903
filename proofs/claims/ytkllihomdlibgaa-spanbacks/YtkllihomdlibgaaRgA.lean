/- Contracts of span.isMap, within, made and Apply over the seat's translation. -/
import Derived.Test.YtkllihomdlibgaaPSlA
import Derived.Test.YtkllihomdlibgaaRgP
namespace Go.Proofs.Ytkllihomdlibgaa
open Go.RowKit
open Cb
open Rg
open Tw (pm)

theorem hidT {p : Prop} (h : p) : Hid p := h
theorem hs_hasE (x : Nat × Nat) (n : Nat) : hs x n = hasE x n := rfl
theorem bitLen_bits (x n : Nat) (h : x < 2 ^ 64) (hn : Lib.bitLen x ≤ n) : x.testBit n = false :=
  Nat.testBit_lt_two_pow (Nat.lt_of_lt_of_le (bitLen_lt 64 x (Nat.le_refl _) h) (Nat.pow_le_pow_right (by decide) hn))
/-- Behind its leading bit an element has none. -/
theorem hs_long (x : Nat × Nat) (hx : lt2 x) (n : Nat) (hn : lngE x ≤ n) : hs x n = false := by
  unfold hs hasB
  unfold lngE at hn
  by_cases h : x.1 = 0
  · rw [if_pos h] at hn
    split
    · exact bitLen_bits _ _ hx.2 hn
    · rw [h]; exact Nat.zero_testBit _
  · rw [if_neg h] at hn
    rw [if_neg (by omega)]
    exact bitLen_bits _ _ hx.1 (by omega)
/-- An element of a level has no more bits than that. -/
theorem lng_of {k : Nat} (hk : k < 8) {x : Nat × Nat} (hx : lt2 x) (o : ofE k x) : lngE x ≤ 2 ^ k := by
  have o' := (ofB_iff _ _ _ hk).1 o
  have h7 : (2 : Nat) ^ 7 = 128 := by decide
  unfold lngE
  rcases o' with rfl | ⟨h0, hl⟩
  · have a := bitLen_le x.1 hx.1
    have b := bitLen_le x.2 hx.2
    rw [h7]
    split <;> omega
  · have h0' : x.1 = 0 := by omega
    rw [if_pos h0']
    by_cases h : k = 7
    · subst h; have b := bitLen_le x.2 hx.2; rw [h7]; omega
    · have h6 : 2 ^ k ≤ 2 ^ 6 := Nat.pow_le_pow_right (by decide) (by omega)
      have e6 : (2 : Nat) ^ 6 = 64 := by decide
      exact bitLen_pow (2 ^ k) x.2 (by omega) (by exact_mod_cast hl)
theorem smap_yes (a : Option Addr) (n cap : Nat) (h : n ≤ 128) : Ret 44 #[.slice a n cap] (.bool true) := by
  intro W
  have h1 : (n : Int) ≤ 128 := by omega
  go_enter Try.func44, Try.ntmps44
  go_wp2
  go_ret
  exact ⟨rfl, by first | exact Below.refl _ _ | go_grown⟩
set_option maxHeartbeats 2000000 in
theorem swithin (a : Option Addr) (cap n : Nat) (es : List (Nat × Nat)) (hes : ltE es) (h10 : es.length ≤ 1000) (hn : ∀ e ∈ es, lngE e ≤ n) (W : World) (hr : ERow W a es) :
    Calls Try.prog 48 #[.slice a es.length cap, .int .i64 (n : Int)] W fun e w' => e = .returned (.bool true) ∧ Below W.heap.size W w' := by
  have HR : Hid (ERow W a es) := hr
  have HO : Hid (∀ j : Nat, j < es.length → Ret 45 #[.agg #[.int .u64 ((es.getD j (0, 0)).1 : Int), .int .u64 ((es.getD j (0, 0)).2 : Int)]] (.int .i64 (lngE (es.getD j (0, 0)) : Int)) ∧ lngE (es.getD j (0, 0)) ≤ n) := fun j hj => ⟨long_any _ (hes.at j).1 (hes.at j).2, hn _ (by rw [show es.getD j (0, 0) = es[j] by simp [hj]]; exact List.getElem_mem hj)⟩
  clear hr hes hn
  go_enter Try.func48, Try.ntmps48
  go_wp2_with fail
  go_loopw [9] (fun u wr => ∃ j : Nat, j ≤ es.length ∧ u = .int .i64 j ∧ Below W.heap.size W wr) (fun u _ => es.length - (intOf u).toNat)
  case atStart => exact ⟨0, Nat.zero_le _, rfl, Below.refl _ _⟩
  case round =>
    obtain ⟨j, hj, rfl, hD⟩ := hrel
    by_cases hlt : j < es.length
    · obtain ⟨b, off, rfl, hb, c1, c0⟩ := HR.out.cells j hlt
      have d1 := keepc hD c1
      have d0 := keepc hD c0
      obtain ⟨H1, hL⟩ := HO.out j hlt
      have HD : Hid (Below W.heap.size W wr) := hD
      clear hD c1 c0 HR HO
      generalize es.getD j (0, 0) = x at *
      generalize lngE x = L at *
      have hL2 : ¬ (n : Int) < (L : Int) := by omega
      go_wp2_with fail
      refine (H1.go _).mono ?_
      rintro e w4 ⟨rfl, hb4⟩
      have HD4 : Hid (Below W.heap.size W w4) := (HD.out.alloc HD.out.size _).trans (hb4.mono (by have := HD.out.size; simp; omega))
      clear hb4 d1 d0 HD
      go_wp2
      exact ⟨⟨j + 1, hlt, by simp, HD4.out⟩, by simp [intOf]; omega⟩
    · have HD : Hid (Below W.heap.size W wr) := hD
      obtain rfl : j = es.length := by omega
      clear hD
      go_wp2
      go_ret
      exact ⟨rfl, HD.out⟩
/-- What a map makes of an element. -/
def mdv (n : Nat) (m : List (Nat × Nat)) (x : Nat × Nat) : Nat × Nat := xs n fun i => sl (hs x i) (el m i)
theorem lt_mdv (n : Nat) {m : List (Nat × Nat)} (hm : ltE m) (x : Nat × Nat) : lt2 (mdv n m x) := lt_xs (fun i => lt_sl (ltE_el hm i)) _
/-- The bits behind the leading one add nothing. -/
theorem mdv_long (m : List (Nat × Nat)) (x : Nat × Nat) (hx : lt2 x) (n : Nat) (hn : lngE x ≤ n) : mdv (lngE x) m x = mdv n m x := by
  unfold mdv
  obtain ⟨d, rfl⟩ : ∃ d, n = lngE x + d := ⟨n - lngE x, by omega⟩
  rw [Rg.xs_add, Rg.xs_none d, xa_zero]
  intro i _
  rw [hs_long x hx _ (by omega)]
  rfl
/-- The element, the room, and the sum. -/
structure Md (W w : World) (x s : Nat × Nat) : Prop where
  x : Ew w W.heap.size x.1 x.2
  r : Ew w (W.heap.size + 1) 0 0
  s : Ew w (W.heap.size + 2) s.1 s.2
  d : Below W.heap.size W w
theorem Md.below {W w w' : World} {x s : Nat × Nat} (h : Md W w x s) (hb : Below w.heap.size w w') : Md W w' x s := ⟨h.x.below hb, h.r.below hb, h.s.below hb, h.d.trans (hb.mono h.d.size)⟩
theorem Md.drew {W w : World} {x s : Nat × Nat} (h : Md W w x s) : Md W w.drew x s := ⟨h.x.drew, h.r.drew, h.s.drew, h.d.drew⟩
theorem Md.put {W w : World} {x s : Nat × Nat} (h : Md W w x s) (t : Nat × Nat) : Md W ((w.setCell ⟨W.heap.size + 2, 0, none⟩ (.int .u64 (t.1 : Int))).setCell ⟨W.heap.size + 2, 1, none⟩ (.int .u64 (t.2 : Int))) x t :=
  ⟨h.x.other (by omega) _ _, h.r.other (by omega) _ _, h.s.set _ _, below2 (p := W.heap.size + 2) h.d (by omega) _ _⟩
theorem Md.facts {W w : World} {b o : Nat} {x s y : Nat × Nat} (h : Md W w x s) (A : b < W.heap.size ∧ W.cell? ⟨b, o, none⟩ = some (.int .u64 (y.1 : Int)) ∧ W.cell? ⟨b, o + 1, none⟩ = some (.int .u64 (y.2 : Int))) :
    w.cell? ⟨b, o, none⟩ = some (.int .u64 (y.1 : Int)) ∧ w.cell? ⟨b, o + 1, none⟩ = some (.int .u64 (y.2 : Int)) ∧ w.cell? ⟨W.heap.size + 2, 0, none⟩ = some (.int .u64 (s.1 : Int)) ∧ w.cell? ⟨W.heap.size + 2, 1, none⟩ = some (.int .u64 (s.2 : Int)) ∧ w.frozen? ⟨W.heap.size + 2, 0, none⟩ = false ∧ w.frozen? ⟨W.heap.size + 2, 1, none⟩ = false :=
  ⟨by rw [h.d.cell (p := ⟨b, o, none⟩) A.1]; exact A.2.1, by rw [h.d.cell (p := ⟨b, o + 1, none⟩) A.1]; exact A.2.2, h.s.hi, h.s.lo, h.s.fhi, h.s.flo⟩
set_option maxHeartbeats 4000000 in
set_option maxRecDepth 100000 in
theorem smade (a : Option Addr) (cap : Nat) (m : List (Nat × Nat)) (x : Nat × Nat) (hm : ltE m) (hx : lt2 x) (h128 : m.length ≤ 128) (hl : lngE x ≤ m.length) (W : World) (hr : ERow W a m) :
    Calls Try.prog 46 #[.slice a m.length cap, .agg #[.int .u64 (x.1 : Int), .int .u64 (x.2 : Int)]] W fun e w' => e = .returned (.agg #[.int .u64 ((mdv (lngE x) m x).1 : Int), .int .u64 ((mdv (lngE x) m x).2 : Int)]) ∧ Below W.heap.size W w' := by
  have HR : Hid (ERow W a m) := hr
  have HL := hidT (long_any x hx.1 hx.2)
  have HH : Hid (∀ j : Nat, j < lngE x → Ret 43 #[.agg #[.int .u64 (x.1 : Int), .int .u64 (x.2 : Int)], .int .i64 (j : Int)] (.bool (hs x j))) := fun j hj => shas_any x j hx.1 hx.2 (by omega)
  have HA : Hid (∀ j : Nat, Ret 24 #[.agg #[.int .u64 ((mdv j m x).1 : Int), .int .u64 ((mdv j m x).2 : Int)], .agg #[.int .u64 ((el m j).1 : Int), .int .u64 ((el m j).2 : Int)]] (.agg #[.int .u64 ((xa (mdv j m x) (el m j)).1 : Int), .int .u64 ((xa (mdv j m x) (el m j)).2 : Int)])) := fun j w => add_any _ _ _ _ (lt_mdv j hm x).1 (lt_mdv j hm x).2 (ltE_el hm j).1 (ltE_el hm j).2 w
  have HS : Hid (∀ j : Nat, mdv (j + 1) m x = if hs x j = true then xa (mdv j m x) (el m j) else mdv j m x) := fun j => by
    show xa (mdv j m x) (sl (hs x j) (el m j)) = _
    cases hs x j
    · simp [sl, xa_zero]
    · simp [sl]
  clear hr hm hx
  generalize hN : lngE x = N at *
  go_enter Try.func46, Try.ntmps46
  go_wp2_with (go_at_call 45; refine (HL.out.go _).mono ?_; rintro e w1 ⟨rfl, hb1⟩)
  have K0 : Hid (Md W w1 x (0, 0)) := Md.below (w := ((W.alloc (Obj.cells #[.int .u64 (x.1 : Int), .int .u64 (x.2 : Int)] 25)).alloc (Obj.cells #[.int .u64 0, .int .u64 0] 25)).alloc (Obj.cells #[.int .u64 0, .int .u64 0] 25)) ⟨⟨⟨by simp [go_sem], by simp [go_sem]⟩, by simp [go_sem], by simp [go_sem]⟩, ⟨⟨by simp [go_sem], by simp [go_sem]⟩, by simp [go_sem], by simp [go_sem]⟩, ⟨⟨by simp [go_sem], by simp [go_sem]⟩, by simp [go_sem], by simp [go_sem]⟩, by go_grown⟩ hb1
  clear hb1
  go_loopw [9] (fun u wr => ∃ j : Nat, j ≤ N ∧ u = .int .i64 j ∧ Hid (Md W wr x (mdv j m x))) (fun u _ => N - (intOf u).toNat)
  case atStart => exact ⟨0, Nat.zero_le _, rfl, K0⟩
  case round =>
    obtain ⟨j, hj, rfl, HK⟩ := hrel
    clear K0
    by_cases hlt : j < N
    · obtain ⟨b, off, rfl, hb, c1, c0⟩ := HR.out.cells j (by omega)
      have HAc : Hid (b < W.heap.size ∧ W.cell? ⟨b, off + j * 2, none⟩ = some (.int .u64 ((el m j).1 : Nat)) ∧ W.cell? ⟨b, off + j * 2 + 1, none⟩ = some (.int .u64 ((el m j).2 : Nat))) := ⟨hb, c1, c0⟩
      have H1 := HH.out j hlt
      have H2 := HA.out j
      have H3 := hidT (HS.out j)
      have j1 : (j : Int) < (m.length : Int) := by omega
      have j0 : (0 : Int) ≤ (j : Int) := by omega
      obtain ⟨⟨x1, x0⟩, _, _⟩ := HK.out.x
      clear hb c1 c0 HR HH HA HS
      generalize mdv j m x = s at *
      generalize el m j = y at *
      cases hB : hs x j
      · rw [hB] at H1
        rw [hB] at H3
        have hs' : mdv (j + 1) m x = s := by have := H3.out; simpa using this
        go_wp2_with (go_at_call 43; refine (H1.go _).mono ?_; rintro e w2 ⟨rfl, hb2⟩)
        refine ⟨⟨j + 1, hlt, by simp, ?_⟩, by simp [intOf]; omega⟩
        rw [hs']
        exact HK.out.below hb2
      · rw [hB] at H1
        rw [hB] at H3
        have hs' : Hid (mdv (j + 1) m x = xa s y) := by show _ = _; have := H3.out; simpa using this
        go_upto_region 6 with (go_at_call 43; refine (H1.go _).mono ?_; rintro e w2 ⟨rfl, hb2⟩)
        have K : Md W w2 x s := HK.out.below hb2
        clear hb2 HK x1 x0
        obtain ⟨y1, y0, s1, s0, t1, t0⟩ := K.facts HAc.out
        go_region_with (go_at_call 24; refine (H2.go _).mono ?_; rintro e w' ⟨rfl, hb'⟩; have K'' := Md.below (w' := w') (by first | exact K | exact K.drew) hb'; clear y1 y0 s1 s0 t1 t0 K hb'; have K := K''; clear K''; (try simp only [World.size_drew] at K); obtain ⟨y1, y0, s1, s0, t1, t0⟩ := K.facts HAc.out)
        all_goals
          go_wp2
          refine ⟨⟨j + 1, hlt, by simp, ?_⟩, by simp [intOf]; omega⟩
          rw [hs'.out]
          exact K.put _
    · obtain rfl : j = N := by omega
      have HD : Hid (Below W.heap.size W wr) := HK.out.d
      obtain ⟨⟨o1, o0⟩, _, _⟩ := HK.out.s
      obtain ⟨⟨r1, r0⟩, t1, t0⟩ := HK.out.r
      obtain ⟨s, hs⟩ : ∃ s, s = mdv j m x := ⟨_, rfl⟩
      have HSS : Hid (s = mdv j m x) := hs
      rw [← hs] at o1 o0
      clear HK HR HS HA HH hs
      go_wp2
      refine bodyPost_ret (v := .agg #[.int .u64 (s.1 : Int), .int .u64 (s.2 : Int)]) (by simp [results, Try.results46, go_sem, *]) rfl ⟨by rw [HSS.out], ?_⟩
      exact below2 (p := W.heap.size + 1) HD.out (by omega) _ _
set_option maxHeartbeats 2000000 in
theorem sapply (a : Option Addr) (cap : Nat) (m : List (Nat × Nat)) (x : Nat × Nat) (hm : ltE m) (hx : lt2 x) (h128 : m.length ≤ 128) (hl : lngE x ≤ m.length) (v : Nat × Nat) (hv : mdv m.length m x = v) (W : World) (hr : ERow W a m) :
    Calls Try.prog 25 #[.slice a m.length cap, .agg #[.int .u64 (x.1 : Int), .int .u64 (x.2 : Int)]] W fun e w' => e = .returned (.tuple #[.agg #[.int .u64 (v.1 : Int), .int .u64 (v.2 : Int)], .int .i64 0]) ∧ Below W.heap.size W w' := by
  have HM := hidT (smap_yes a m.length cap h128)
  have HL := hidT (long_any x hx.1 hx.2)
  have HA : Hid (∀ w, Below W.heap.size W w → Calls Try.prog 46 #[.slice a m.length cap, .agg #[.int .u64 (x.1 : Int), .int .u64 (x.2 : Int)]] w fun e w' => e = .returned (.agg #[.int .u64 (v.1 : Int), .int .u64 (v.2 : Int)]) ∧ Below w.heap.size w w') := fun w hb => by
    have := smade a cap m x hm hx h128 hl w (hr.below hb)
    rw [mdv_long m x hx _ hl, hv] at this
    exact this
  have hL2 : ¬ (m.length : Int) < (lngE x : Int) := by omega
  clear hm hr hx hl hv
  generalize lngE x = L at *
  generalize m.length = n at *
  go_enter Try.func25, Try.ntmps25
  go_wp2_with (first
    | (go_at_call 44; refine (HM.out.go _).mono ?_; rintro e w1 ⟨rfl, hb1⟩; have K1 : Hid (Ew w1 W.heap.size x.1 x.2 ∧ Ew w1 (W.heap.size + 1) 0 0 ∧ Below W.heap.size W w1) := ⟨Ew.below (w := (W.alloc (Obj.cells #[.int .u64 (x.1 : Int), .int .u64 (x.2 : Int)] 25)).alloc (Obj.cells #[.int .u64 0, .int .u64 0] 25)) ⟨⟨by simp [go_sem], by simp [go_sem]⟩, by simp [go_sem], by simp [go_sem]⟩ hb1, Ew.below (w := (W.alloc (Obj.cells #[.int .u64 (x.1 : Int), .int .u64 (x.2 : Int)] 25)).alloc (Obj.cells #[.int .u64 0, .int .u64 0] 25)) ⟨⟨by simp [go_sem], by simp [go_sem]⟩, by simp [go_sem], by simp [go_sem]⟩ hb1, (((Below.refl _ _).alloc (Nat.le_refl _) _).alloc (by simp) _).trans (hb1.mono (by simp; omega))⟩; clear hb1; obtain ⟨⟨x1, x0⟩, _, _⟩ := K1.out.1)
    | (go_at_call 45; refine (HL.out.go _).mono ?_; rintro e w2 ⟨rfl, hb2⟩; have K2 : Hid (Ew w2 W.heap.size x.1 x.2 ∧ Ew w2 (W.heap.size + 1) 0 0 ∧ Below W.heap.size W w2) := ⟨K1.out.1.below hb2, K1.out.2.1.below hb2, K1.out.2.2.trans (hb2.mono K1.out.2.2.size)⟩; clear hb2 x1 x0 K1; obtain ⟨⟨x1, x0⟩, _, _⟩ := K2.out.1)
    | (go_at_call 46; refine (HA.out _ K2.out.2.2).mono ?_; rintro e w3 ⟨rfl, hb3⟩; have K3 : Hid (Ew w3 (W.heap.size + 1) 0 0 ∧ Below W.heap.size W w3) := ⟨K2.out.2.1.below hb3, K2.out.2.2.trans (hb3.mono K2.out.2.2.size)⟩; clear hb3 x1 x0 K2; obtain ⟨⟨r1, r0⟩, t1, t0⟩ := K3.out.1))
  refine bodyPost_ret (v := .tuple #[.agg #[.int .u64 (v.1 : Int), .int .u64 (v.2 : Int)], .int .i64 0]) (by simp [results, Try.results25, go_sem, *]) rfl ⟨rfl, ?_⟩
  exact below2 (p := W.heap.size + 1) K3.out.2 (by omega) _ _
end Go.Proofs.Ytkllihomdlibgaa
