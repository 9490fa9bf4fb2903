/- The contracts of the document's Apply and Then over the seat's translation. -/
import Derived.Test.YtkllihomdlibgaaSqR
namespace Go.Proofs.Ytkllihomdlibgaa
open Go.RowKit
open Cb Rg Sq

theorem two_boxes (W : World) (x : Nat × Nat) (T : TypeId) : Ew ((W.alloc (Obj.cells #[.int .u64 (x.1 : Int), .int .u64 (x.2 : Int)] T)).alloc (Obj.cells #[.int .u64 0, .int .u64 0] T)) W.heap.size x.1 x.2 ∧ Ew ((W.alloc (Obj.cells #[.int .u64 (x.1 : Int), .int .u64 (x.2 : Int)] T)).alloc (Obj.cells #[.int .u64 0, .int .u64 0] T)) (W.heap.size + 1) 0 0 ∧ Below W.heap.size W ((W.alloc (Obj.cells #[.int .u64 (x.1 : Int), .int .u64 (x.2 : Int)] T)).alloc (Obj.cells #[.int .u64 0, .int .u64 0] T)) :=
  ⟨⟨⟨by simp [go_sem], by simp [go_sem]⟩, by simp [go_sem], by simp [go_sem]⟩, ⟨⟨by simp [go_sem], by simp [go_sem]⟩, by simp [go_sem], by simp [go_sem]⟩, ((Below.refl _ _).alloc (Nat.le_refl _) _).alloc (by simp) _⟩
set_option maxHeartbeats 2000000 in
theorem rapply_arg (a : Option Addr) (cap M : Nat) (x : Nat × Nat) (h : 128 < M) : Ret 26 #[.slice a M cap, .agg #[.int .u64 (x.1 : Int), .int .u64 (x.2 : Int)]] (.tuple #[.agg #[.int .u64 0, .int .u64 0], .int .i64 1]) := by
  intro W
  have h' : (128 : Int) < (M : Int) := by omega
  have K1 := hidT (two_boxes W x 30)
  clear h
  go_enter Try.func26, Try.ntmps26
  go_wp2
  refine bodyPost_ret (v := .tuple #[.agg #[.int .u64 0, .int .u64 0], .int .i64 1]) (by simp [results, Try.results26, go_sem, *]) rfl ⟨rfl, ?_⟩
  exact K1.out.2.2
set_option maxHeartbeats 2000000 in
theorem rapply_size (a : Option Addr) (cap M : Nat) (x : Nat × Nat) (hx : lt2 x) (h : M ≤ 128) (hl : M < lngE x) : Ret 26 #[.slice a M cap, .agg #[.int .u64 (x.1 : Int), .int .u64 (x.2 : Int)]] (.tuple #[.agg #[.int .u64 0, .int .u64 0], .int .i64 6]) := by
  intro W
  have HL := hidT (rlead04 x hx)
  obtain ⟨L, hL⟩ : ∃ L : Int, L = (lngE x : Int) - 1 := ⟨_, rfl⟩
  rw [← hL] at HL
  have hL2 : (M : Int) ≤ L := by omega
  have h' : ¬ (128 : Int) < (M : Int) := by omega
  have K1 := hidT (two_boxes W x 30)
  clear h hl hx hL
  go_enter Try.func26, Try.ntmps26
  go_wp2_with (go_at_call 18; refine (HL.out.go _).mono ?_; rintro e w2 ⟨rfl, hb2⟩; have K2 : Hid (Ew w2 (W.heap.size + 1) 0 0 ∧ Below W.heap.size W w2) := ⟨K1.out.2.1.below hb2, K1.out.2.2.trans (hb2.mono K1.out.2.2.size)⟩; clear hb2; obtain ⟨⟨r1, r0⟩, t1, t0⟩ := K2.out.1)
  refine bodyPost_ret (v := .tuple #[.agg #[.int .u64 0, .int .u64 0], .int .i64 6]) (by simp [results, Try.results26, go_sem, *]) rfl ⟨rfl, ?_⟩
  exact below2 (p := W.heap.size + 1) K2.out.2 (by omega) _ _
set_option maxHeartbeats 2000000 in
theorem rapply_ok (a : Option Addr) (cap : Nat) (m : List (Nat × Nat)) (x : Nat × Nat) (hm : ltE m) (hx : lt2 x) (h : m.length ≤ 128) (hl : ¬ m.length < lngE x) (W : World) (hr : ERow W a m) :
    Calls Try.prog 26 #[.slice a m.length cap, .agg #[.int .u64 (x.1 : Int), .int .u64 (x.2 : Int)]] W fun e w' => e = .returned (.tuple #[.agg #[.int .u64 ((mdv m.length m x).1 : Int), .int .u64 ((mdv m.length m x).2 : Int)], .int .i64 0]) ∧ Below W.heap.size W w' := by
  have HL := hidT (rlead04 x hx)
  have HM : Hid (∀ w, Below W.heap.size W w → Calls Try.prog 47 #[.slice a m.length cap, .agg #[.int .u64 (x.1 : Int), .int .u64 (x.2 : Int)]] w fun e w' => e = .returned (.agg #[.int .u64 ((mdv m.length m x).1 : Int), .int .u64 ((mdv m.length m x).2 : Int)]) ∧ Below w.heap.size w w') := fun w hw => rmade04 a cap m x hm hx h w (hr.below hw)
  obtain ⟨L, hL⟩ : ∃ L : Int, L = (lngE x : Int) - 1 := ⟨_, rfl⟩
  rw [← hL] at HL
  have hL2 : ¬ (m.length : Int) ≤ L := by omega
  have h' : ¬ (128 : Int) < (m.length : Int) := by omega
  have K1 := hidT (two_boxes W x 30)
  clear h hl hx hL hm hr
  generalize mdv m.length m x = v at *
  generalize m.length = n at *
  go_enter Try.func26, Try.ntmps26
  go_wp2_with (first
    | (go_at_call 18; refine (HL.out.go _).mono ?_; rintro e w2 ⟨rfl, hb2⟩; have K2 : Hid (Ew w2 W.heap.size x.1 x.2 ∧ Ew w2 (W.heap.size + 1) 0 0 ∧ Below W.heap.size W w2) := ⟨K1.out.1.below hb2, K1.out.2.1.below hb2, K1.out.2.2.trans (hb2.mono K1.out.2.2.size)⟩; clear hb2; obtain ⟨⟨x1, x0⟩, _, _⟩ := K2.out.1)
    | (go_at_call 47; refine (HM.out _ K2.out.2.2).mono ?_; rintro e w3 ⟨rfl, hb3⟩; have K3 : Hid (Ew w3 (W.heap.size + 1) 0 0 ∧ Below W.heap.size W w3) := ⟨K2.out.2.1.below hb3, K2.out.2.2.trans (hb3.mono K2.out.2.2.size)⟩; clear hb3 x1 x0 K2; obtain ⟨⟨r1, r0⟩, t1, t0⟩ := K3.out.1))
  refine bodyPost_ret (v := .tuple #[.agg #[.int .u64 (v.1 : Int), .int .u64 (v.2 : Int)], .int .i64 0]) (by simp [results, Try.results26, go_sem, *]) rfl ⟨rfl, ?_⟩
  exact below2 (p := W.heap.size + 1) K3.out.2 (by omega) _ _
theorem rapply_all (a : Option Addr) (cap : Nat) (m : List (Nat × Nat)) (x : Nat × Nat) (hm : ltE m) (hx : lt2 x) (W : World) (hr : ERow W a m) :
    Calls Try.prog 26 #[.slice a m.length cap, .agg #[.int .u64 (x.1 : Int), .int .u64 (x.2 : Int)]] W fun e w' => e = .returned (.tuple #[.agg #[.int .u64 ((apV m x).1 : Int), .int .u64 ((apV m x).2 : Int)], .int .i64 (apE m x)]) ∧ Below W.heap.size W w' := by
  by_cases h : 128 < m.length
  · have e1 : apE m x = 1 := if_pos h
    have e2 : apV m x = (0, 0) := by unfold apV; rw [e1]; rfl
    rw [e1, e2]
    exact rapply_arg a cap m.length x h W
  · by_cases h2 : m.length < lngE x
    · have e1 : apE m x = 6 := by unfold apE; rw [if_neg h, if_pos h2]
      have e2 : apV m x = (0, 0) := by unfold apV; rw [e1]; rfl
      rw [e1, e2]
      exact rapply_size a cap m.length x hx (by omega) h2 W
    · have e1 : apE m x = 0 := by unfold apE; rw [if_neg h, if_neg h2]
      have e2 : apV m x = mdv m.length m x := by unfold apV; rw [e1]; rfl
      rw [e1, e2]
      exact rapply_ok a cap m x hm hx (by omega) h2 W hr
set_option maxHeartbeats 2000000 in
theorem rthen_arg (a1 a2 : Option Addr) (c1 c2 n m : Nat) (h : 128 < n ∨ 128 < m) : Ret 28 #[.slice a1 n c1, .slice a2 m c2] (.tuple #[.slice none 0 0, .int .i64 1]) := by
  intro W
  by_cases h1 : 128 < n
  · have h' : (128 : Int) < (n : Int) := by omega
    clear h h1
    go_enter Try.func28, Try.ntmps28
    go_wp2
    refine bodyPost_ret (v := .tuple #[.slice none 0 0, .int .i64 1]) (by simp [results, Try.results28, go_sem]) rfl ⟨rfl, by first | exact Below.refl _ _ | go_grown⟩
  · have h' : ¬ (128 : Int) < (n : Int) := by omega
    have h2 : (128 : Int) < (m : Int) := by omega
    clear h h1
    go_enter Try.func28, Try.ntmps28
    go_wp2
    refine bodyPost_ret (v := .tuple #[.slice none 0 0, .int .i64 1]) (by simp [results, Try.results28, go_sem]) rfl ⟨rfl, by first | exact Below.refl _ _ | go_grown⟩
set_option maxHeartbeats 2000000 in
theorem rthen_size (a1 a2 : Option Addr) (c1 c2 m : Nat) (a : List (Nat × Nat)) (ha : ltE a) (hn : a.length ≤ 128) (hm : m ≤ 128) (hf : fitL a m = false) (W : World) (hr : ERow W a1 a) :
    Calls Try.prog 28 #[.slice a1 a.length c1, .slice a2 m c2] W fun e w' => e = .returned (.tuple #[.slice none 0 0, .int .i64 6]) ∧ Below W.heap.size W w' := by
  have HW := hidT (rfits04 a1 c1 m a ha (by omega) W hr)
  rw [hf] at HW
  have n1 : ¬ (128 : Int) < (a.length : Int) := by omega
  have n2 : ¬ (128 : Int) < (m : Int) := by omega
  clear ha hf hr
  go_enter Try.func28, Try.ntmps28
  go_wp2_with (go_at_call 49; refine HW.out.mono ?_; rintro e w1 ⟨rfl, hb1⟩; have D1 := hidT hb1; clear hb1)
  refine bodyPost_ret (v := .tuple #[.slice none 0 0, .int .i64 6]) (by simp [results, Try.results28, go_sem]) rfl ⟨rfl, D1.out⟩
set_option maxHeartbeats 8000000 in
set_option maxRecDepth 100000 in
theorem rthen_ok (a1 a2 : Option Addr) (c1 c2 : Nat) (a b : List (Nat × Nat)) (ha : ltE a) (hb : ltE b) (hn : a.length ≤ 128) (hm : b.length ≤ 128) (hf : fitL a b.length = true) (W : World) (hr : ERow W a1 a) (hr2 : ERow W a2 b) :
    Calls Try.prog 28 #[.slice a1 a.length c1, .slice a2 b.length c2] W fun e w' => ∃ s cp, e = .returned (.tuple #[.slice s a.length cp, .int .i64 0]) ∧ ERow w' s (a.map (thM b)) ∧ Below W.heap.size W w' := by
  have HW := hidT (rfits04 a1 c1 b.length a ha (by omega) W hr)
  rw [hf] at HW
  have HD : Hid (∀ j, j < a.length → ∀ w, Below W.heap.size W w → Calls Try.prog 47 #[.slice a2 b.length c2, .agg #[.int .u64 ((el a j).1 : Int), .int .u64 ((el a j).2 : Int)]] w fun e w' => e = .returned (.agg #[.int .u64 ((thM b (el a j)).1 : Int), .int .u64 ((thM b (el a j)).2 : Int)]) ∧ Below w.heap.size w w') := fun j hj w hw => rmade04 a2 c2 b (el a j) hb (ltE_el ha j) hm w (hr2.below hw)
  have HR := hidT hr
  have HT : Hid (∀ j, j < a.length → (a.map (thM b)).take (j + 1) = (a.map (thM b)).take j ++ [thM b (el a j)]) := fun j hj => thm_take a b hj
  have HLN : Hid ((a.map (thM b)).length = a.length) := List.length_map _
  have n1 : ¬ (128 : Int) < (a.length : Int) := by omega
  have n2 : ¬ (128 : Int) < (b.length : Int) := by omega
  obtain ⟨i0, hi, hz0, hz1, hz2⟩ := info_relem
  have HI : Hid (Try.prog.info? 30 = some i0 ∧ i0.zero = some (.agg #[.int .u64 0, .int .u64 0]) ∧ i0.size = 2 ∧ i0.bytes = 16) := ⟨hi, hz0, hz1, hz2⟩
  clear ha hb hf hr hr2 hi hz0 hz1 hz2 hm
  generalize a.map (thM b) = R at *
  obtain ⟨n, hnn⟩ : ∃ n, n = a.length := ⟨_, rfl⟩
  rw [← hnn] at HW HD HT HLN hn n1 ⊢
  have HAL : Hid (a.length = n) := hnn.symm
  clear hnn
  go_enter Try.func28, Try.ntmps28
  go_wp2_with (go_at_call 49; refine HW.out.mono ?_; rintro e w1 ⟨rfl, hb1⟩; have D1 := hidT hb1; clear hb1)
  go_loopw [6, 7] (fun v u wr => ∃ j : Nat, j ≤ n ∧ u = .int .i64 j ∧ wr.ownsRow W.heap.size 30 2 v j (flat (R.take j)) ∧ Below W.heap.size W wr) (fun _ u _ => n - (intOf u).toNat)
  case atStart => exact ⟨0, Nat.zero_le _, rfl, ⟨by simp [flat], .inl ⟨rfl, rfl⟩⟩, D1.out⟩
  case round =>
    obtain ⟨j, hj, rfl, hown, hbw⟩ := hrel
    clear D1
    by_cases hlt : j < n
    · obtain ⟨b', off, rfl, hb', d1, d0⟩ := HR.out.cells j (by rw [HAL.out]; exact hlt)
      have x1 : wr.cell? ⟨b', off + j * 2, none⟩ = some (.int .u64 ((el a j).1 : Int)) := keepc hbw d1
      have x0 : wr.cell? ⟨b', off + j * 2 + 1, none⟩ = some (.int .u64 ((el a j).2 : Int)) := keepc hbw d0
      have H1 := hidT (HD.out j hlt)
      have HE := hidT (HT.out j hlt)
      have HO : Hid (wr.ownsRow W.heap.size 30 2 u6 j (flat (R.take j)) ∧ Below W.heap.size W wr) := ⟨hown, hbw⟩
      have i1 : (j : Int) < (n : Int) := by omega
      clear d1 d0 HD HT HR HW hown hbw
      generalize thM b (el a j) = z at *
      generalize el a j = x at *
      go_wp2_with (first
        | (go_at_call 47; refine (H1.out _ HO.out.2).mono ?_; rintro e w5 ⟨rfl, hb5⟩; have K5 : Hid (w5.ownsRow W.heap.size 30 2 u6 j (flat (R.take j)) ∧ Below W.heap.size W w5) := ⟨own_below HO.out.1 hb5, HO.out.2.trans (hb5.mono HO.out.2.size)⟩; clear hb5 HO x1 x0)
        | (at_builtin; refine wpList_append_own _ rfl _ _ 27 rfl W.heap.size 30 i0 (.agg #[.int .u64 0, .int .u64 0]) 2 16 Try.underlying27 HI.out.1 HI.out.2.1 HI.out.2.2.1 HI.out.2.2.2 rfl (by decide) _ _ _ rfl (own_below K5.out.1 (by go_grown)) ⟨w5.heap.size, 0, none⟩ 1 1 [.int .u64 (z.1 : Int), .int .u64 (z.2 : Int)] rfl rfl (fun p u hu => by rcases p with _ | _ | p <;> simp at hu <;> subst hu <;> simp [go_sem]) (by intro u hu; simp at hu; rcases hu with rfl | rfl <;> rfl) (by simp only [maxLen]; omega) (by omega) (by have := K5.out.2.size; simp; omega) ?_; intro v' w' hown' hgr _))
      refine ⟨⟨j + 1, hlt, by simp, ?_, ?_⟩, by simp [intOf]; omega⟩
      · rw [HE.out, flat_snoc]; exact hown'
      · exact (K5.out.2.alloc K5.out.2.size _).grown hgr (by have := K5.out.2.size; simp; omega) fun k hk => (K5.out.1.lt k hk).1
    · obtain rfl : j = n := by omega
      have hl := HLN.out
      rw [List.take_of_length_le (by omega), ← hl] at hown
      obtain ⟨a', cap', hv, hE⟩ := own_row hown
      rw [hl] at hv
      subst hv
      have HE := hidT (And.intro hE hbw)
      clear hown hbw hE hl
      go_wp2
      refine bodyPost_ret (v := .tuple #[.slice a' j cap', .int .i64 0]) (by simp [results, Try.results28, go_sem]) rfl ⟨_, _, rfl, HE.out.1, HE.out.2⟩
theorem rthen_all (a1 a2 : Option Addr) (c1 c2 : Nat) (a b : List (Nat × Nat)) (ha : ltE a) (hb : ltE b) (W : World) (hr : ERow W a1 a) (hr2 : ERow W a2 b) :
    Calls Try.prog 28 #[.slice a1 a.length c1, .slice a2 b.length c2] W fun e w' => ∃ s cp, e = .returned (.tuple #[.slice s (thL a b).length cp, .int .i64 (thE a b)]) ∧ ERow w' s (thL a b) ∧ Below W.heap.size W w' := by
  by_cases h : 128 < a.length ∨ 128 < b.length
  · have e1 : thE a b = 1 := if_pos h
    have e2 : thL a b = [] := by unfold thL; rw [e1]; rfl
    rw [e1, e2]
    refine (rthen_arg a1 a2 c1 c2 _ _ h W).mono ?_
    rintro e w' ⟨rfl, hb⟩
    exact ⟨none, 0, rfl, ⟨fun i hi => by simp at hi⟩, hb⟩
  · cases hf : fitL a b.length
    · have e1 : thE a b = 6 := by
        unfold thE
        rw [if_neg h, hf, if_neg (by decide)]
      have e2 : thL a b = [] := by unfold thL; rw [e1]; rfl
      rw [e1, e2]
      refine (rthen_size a1 a2 c1 c2 b.length a ha (by omega) (by omega) hf W hr).mono ?_
      rintro e w' ⟨rfl, hb⟩
      exact ⟨none, 0, rfl, ⟨fun i hi => by simp at hi⟩, hb⟩
    · have e1 : thE a b = 0 := by
        unfold thE
        rw [if_neg h, hf, if_pos rfl]
      have e2 : thL a b = a.map (thM b) := by unfold thL; rw [e1]; rfl
      rw [e1, e2]
      refine (rthen_ok a1 a2 c1 c2 a b ha hb (by omega) (by omega) hf W hr hr2).mono ?_
      rintro e w' ⟨s, cp, rfl, hE, hb⟩
      exact ⟨s, cp, by rw [List.length_map], hE, hb⟩
end Go.Proofs.Ytkllihomdlibgaa
