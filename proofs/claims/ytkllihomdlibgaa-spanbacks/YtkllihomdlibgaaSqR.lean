/- The contracts of the document's Made, Apply and Then, and of span's Then, over the seat's translation. -/
import Derived.Test.YtkllihomdlibgaaSqP
namespace Go.Proofs.Ytkllihomdlibgaa
open Go.RowKit
open Cb Rg Sq

set_option maxHeartbeats 4000000 in
set_option maxRecDepth 100000 in
theorem rmade04 (a : Option Addr) (cap : Nat) (m : List (Nat × Nat)) (x : Nat × Nat) (hm : ltE m) (hx : lt2 x) (h128 : m.length ≤ 128) (W : World) (hr : ERow W a m) :
    Calls Try.prog 47 #[.slice a m.length cap, .agg #[.int .u64 (x.1 : Int), .int .u64 (x.2 : Int)]] W fun e w' => e = .returned (.agg #[.int .u64 ((mdv m.length m x).1 : Int), .int .u64 ((mdv m.length m x).2 : Int)]) ∧ Below W.heap.size W w' := by
  have HR : Hid (ERow W a m) := hr
  have HH : Hid (∀ j : Nat, j < m.length → Ret 19 #[.agg #[.int .u64 (x.1 : Int), .int .u64 (x.2 : Int)], .int .i64 (j : Int)] (.bool (hs x j))) := fun j hj => has_any _ _ j hx.1 hx.2 (by omega)
  have HA : Hid (∀ j : Nat, Ret 42 #[.agg #[.int .u64 ((mdv j m x).1 : Int), .int .u64 ((mdv j m x).2 : Int)], .agg #[.int .u64 ((el m j).1 : Int), .int .u64 ((el m j).2 : Int)]] (.agg #[.int .u64 ((xa (mdv j m x) (el m j)).1 : Int), .int .u64 ((xa (mdv j m x) (el m j)).2 : Int)])) := fun j => radd _ _ _ _ (lt_mdv j hm x).1 (lt_mdv j hm x).2 (ltE_el hm j).1 (ltE_el hm j).2
  have HS : Hid (∀ j : Nat, mdv (j + 1) m x = if hs x j = true then xa (mdv j m x) (el m j) else mdv j m x) := fun j => by
    show xa (mdv j m x) (sl (hs x j) (el m j)) = _
    cases hs x j
    · simp [sl, xa_zero]
    · simp [sl]
  clear hr hm hx
  obtain ⟨N, hN⟩ : ∃ N, N = m.length := ⟨_, rfl⟩
  rw [← hN] at HH h128 ⊢
  have HNL : Hid (m.length = N) := hN.symm
  clear hN
  go_enter Try.func47, Try.ntmps47
  go_wp2_with fail
  have K0 : Hid (Md W (((W.alloc (Obj.cells #[.int .u64 (x.1 : Int), .int .u64 (x.2 : Int)] 30)).alloc (Obj.cells #[.int .u64 0, .int .u64 0] 30)).alloc (Obj.cells #[.int .u64 0, .int .u64 0] 30)) x (mdv 0 m x)) := ⟨⟨⟨by simp [go_sem], by simp [go_sem]⟩, by simp [go_sem], by simp [go_sem]⟩, ⟨⟨by simp [go_sem], by simp [go_sem]⟩, by simp [go_sem], by simp [go_sem]⟩, ⟨⟨by simp [go_sem, mdv, xs], by simp [go_sem, mdv, xs]⟩, by simp [go_sem], by simp [go_sem]⟩, by go_grown⟩
  go_loopw [6] (fun u wr => ∃ j : Nat, j ≤ N ∧ u = .int .i64 j ∧ Hid (Md W wr x (mdv j m x))) (fun u _ => N - (intOf u).toNat)
  case atStart => exact ⟨0, Nat.zero_le _, rfl, K0⟩
  case round =>
    obtain ⟨j, hj, rfl, HK⟩ := hrel
    clear K0
    by_cases hlt : j < N
    · obtain ⟨b, off, rfl, hb, c1, c0⟩ := HR.out.cells j (by rw [HNL.out]; exact hlt)
      have HAc : Hid (b < W.heap.size ∧ W.cell? ⟨b, off + j * 2, none⟩ = some (.int .u64 ((el m j).1 : Nat)) ∧ W.cell? ⟨b, off + j * 2 + 1, none⟩ = some (.int .u64 ((el m j).2 : Nat))) := ⟨hb, c1, c0⟩
      have H1 := HH.out j hlt
      have H2 := HA.out j
      have H3 := hidT (HS.out j)
      have j1 : (j : Int) < (N : Int) := by omega
      have j0 : (0 : Int) ≤ (j : Int) := by omega
      obtain ⟨⟨x1, x0⟩, _, _⟩ := HK.out.x
      clear hb c1 c0 HR HH HA HS
      generalize mdv j m x = s at *
      generalize el m j = y at *
      cases hB : hs x j
      · rw [hB] at H1
        rw [hB] at H3
        have hs' : mdv (j + 1) m x = s := by have := H3.out; simpa using this
        go_wp2_with (go_at_call 19; refine (H1.go _).mono ?_; rintro e w2 ⟨rfl, hb2⟩)
        refine ⟨⟨j + 1, hlt, by simp, ?_⟩, by simp [intOf]; omega⟩
        rw [hs']
        exact HK.out.below hb2
      · rw [hB] at H1
        rw [hB] at H3
        have hs' : Hid (mdv (j + 1) m x = xa s y) := by show _ = _; have := H3.out; simpa using this
        go_upto_region 6 with (go_at_call 19; refine (H1.go _).mono ?_; rintro e w2 ⟨rfl, hb2⟩)
        have K : Md W w2 x s := HK.out.below hb2
        clear hb2 HK x1 x0
        obtain ⟨y1, y0, s1, s0, t1, t0⟩ := K.facts HAc.out
        go_region_with (go_at_call 42; refine (H2.go _).mono ?_; rintro e w' ⟨rfl, hb'⟩; have K'' := Md.below (w' := w') (by first | exact K | exact K.drew) hb'; clear y1 y0 s1 s0 t1 t0 K hb'; have K := K''; clear K''; (try simp only [World.size_drew] at K); obtain ⟨y1, y0, s1, s0, t1, t0⟩ := K.facts HAc.out)
        all_goals
          go_wp2
          refine ⟨⟨j + 1, hlt, by simp, ?_⟩, by simp [intOf]; omega⟩
          rw [hs'.out]
          exact K.put _
    · obtain rfl : j = N := by omega
      have HD : Hid (Below W.heap.size W wr) := HK.out.d
      obtain ⟨⟨o1, o0⟩, _, _⟩ := HK.out.s
      obtain ⟨⟨r1, r0⟩, t1, t0⟩ := HK.out.r
      obtain ⟨s, hs⟩ : ∃ s, s = mdv j m x := ⟨_, rfl⟩
      have HSS : Hid (s = mdv j m x) := hs
      rw [← hs] at o1 o0
      clear HK HR HS HA HH hs
      go_wp2
      refine bodyPost_ret (v := .agg #[.int .u64 (s.1 : Int), .int .u64 (s.2 : Int)]) (by simp [results, Try.results47, go_sem, *]) rfl ⟨by rw [HSS.out], ?_⟩
      exact below2 (p := W.heap.size + 1) HD.out (by omega) _ _
/-- What hinders one map behind another one, and what it makes. -/
def thE (a b : List (Nat × Nat)) : Int := if 128 < a.length ∨ 128 < b.length then 1 else if fitL a b.length = true then 0 else 6
def thM (b : List (Nat × Nat)) (x : Nat × Nat) : Nat × Nat := mdv b.length b x
def thL (a b : List (Nat × Nat)) : List (Nat × Nat) := if thE a b = 0 then a.map (thM b) else []
theorem lt_thL (a : List (Nat × Nat)) {b : List (Nat × Nat)} (hb : ltE b) : ltE (thL a b) := by
  unfold thL; split
  · exact fun e he => by
      obtain ⟨x, _, rfl⟩ := List.mem_map.1 he
      exact lt_mdv _ hb x
  · exact fun e he => by simp at he
theorem thm_at (a b : List (Nat × Nat)) {i : Nat} (h : i < a.length) : el (a.map (thM b)) i = thM b (el a i) := by simp [el, List.getD, h]
theorem thm_take (a b : List (Nat × Nat)) {j : Nat} (h : j < a.length) : (a.map (thM b)).take (j + 1) = (a.map (thM b)).take j ++ [thM b (el a j)] := by
  rw [take_sn _ j (by rw [List.length_map]; exact h)]
  congr 2
  exact thm_at a b h
set_option maxHeartbeats 2000000 in
theorem then_arg (a1 a2 : Option Addr) (c1 c2 n m : Nat) (h : 128 < n ∨ 128 < m) : Ret 27 #[.slice a1 n c1, .slice a2 m c2] (.tuple #[.slice none 0 0, .int .i64 1]) := by
  intro W
  by_cases h1 : 128 < n
  · have HM := hidT (smap_no a1 n c1 h1)
    clear h
    go_enter Try.func27, Try.ntmps27
    go_wp2_with (go_at_call 44; refine (HM.out.go _).mono ?_; rintro e w1 ⟨rfl, hb1⟩; have D1 := hidT hb1; clear hb1)
    refine bodyPost_ret (v := .tuple #[.slice none 0 0, .int .i64 1]) (by simp [results, Try.results27, go_sem]) rfl ⟨rfl, D1.out⟩
  · have HM := hidT (smap_yes a1 n c1 (by omega))
    have HM2 := hidT (smap_no a2 m c2 (by omega))
    clear h h1
    go_enter Try.func27, Try.ntmps27
    go_wp2_with fail
    refine (HM.out.go _).mono ?_
    rintro e w1 ⟨rfl, hb1⟩
    have D1 := hidT hb1
    clear hb1
    go_wp2_with fail
    refine (HM2.out.go _).mono ?_
    rintro e w2 ⟨rfl, hb2⟩
    have D2 := hidT (D1.out.trans (hb2.mono D1.out.size))
    clear hb2
    go_wp2
    refine bodyPost_ret (v := .tuple #[.slice none 0 0, .int .i64 1]) (by simp [results, Try.results27, go_sem]) rfl ⟨rfl, D2.out⟩
set_option maxHeartbeats 2000000 in
theorem then_size (a1 a2 : Option Addr) (c1 c2 m : Nat) (a : List (Nat × Nat)) (ha : ltE a) (hn : a.length ≤ 128) (hm : m ≤ 128) (hf : fitL a m = false) (W : World) (hr : ERow W a1 a) :
    Calls Try.prog 27 #[.slice a1 a.length c1, .slice a2 m c2] W fun e w' => e = .returned (.tuple #[.slice none 0 0, .int .i64 6]) ∧ Below W.heap.size W w' := by
  have HM := hidT (smap_yes a1 a.length c1 hn)
  have HM2 := hidT (smap_yes a2 m c2 hm)
  have HW : Hid (∀ w, Below W.heap.size W w → Calls Try.prog 48 #[.slice a1 a.length c1, .int .i64 (m : Int)] w fun e w' => e = .returned (.bool false) ∧ Below w.heap.size w w') := fun w hw => by
    have := within_any a1 c1 m a ha (by omega) w (hr.below hw)
    rwa [hf] at this
  clear ha hf hr
  go_enter Try.func27, Try.ntmps27
  go_wp2_with fail
  refine (HM.out.go _).mono ?_
  rintro e w1 ⟨rfl, hb1⟩
  have D1 := hidT hb1
  clear hb1
  go_wp2_with fail
  refine (HM2.out.go _).mono ?_
  rintro e w2 ⟨rfl, hb2⟩
  have D2 := hidT (D1.out.trans (hb2.mono D1.out.size))
  clear hb2 D1
  go_wp2_with fail
  refine (HW.out _ D2.out).mono ?_
  rintro e w3 ⟨rfl, hb3⟩
  have D3 := hidT (D2.out.trans (hb3.mono D2.out.size))
  clear hb3
  go_wp2
  refine bodyPost_ret (v := .tuple #[.slice none 0 0, .int .i64 6]) (by simp [results, Try.results27, go_sem]) rfl ⟨rfl, D3.out⟩
set_option maxHeartbeats 8000000 in
set_option maxRecDepth 100000 in
theorem then_ok (a1 a2 : Option Addr) (c1 c2 : Nat) (a b : List (Nat × Nat)) (ha : ltE a) (hb : ltE b) (hn : a.length ≤ 128) (hm : b.length ≤ 128) (hf : fitL a b.length = true) (W : World) (hr : ERow W a1 a) (hr2 : ERow W a2 b) :
    Calls Try.prog 27 #[.slice a1 a.length c1, .slice a2 b.length c2] W fun e w' => ∃ g, e = .returned (.tuple #[.slice (some ⟨g, 0, none⟩) a.length a.length, .int .i64 0]) ∧ ERow w' (some ⟨g, 0, none⟩) (a.map (thM b)) ∧ Below W.heap.size W w' := by
  have HM := hidT (smap_yes a1 a.length c1 hn)
  have HM2 := hidT (smap_yes a2 b.length c2 hm)
  have HW : Hid (∀ w, Below W.heap.size W w → Calls Try.prog 48 #[.slice a1 a.length c1, .int .i64 (b.length : Int)] w fun e w' => e = .returned (.bool true) ∧ Below w.heap.size w w') := fun w hw => by
    have := within_any a1 c1 b.length a ha (by omega) w (hr.below hw)
    rwa [hf] at this
  have HD : Hid (∀ j, j < a.length → ∀ w, Below W.heap.size W w → Calls Try.prog 46 #[.slice a2 b.length c2, .agg #[.int .u64 ((el a j).1 : Int), .int .u64 ((el a j).2 : Int)]] w fun e w' => e = .returned (.agg #[.int .u64 ((thM b (el a j)).1 : Int), .int .u64 ((thM b (el a j)).2 : Int)]) ∧ Below w.heap.size w w') := fun j hj w hw => by
    have hx := ltE_el ha j
    have hl := (fitL_iff _ _).1 hf _ (el_lt hj)
    have := smade a2 c2 b (el a j) hb hx hm hl w (hr2.below hw)
    rwa [mdv_long b (el a j) hx _ hl] at this
  have HR := hidT hr
  have HL : Hid (∀ j, j < a.length → el (a.map (thM b)) j = thM b (el a j)) := fun j hj => thm_at a b hj
  have HLN : Hid ((a.map (thM b)).length = a.length) := List.length_map _
  obtain ⟨i0, hi0, hz0, hz1, hz2⟩ := info_elem
  have HI : Hid (Try.prog.info? 25 = some i0 ∧ i0.zero = some (.agg #[.int .u64 0, .int .u64 0]) ∧ i0.size = 2 ∧ i0.bytes = 16) := ⟨hi0, hz0, hz1, hz2⟩
  clear ha hb hf hr hr2 hi0 hz0 hz1 hz2 hm
  generalize a.map (thM b) = R at *
  obtain ⟨n, hnn⟩ : ∃ n, n = a.length := ⟨_, rfl⟩
  rw [← hnn] at HM HW HD HL HLN hn ⊢
  have HAL : Hid (a.length = n) := hnn.symm
  clear hnn
  go_enter Try.func27, Try.ntmps27
  go_wp2_with fail
  refine (HM.out.go _).mono ?_
  rintro e w1 ⟨rfl, hb1⟩
  have D1 := hidT hb1
  clear hb1
  go_wp2_with fail
  refine (HM2.out.go _).mono ?_
  rintro e w2 ⟨rfl, hb2⟩
  have D2 := hidT (D1.out.trans (hb2.mono D1.out.size))
  clear hb2 D1
  go_wp2_with fail
  refine (HW.out _ D2.out).mono ?_
  rintro e w3 ⟨rfl, hb3⟩
  have D3 := hidT (D2.out.trans (hb3.mono D2.out.size))
  clear hb3 D2
  go_wp2_with (at_make; refine wpList_make_full _ rfl _ _ 22 rfl 0 25 i0 (.agg #[.int .u64 0, .int .u64 0]) 2 Try.underlying22 HI.out.1 HI.out.2.1 HI.out.2.2.1 .i64 .i64 _ _ n rfl rfl rfl rfl (by rw [HI.out.2.2.2]; omega) (by simp only [maxLen]; omega) (Nat.zero_le _) ?_; intro w4 own4 hgr4; have K0 : Hid (Tn w3 w4 n (fun j => if j < 0 then el R j else (0, 0))) := Tn.start own4 hgr4 _ (fun c _ => if_neg (by omega)); clear own4 hgr4)
  go_loopw [26] (fun u wr => ∃ i : Nat, i ≤ n ∧ u = .int .i64 i ∧ Hid (Tn w3 wr n (fun j => if j < i then el R j else (0, 0)))) (fun u _ => n - (intOf u).toNat)
  case atStart => exact ⟨0, Nat.zero_le _, rfl, K0⟩
  case round =>
    obtain ⟨i, hi, rfl, HK⟩ := hrel
    clear K0
    by_cases hlt : i < n
    · obtain ⟨b', off, rfl, hb', d1, d0⟩ := HR.out.cells i (by rw [HAL.out]; exact hlt)
      have DW := hidT (D3.out.trans (HK.out.d.mono D3.out.size))
      have x1 : wr.cell? ⟨b', off + i * 2, none⟩ = some (.int .u64 ((el a i).1 : Int)) := keepc DW.out d1
      have x0 : wr.cell? ⟨b', off + i * 2 + 1, none⟩ = some (.int .u64 ((el a i).2 : Int)) := keepc DW.out d0
      have H1 := hidT (HD.out i hlt)
      have HE : Hid (el R i = thM b (el a i)) := HL.out i hlt
      have i1 : (i : Int) < (n : Int) := by omega
      have hl1 := HK.out.row.lt
      clear d1 d0 HD HL HR HM HM2 HW HI
      generalize thM b (el a i) = z at *
      generalize el a i = x at *
      go_wp2_with (go_at_call 46; refine (H1.out _ DW.out).mono ?_; rintro e w5 ⟨rfl, hb5⟩; have K5 := hidT (HK.out.below hb5); obtain ⟨f1, f0, g1, g0⟩ := K5.out.facts i hlt; have hl5 := K5.out.row.lt; clear hb5 HK x1 x0)
      refine ⟨⟨i + 1, hlt, by simp, ?_⟩, by simp [intOf]; omega⟩
      exact K5.out.put i z _ fun c _ => by
        by_cases h2 : c = i
        · rw [if_pos (by omega), if_pos h2, h2, HE.out]
        · rw [if_neg h2]
          by_cases h1 : c < i
          · rw [if_pos h1, if_pos (by omega)]
          · rw [if_neg h1, if_neg (by omega)]
    · obtain rfl : i = n := by omega
      have HZ : Hid (ERow wr (some ⟨w3.heap.size, 0, none⟩) R ∧ Below W.heap.size W wr) := ⟨HK.out.erow HLN.out fun c hc => by rw [if_pos hc], D3.out.trans (HK.out.d.mono D3.out.size)⟩
      clear HK
      go_wp2
      refine bodyPost_ret (v := .tuple #[.slice (some ⟨w3.heap.size, 0, none⟩) i i, .int .i64 0]) (by simp [results, Try.results27, go_sem, *]) rfl ⟨_, rfl, HZ.out.1, HZ.out.2⟩
theorem then_all (a1 a2 : Option Addr) (c1 c2 : Nat) (a b : List (Nat × Nat)) (ha : ltE a) (hb : ltE b) (W : World) (hr : ERow W a1 a) (hr2 : ERow W a2 b) :
    Calls Try.prog 27 #[.slice a1 a.length c1, .slice a2 b.length c2] W fun e w' => ∃ s cp, e = .returned (.tuple #[.slice s (thL a b).length cp, .int .i64 (thE a b)]) ∧ ERow w' s (thL a b) ∧ Below W.heap.size W w' := by
  by_cases h : 128 < a.length ∨ 128 < b.length
  · have e1 : thE a b = 1 := if_pos h
    have e2 : thL a b = [] := by unfold thL; rw [e1]; rfl
    rw [e1, e2]
    refine (then_arg a1 a2 c1 c2 _ _ h W).mono ?_
    rintro e w' ⟨rfl, hb⟩
    exact ⟨none, 0, rfl, ⟨fun i hi => by simp at hi⟩, hb⟩
  · cases hf : fitL a b.length
    · have e1 : thE a b = 6 := by
        unfold thE
        rw [if_neg h, hf, if_neg (by decide)]
      have e2 : thL a b = [] := by unfold thL; rw [e1]; rfl
      rw [e1, e2]
      refine (then_size a1 a2 c1 c2 b.length a ha (by omega) (by omega) hf W hr).mono ?_
      rintro e w' ⟨rfl, hb⟩
      exact ⟨none, 0, rfl, ⟨fun i hi => by simp at hi⟩, hb⟩
    · have e1 : thE a b = 0 := by
        unfold thE
        rw [if_neg h, hf, if_pos rfl]
      have e2 : thL a b = a.map (thM b) := by unfold thL; rw [e1]; rfl
      rw [e1, e2]
      refine (then_ok a1 a2 c1 c2 a b ha hb (by omega) (by omega) hf W hr hr2).mono ?_
      rintro e w' ⟨g, rfl, hE, hb⟩
      exact ⟨_, a.length, by rw [List.length_map], hE, hb⟩
end Go.Proofs.Ytkllihomdlibgaa
