/- The contracts of the document's fits, Turn, Made, Apply and Then, and of span's Then, over the seat's translation. -/
import Derived.Test.YtkllihomdlibgaaSqO
namespace Go.Proofs.Ytkllihomdlibgaa
open Go.RowKit
open Cb Rg Sq

set_option maxHeartbeats 2000000 in
theorem rfits04 (a : Option Addr) (cap n : Nat) (es : List (Nat × Nat)) (hes : ltE es) (h10 : es.length ≤ 1000) (W : World) (hr : ERow W a es) :
    Calls Try.prog 49 #[.slice a es.length cap, .int .i64 (n : Int)] W fun e w' => e = .returned (.bool (fitL es n)) ∧ Below W.heap.size W w' := by
  have HR : Hid (ERow W a es) := hr
  have HO : Hid (∀ j : Nat, Ret 18 #[.agg #[.int .u64 ((el es j).1 : Int), .int .u64 ((el es j).2 : Int)]] (.int .i64 ((lngE (el es j) : Int) - 1))) := fun j => rlead04 _ (ltE_el hes j)
  clear hr hes
  go_enter Try.func49, Try.ntmps49
  go_wp2_with fail
  go_loopw [5] (fun u wr => ∃ j : Nat, j ≤ es.length ∧ u = .int .i64 j ∧ Hid (∀ i, i < j → lngE (el es i) ≤ n) ∧ Below W.heap.size W wr) (fun u _ => es.length - (intOf u).toNat)
  case atStart => exact ⟨0, Nat.zero_le _, rfl, (by show ∀ _, _; omega), Below.refl _ _⟩
  case round =>
    obtain ⟨j, hj, rfl, HN, hD⟩ := hrel
    by_cases hlt : j < es.length
    · obtain ⟨b, off, rfl, hb, c1, c0⟩ := HR.out.cells j hlt
      have d1 : wr.cell? ⟨b, off + j * 2, none⟩ = some (.int .u64 ((el es j).1 : Int)) := keepc hD c1
      have d0 : wr.cell? ⟨b, off + j * 2 + 1, none⟩ = some (.int .u64 ((el es j).2 : Int)) := keepc hD c0
      have H1 := hidT (HO.out j)
      have HD : Hid (Below W.heap.size W wr) := hD
      have HX : Hid (¬ lngE (el es j) ≤ n → fitL es n = false) := fun h => by
        rw [Bool.eq_false_iff]
        intro h2
        exact h ((fitL_iff _ _).1 h2 _ (el_lt hlt))
      have HM : Hid (lngE (el es j) ≤ n → ∀ i, i < j + 1 → lngE (el es i) ≤ n) := fun h i hi => by
        by_cases e : i = j
        · rw [e]; exact h
        · exact HN.out i (by omega)
      have j1 : (j : Int) < (es.length : Int) := by omega
      clear hD c1 c0 HR HO HN
      generalize el es j = x at *
      obtain ⟨L, hLL⟩ : ∃ L : Int, L = (lngE x : Int) - 1 := ⟨_, rfl⟩
      rw [← hLL] at H1
      by_cases hL : lngE x ≤ n
      · have hL2 : ¬ (n : Int) ≤ L := by omega
        have h3 := hidT (HM.out hL)
        clear HM HX hL hLL
        go_wp2_with (go_at_call 18; refine (H1.out.go _).mono ?_; rintro e w4 ⟨rfl, hb4⟩; have HD4 := hidT (HD.out.trans (hb4.mono HD.out.size)); clear hb4 d1 d0 HD)
        exact ⟨⟨j + 1, hlt, by simp, h3, HD4.out⟩, by simp [intOf]; omega⟩
      · have hL2 : (n : Int) ≤ L := by omega
        have h3 := hidT (HX.out hL)
        clear HM HX hL hLL
        go_wp2_with (go_at_call 18; refine (H1.out.go _).mono ?_; rintro e w4 ⟨rfl, hb4⟩; have HD4 := hidT (HD.out.trans (hb4.mono HD.out.size)); clear hb4 d1 d0 HD)
        go_ret
        exact ⟨by rw [h3.out]; rfl, HD4.out⟩
    · have HD : Hid (Below W.heap.size W wr) := hD
      obtain rfl : j = es.length := by omega
      have h3 : Hid (fitL es n = true) := by
        show _ = _
        rw [fitL_iff]
        intro e he
        obtain ⟨i, hi, rfl⟩ := mem_el he
        exact HN.out i hi
      clear hD
      go_wp2
      go_ret
      exact ⟨by rw [h3.out]; rfl, HD.out⟩
set_option maxHeartbeats 2000000 in
theorem rturn_arg (a : Option Addr) (cap M : Nat) (n : Int) (h : 128 < M ∨ n < 0 ∨ 128 < n) : Ret 33 #[.slice a M cap, .int .i64 n] (.tuple #[.slice none 0 0, .int .i64 1]) := by
  intro W
  by_cases h1 : 128 < M
  · have h1' : (128 : Int) < (M : Int) := by omega
    clear h h1
    go_enter Try.func33, Try.ntmps33
    go_wp2
    refine bodyPost_ret (v := .tuple #[.slice none 0 0, .int .i64 1]) (by simp [results, Try.results33, go_sem]) rfl ⟨rfl, by first | exact Below.refl _ _ | go_grown⟩
  · have h1' : ¬ (128 : Int) < (M : Int) := by omega
    by_cases h2 : n < 0
    · clear h h1
      go_enter Try.func33, Try.ntmps33
      go_wp2
      refine bodyPost_ret (v := .tuple #[.slice none 0 0, .int .i64 1]) (by simp [results, Try.results33, go_sem]) rfl ⟨rfl, by first | exact Below.refl _ _ | go_grown⟩
    · have h3 : 128 < n := by omega
      clear h h1
      go_enter Try.func33, Try.ntmps33
      go_wp2
      refine bodyPost_ret (v := .tuple #[.slice none 0 0, .int .i64 1]) (by simp [results, Try.results33, go_sem]) rfl ⟨rfl, by first | exact Below.refl _ _ | go_grown⟩
set_option maxHeartbeats 2000000 in
theorem rturn_size (a : Option Addr) (cap N : Nat) (l : List (Nat × Nat)) (hl : ltE l) (hM : l.length ≤ 128) (hN : N ≤ 128) (hf : fitL l N = false) (W : World) (hr : ERow W a l) :
    Calls Try.prog 33 #[.slice a l.length cap, .int .i64 (N : Int)] W fun e w' => e = .returned (.tuple #[.slice none 0 0, .int .i64 6]) ∧ Below W.heap.size W w' := by
  have HW := hidT (rfits04 a cap N l hl (by omega) W hr)
  rw [hf] at HW
  have n1 : ¬ (N : Int) < 0 := by omega
  have n2 : ¬ 128 < (N : Int) := by omega
  have n3 : ¬ 128 < (l.length : Int) := by omega
  clear hr hl hf
  go_enter Try.func33, Try.ntmps33
  go_wp2_with (go_at_call 49; refine HW.out.mono ?_; rintro e w2 ⟨rfl, hb2⟩; have D2 := hidT hb2; clear hb2)
  refine bodyPost_ret (v := .tuple #[.slice none 0 0, .int .i64 6]) (by simp [results, Try.results33, go_sem]) rfl ⟨rfl, D2.out⟩
/-- The row that is made, and the element at hand. -/
structure Rt (W w : World) (v : Value) (j q : Nat) (L : List (Nat × Nat)) (s : Nat × Nat) : Prop where
  o : w.ownsRow W.heap.size 30 2 v j (flat L)
  e : Ew w q s.1 s.2
  lo : W.heap.size ≤ q
  ne : v.ownBlock ≠ some q
  d : Below W.heap.size W w
theorem Rt.below {W w w' : World} {v : Value} {j q : Nat} {L : List (Nat × Nat)} {s : Nat × Nat} (h : Rt W w v j q L s) (hb : Below w.heap.size w w') : Rt W w' v j q L s := ⟨own_below h.o hb, h.e.below hb, h.lo, h.ne, h.d.trans (hb.mono h.d.size)⟩
theorem Rt.drew {W w : World} {v : Value} {j q : Nat} {L : List (Nat × Nat)} {s : Nat × Nat} (h : Rt W w v j q L s) : Rt W w.drew v j q L s := h.below (Below.refl _ _).drew
theorem Rt.put {W w : World} {v : Value} {j q : Nat} {L : List (Nat × Nat)} {s : Nat × Nat} (h : Rt W w v j q L s) (t : Nat × Nat) : Rt W ((w.setCell ⟨q, 0, none⟩ (.int .u64 (t.1 : Int))).setCell ⟨q, 1, none⟩ (.int .u64 (t.2 : Int))) v j q L t := by
  refine ⟨?_, h.e.set _ _, h.lo, h.ne, (h.d.setCell h.lo _).setCell h.lo _⟩
  exact own_keep (own_keep h.o fun g hg => Below.heap_setCell _ _ _ _ (fun e => h.ne (by rw [hg, e]))) fun g hg => Below.heap_setCell _ _ _ _ (fun e => h.ne (by rw [hg, e]))
theorem Rt.facts {W w : World} {v : Value} {j q : Nat} {L : List (Nat × Nat)} {s : Nat × Nat} (h : Rt W w v j q L s) : w.cell? ⟨q, 0, none⟩ = some (.int .u64 (s.1 : Int)) ∧ w.cell? ⟨q, 1, none⟩ = some (.int .u64 (s.2 : Int)) ∧ w.frozen? ⟨q, 0, none⟩ = false ∧ w.frozen? ⟨q, 1, none⟩ = false := ⟨h.e.hi, h.e.lo, h.e.fhi, h.e.flo⟩
theorem trm_take (l : List (Nat × Nat)) (M N j : Nat) (h : j < N) : (trm l M N).take (j + 1) = (trm l M N).take j ++ [tr l M j] := by
  rw [take_sn _ j (by rw [trm_len]; exact h)]
  congr 2
  exact trm_at l M N h
set_option maxHeartbeats 16000000 in
set_option maxRecDepth 100000 in
theorem rturn_ok (a : Option Addr) (cap N : Nat) (l : List (Nat × Nat)) (hl : ltE l) (hM : l.length ≤ 128) (hN : N ≤ 128) (hf : fitL l N = true) (W : World) (hr : ERow W a l) :
    Calls Try.prog 33 #[.slice a l.length cap, .int .i64 (N : Int)] W fun e w' => ∃ s cp, e = .returned (.tuple #[.slice s N cp, .int .i64 0]) ∧ w'.ownsRow W.heap.size 30 2 (.slice s N cp) N (flat (trm l l.length N)) ∧ Below W.heap.size W w' := by
  have HW := hidT (rfits04 a cap N l hl (by omega) W hr)
  rw [hf] at HW
  have n1 : ¬ (N : Int) < 0 := by omega
  have n2 : ¬ 128 < (N : Int) := by omega
  have n3 : ¬ 128 < (l.length : Int) := by omega
  have HR := hidT hr
  have HL : Hid (ltE l) := hl
  obtain ⟨i0, hi, hz0, hz1, hz2⟩ := info_relem
  have HI : Hid (Try.prog.info? 30 = some i0 ∧ i0.zero = some (.agg #[.int .u64 0, .int .u64 0]) ∧ i0.size = 2 ∧ i0.bytes = 16) := ⟨hi, hz0, hz1, hz2⟩
  clear hr hl hf hi hz0 hz1 hz2
  obtain ⟨M, hMM⟩ : ∃ M, M = l.length := ⟨_, rfl⟩
  rw [← hMM] at HW n3 hM ⊢
  have HML : Hid (l.length = M) := hMM.symm
  clear hMM
  go_enter Try.func33, Try.ntmps33
  go_wp2_with (go_at_call 49; refine HW.out.mono ?_; rintro e w2 ⟨rfl, hb2⟩; have D2 := hidT hb2; clear hb2)
  go_loopw [6, 7] (fun v u wr => ∃ j : Nat, j ≤ N ∧ u = .int .i64 j ∧ wr.ownsRow W.heap.size 30 2 v j (flat ((trm l M N).take j)) ∧ Below W.heap.size W wr) (fun _ u _ => N - (intOf u).toNat)
  case atStart => exact ⟨0, Nat.zero_le _, rfl, ⟨by simp [flat], .inl ⟨rfl, rfl⟩⟩, D2.out⟩
  case round =>
    obtain ⟨j, hj, rfl, hown, hbw⟩ := hrel
    clear D2
    by_cases hlt : j < N
    · have HTK := hidT (trm_take l M N j hlt)
      have j1 : (j : Int) < (N : Int) := by omega
      have j128 : j < 128 := by omega
      have K0 : Hid (Rt W (wr.alloc (Obj.cells #[.int .u64 0, .int .u64 0] 30)) u6 j wr.heap.size ((trm l M N).take j) (tr l 0 j)) := ⟨own_below hown ((Below.refl _ _).alloc (Nat.le_refl _) _), ⟨⟨by simp [go_sem, tr, xs], by simp [go_sem, tr, xs]⟩, by simp [go_sem], by simp [go_sem]⟩, hbw.size, fun e => Nat.lt_irrefl _ (hown.lt _ e).2, hbw.alloc hbw.size _⟩
      have HC : Hid (∀ i, i < M → ∃ b off, a = some ⟨b, off, none⟩ ∧ b < W.heap.size ∧ W.cell? ⟨b, off + i * 2, none⟩ = some (.int .u64 ((el l i).1 : Int)) ∧ W.cell? ⟨b, off + i * 2 + 1, none⟩ = some (.int .u64 ((el l i).2 : Int))) := fun i hi => HR.out.cells i (by rw [HML.out]; exact hi)
      clear hown hbw
      go_upto_region 10 with fail
      generalize wr.alloc (Obj.cells #[.int .u64 0, .int .u64 0] 30) = w3 at *
      generalize wr.heap.size = q at *
      go_wp2_with fail
      go_loopw [9] (fun u wr => ∃ i : Nat, i ≤ M ∧ u = .int .i64 i ∧ Hid (Rt W wr u6 j q ((trm l M N).take j) (tr l i j))) (fun u _ => M - (intOf u).toNat)
      case atStart => exact ⟨0, Nat.zero_le _, rfl, K0⟩
      case round =>
        obtain ⟨i, hi, rfl, HK⟩ := hrel
        clear K0
        by_cases hlt2 : i < M
        · obtain ⟨b, off, rfl, hb, c1, c0⟩ := HC.out i hlt2
          have HX := hidT (And.intro c1 c0)
          have x1 := keepc HK.out.d c1
          have x0 := keepc HK.out.d c0
          have hx : lt2 (el l i) := ltE_el HL.out i
          have H1 : Hid (Ret 19 #[.agg #[.int .u64 ((el l i).1 : Int), .int .u64 ((el l i).2 : Int)], .int .i64 (j : Int)] (.bool (hs (el l i) j))) := has_any _ _ _ hx.1 hx.2 j128
          have H2 := hidT (rbit_any (i : Int))
          have H3 : Hid (Ret 42 #[.agg #[.int .u64 ((tr l i j).1 : Int), .int .u64 ((tr l i j).2 : Int)], .agg #[.int .u64 ((bv (i : Int)).1 : Int), .int .u64 ((bv (i : Int)).2 : Int)]] (.agg #[.int .u64 ((xa (tr l i j) (bv (i : Int))).1 : Int), .int .u64 ((xa (tr l i j) (bv (i : Int))).2 : Int)])) := radd _ _ _ _ (lt_tr l i j).1 (lt_tr l i j).2 (bv_lt2 _).1 (bv_lt2 _).2
          have HS : Hid (tr l (i + 1) j = if hs (el l i) j = true then xa (tr l i j) (bv (i : Int)) else tr l i j) := by
            show xa (tr l i j) (sl (hs (el l i) j) (bv (i : Int))) = _
            cases hs (el l i) j
            · exact xa_zero _
            · rfl
          have i1 : (i : Int) < (M : Int) := by omega
          clear c1 c0 hx
          generalize hs (el l i) j = bb at *
          generalize xa (tr l i j) (bv (i : Int)) = z at *
          generalize bv (i : Int) = bi at *
          generalize el l i = x at *
          generalize tr l i j = y at *
          cases bb
          · have HS2 : Hid (tr l (i + 1) j = y) := by show _ = _; rw [HS.out]; rfl
            clear HS H2 H3
            go_wp2_with (go_at_call 19; refine (H1.out.go _).mono ?_; rintro e w4 ⟨rfl, hb4⟩; have K4 := hidT (HK.out.below hb4); clear hb4 x1 x0 HK)
            exact ⟨⟨i + 1, hlt2, by simp, by rw [HS2.out]; exact K4⟩, by simp [intOf]; omega⟩
          · have HS2 : Hid (tr l (i + 1) j = z) := by show _ = _; rw [HS.out]; rfl
            clear HS
            go_upto_region 14 with (go_at_call 19; refine (H1.out.go _).mono ?_; rintro e w4 ⟨rfl, hb4⟩; have K := hidT (HK.out.below hb4); clear hb4 x1 x0 HK)
            obtain ⟨y1, y0, t1, t0⟩ := K.out.facts
            go_region_with (first
              | (go_at_call 41; refine (H2.out.go _).mono ?_; rintro e w' ⟨rfl, hb'⟩; have K'' := hidT (Rt.below (w' := w') (by first | exact K.out | exact K.out.drew) hb'); clear y1 y0 t1 t0 K hb'; have K := K''; clear K''; obtain ⟨y1, y0, t1, t0⟩ := K.out.facts)
              | (go_at_call 42; refine (H3.out.go _).mono ?_; rintro e w' ⟨rfl, hb'⟩; have K'' := hidT (Rt.below (w' := w') (by first | exact K.out | exact K.out.drew) hb'); clear y1 y0 t1 t0 K hb'; have K := K''; clear K''; obtain ⟨y1, y0, t1, t0⟩ := K.out.facts))
            all_goals
              go_wp2
              exact ⟨⟨i + 1, hlt2, by simp, by rw [HS2.out]; exact K.out.put _⟩, by simp [intOf]; omega⟩
        · obtain rfl : i = M := by omega
          obtain ⟨y1, y0, t1, t0⟩ := HK.out.facts
          have hq := HK.out.lo
          have hq2 := HK.out.e.toEl.lt
          have hd := HK.out.d.size
          clear HC
          generalize tr l i j = y at *
          go_wp2_with (at_builtin; refine wpList_append_own _ rfl _ _ 27 rfl W.heap.size 30 i0 (.agg #[.int .u64 0, .int .u64 0]) 2 16 Try.underlying27 HI.out.1 HI.out.2.1 HI.out.2.2.1 HI.out.2.2.2 rfl (by decide) _ _ _ rfl (own_below HK.out.o (by go_grown)) ⟨wr.heap.size, 0, none⟩ 1 1 [.int .u64 (y.1 : Int), .int .u64 (y.2 : Int)] rfl rfl (fun p u hu => by rcases p with _ | _ | p <;> simp at hu <;> subst hu <;> simp [go_sem]) (by intro u hu; simp at hu; rcases hu with rfl | rfl <;> rfl) (by simp only [maxLen]; omega) (by omega) (by simp; omega) ?_; intro v' w' hown' hgr _)
          refine ⟨⟨j + 1, hlt, by simp, ?_, ?_⟩, by simp [intOf]; omega⟩
          · rw [HTK.out, flat_snoc]; exact hown'
          · exact (HK.out.d.alloc hd _).grown hgr (by simp; omega) fun k hk => (HK.out.o.lt k hk).1
    · obtain rfl : j = N := by omega
      rw [List.take_of_length_le (by rw [trm_len]; exact Nat.le_refl _)] at hown
      obtain ⟨a', cap', hv⟩ := own_slc hown
      subst hv
      have HE := hidT hown
      have HB := hidT hbw
      clear hown hbw
      go_wp2
      refine bodyPost_ret (v := .tuple #[.slice a' j cap', .int .i64 0]) (by simp [results, Try.results33, go_sem]) rfl ⟨_, _, rfl, HE.out, HB.out⟩
theorem rturn_all (a : Option Addr) (cap : Nat) (n : Int) (l : List (Nat × Nat)) (hl : ltE l) (W : World) (hr : ERow W a l) :
    Calls Try.prog 33 #[.slice a l.length cap, .int .i64 n] W fun e w' => ∃ s cp, e = .returned (.tuple #[.slice s (tuL l n).length cp, .int .i64 (tuE l n)]) ∧ ERow w' s (tuL l n) ∧ Below W.heap.size W w' := by
  by_cases h : 128 < l.length ∨ n < 0 ∨ 128 < n
  · have e1 : tuE l n = 1 := if_pos h
    have e2 : tuL l n = [] := by unfold tuL; rw [e1]; rfl
    rw [e1, e2]
    refine (rturn_arg a cap l.length n h W).mono ?_
    rintro e w' ⟨rfl, hb⟩
    exact ⟨none, 0, rfl, ⟨fun i hi => by simp at hi⟩, hb⟩
  · obtain ⟨N, rfl⟩ : ∃ N : Nat, n = (N : Int) := ⟨n.toNat, by omega⟩
    have hN : N ≤ 128 := by omega
    have hM : l.length ≤ 128 := by omega
    cases hf : fitL l N
    · have e1 : tuE l (N : Int) = 6 := by
        unfold tuE
        rw [if_neg h, Int.toNat_natCast, hf, if_neg (by decide)]
      have e2 : tuL l (N : Int) = [] := by unfold tuL; rw [e1]; rfl
      rw [e1, e2]
      refine (rturn_size a cap N l hl hM hN hf W hr).mono ?_
      rintro e w' ⟨rfl, hb⟩
      exact ⟨none, 0, rfl, ⟨fun i hi => by simp at hi⟩, hb⟩
    · have e1 : tuE l (N : Int) = 0 := by
        unfold tuE
        rw [if_neg h, Int.toNat_natCast, hf, if_pos rfl]
      have e2 : tuL l (N : Int) = trm l l.length N := by unfold tuL; rw [e1, Int.toNat_natCast]; rfl
      rw [e1, e2]
      refine (rturn_ok a cap N l hl hM hN hf W hr).mono ?_
      rintro e w' ⟨s, cp, rfl, ho, hb⟩
      have hlen := trm_len l l.length N
      obtain ⟨s', cp', e', hE⟩ := own_row (es := trm l l.length N) (by rw [hlen]; exact ho)
      rw [hlen] at e'
      injection e' with e' _ _
      subst e'
      exact ⟨s, cp, by rw [hlen], hE, hb⟩
end Go.Proofs.Ytkllihomdlibgaa
