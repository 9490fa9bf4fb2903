/- Contracts of tower.Dot and steepleref02.Dot over the seat's translation: the walks. -/
import Derived.Test.YtcejppibcemdeaaPWvD
import Derived.Test.YtcejppibcemdeaaTwBl
import Derived.Test.YtcejppibcemdeaaPTwMx
import Derived.Test.YtcejppibcemdeaaRfE
namespace Go.Proofs.Ytcejppibcemdeaa
open Go.RowKit

/-- A room and a sum, as Dot lays them. -/
structure Dst (W w : World) (sh sl : Nat) : Prop where
  r : Ew w W.heap.size 0 0
  s : Ew w (W.heap.size + 1) sh sl
  d : Below W.heap.size W w
theorem Dst.below {W w w' : World} {sh sl : Nat} (h : Dst W w sh sl) (hb : Below w.heap.size w w') : Dst W w' sh sl := ⟨h.r.below hb, h.s.below hb, h.d.trans (hb.mono h.d.size)⟩
theorem Dst.drew {W w : World} {sh sl : Nat} (h : Dst W w sh sl) : Dst W w.drew sh sl := ⟨h.r.drew, h.s.drew, h.d.drew⟩
theorem Dst.put {W w : World} {sh sl : Nat} (h : Dst W w sh sl) (u v : Nat) : Dst W ((w.setCell ⟨W.heap.size + 1, 0, none⟩ (.int .u64 (u : Int))).setCell ⟨W.heap.size + 1, 1, none⟩ (.int .u64 (v : Int))) u v :=
  ⟨h.r.other (by omega) _ _, h.s.set _ _, below2 (p := W.heap.size + 1) h.d (by omega) _ _⟩
theorem Dst.facts {W w : World} {sh sl b o b2 o2 x1 x0 y1 y0 : Nat} (h : Dst W w sh sl)
    (A : b < W.heap.size ∧ W.cell? ⟨b, o, none⟩ = some (.int .u64 (x1 : Int)) ∧ W.cell? ⟨b, o + 1, none⟩ = some (.int .u64 (x0 : Int)))
    (C : b2 < W.heap.size ∧ W.cell? ⟨b2, o2, none⟩ = some (.int .u64 (y1 : Int)) ∧ W.cell? ⟨b2, o2 + 1, none⟩ = some (.int .u64 (y0 : Int))) :
    w.cell? ⟨b, o, none⟩ = some (.int .u64 (x1 : Int)) ∧ w.cell? ⟨b, o + 1, none⟩ = some (.int .u64 (x0 : Int)) ∧ w.cell? ⟨b2, o2, none⟩ = some (.int .u64 (y1 : Int)) ∧ w.cell? ⟨b2, o2 + 1, none⟩ = some (.int .u64 (y0 : Int)) ∧ w.cell? ⟨W.heap.size + 1, 0, none⟩ = some (.int .u64 (sh : Int)) ∧ w.cell? ⟨W.heap.size + 1, 1, none⟩ = some (.int .u64 (sl : Int)) ∧ w.frozen? ⟨W.heap.size + 1, 0, none⟩ = false ∧ w.frozen? ⟨W.heap.size + 1, 1, none⟩ = false :=
  ⟨by rw [h.d.cell (p := ⟨b, o, none⟩) A.1]; exact A.2.1, by rw [h.d.cell (p := ⟨b, o + 1, none⟩) A.1]; exact A.2.2, by rw [h.d.cell (p := ⟨b2, o2, none⟩) C.1]; exact C.2.1, by rw [h.d.cell (p := ⟨b2, o2 + 1, none⟩) C.1]; exact C.2.2, h.s.hi, h.s.lo, h.s.fhi, h.s.flo⟩
set_option maxHeartbeats 4000000 in
set_option maxRecDepth 100000 in
theorem dot_core (l : Int) (a c : Option Addr) (cap cap2 : Nat) (es fs : List (Nat × Nat)) (W : World) (hra : ERow W a es) (hrc : ERow W c fs) (hlen : fs.length = es.length) (h30 : es.length ≤ 1000) (oa ob : Nat → Bool) (pv sv : Nat → Nat × Nat) (r : Nat × Nat)
    (OA : Hid (∀ j : Nat, j < es.length → Ret 33 #[.int .i64 l, .agg #[.int .u64 ((es.getD j (0, 0)).1 : Int), .int .u64 ((es.getD j (0, 0)).2 : Int)]] (.bool (oa j))))
    (OB : Hid (∀ j : Nat, j < es.length → Ret 33 #[.int .i64 l, .agg #[.int .u64 ((fs.getD j (0, 0)).1 : Int), .int .u64 ((fs.getD j (0, 0)).2 : Int)]] (.bool (ob j))))
    (PR : Hid (∀ j : Nat, j < es.length → Ret 61 #[.agg #[.int .u64 ((es.getD j (0, 0)).1 : Int), .int .u64 ((es.getD j (0, 0)).2 : Int)], .agg #[.int .u64 ((fs.getD j (0, 0)).1 : Int), .int .u64 ((fs.getD j (0, 0)).2 : Int)]] (.agg #[.int .u64 ((pv j).1 : Int), .int .u64 ((pv j).2 : Int)])))
    (AD : Hid (∀ j : Nat, j < es.length → Ret 56 #[.agg #[.int .u64 ((sv j).1 : Int), .int .u64 ((sv j).2 : Int)], .agg #[.int .u64 ((pv j).1 : Int), .int .u64 ((pv j).2 : Int)]] (.agg #[.int .u64 ((sv (j + 1)).1 : Int), .int .u64 ((sv (j + 1)).2 : Int)])))
    (S0 : Hid (sv 0 = (0, 0))) (RF : Hid (∀ j : Nat, j < es.length → (oa j = false ∨ ob j = false) → r = (0, 0))) (RT : Hid ((∀ j : Nat, j < es.length → oa j = true ∧ ob j = true) → r = sv es.length)) :
    Calls Try.prog 48 #[.int .i64 l, .slice a es.length cap, .slice c fs.length cap2] W fun e w' => e = .returned (.agg #[.int .u64 (r.1 : Int), .int .u64 (r.2 : Int)]) ∧ Below W.heap.size W w' := by
  have HRA : Hid (ERow W a es) := hra
  have HRC : Hid (ERow W c fs) := hrc
  have HL : Hid (fs.length = es.length) := hlen
  clear hra hrc
  rw [hlen]
  clear hlen
  go_enter Try.func48, Try.ntmps48
  go_wp2_with fail
  go_loopw [17] (fun u wr => ∃ j : Nat, j ≤ es.length ∧ u = .int .i64 j ∧ Hid (∀ m : Nat, m < j → oa m = true ∧ ob m = true) ∧ Dst W wr (sv j).1 (sv j).2) (fun u _ => es.length - (intOf u).toNat)
  case atStart =>
    refine ⟨0, Nat.zero_le _, rfl, fun m hm => by omega, ?_⟩
    rw [S0.out]
    exact ⟨⟨⟨by simp [go_sem], by simp [go_sem]⟩, by simp [go_sem], by simp [go_sem]⟩, ⟨⟨by simp [go_sem], by simp [go_sem]⟩, by simp [go_sem], by simp [go_sem]⟩, by go_grown⟩
  case round =>
    obtain ⟨j, hj, rfl, HK, hD⟩ := hrel
    by_cases hlt : j < es.length
    · obtain ⟨b, off, rfl, hb, c1, c0⟩ := HRA.out.cells j hlt
      obtain ⟨b2, off2, rfl, hb2, g1, g0⟩ := HRC.out.cells j (by rw [HL.out]; exact hlt)
      have HA : Hid (b < W.heap.size ∧ W.cell? ⟨b, off + j * 2, none⟩ = some (.int .u64 ((es.getD j (0, 0)).1 : Nat)) ∧ W.cell? ⟨b, off + j * 2 + 1, none⟩ = some (.int .u64 ((es.getD j (0, 0)).2 : Nat))) := ⟨hb, c1, c0⟩
      have HC : Hid (b2 < W.heap.size ∧ W.cell? ⟨b2, off2 + j * 2, none⟩ = some (.int .u64 ((fs.getD j (0, 0)).1 : Nat)) ∧ W.cell? ⟨b2, off2 + j * 2 + 1, none⟩ = some (.int .u64 ((fs.getD j (0, 0)).2 : Nat))) := ⟨hb2, g1, g0⟩
      have H1 := OA.out j hlt
      have H2 := OB.out j hlt
      have H3 := PR.out j hlt
      have H4 := AD.out j hlt
      have HRF : Hid ((oa j = false ∨ ob j = false) → r = (0, 0)) := RF.out j hlt
      have hne : b < W.heap.size ∧ b2 < W.heap.size := ⟨hb, hb2⟩
      clear hb hb2 c1 c0 g1 g0 HRA HRC OA OB PR AD
      generalize es.getD j (0, 0) = x at *
      generalize fs.getD j (0, 0) = y at *
      have KD : Hid (Dst W wr (sv j).1 (sv j).2) := hD
      have F := hD.facts HA.out HC.out
      clear hD
      cases hoa : oa j
      · rw [hoa] at H1
        have hr : r = (0, 0) := HRF.out (.inl hoa)
        subst hr
        obtain ⟨x1, x0, y1, y0, _⟩ := F
        go_wp2_with fail
        refine (H1.go _).mono ?_
        rintro e w4 ⟨rfl, hb4⟩
        have KD4 : Hid (Dst W w4 (sv j).1 (sv j).2) := KD.out.below hb4
        clear hb4 KD x1 x0 y1 y0
        obtain ⟨⟨r1, r0⟩, t1, t0⟩ := KD4.out.r
        go_wp2
        refine bodyPost_ret (v := .agg #[.int .u64 0, .int .u64 0]) (by simp [results, Try.results48, go_sem, *]) rfl ⟨rfl, ?_⟩
        exact below2 (p := W.heap.size) KD4.out.d (Nat.le_refl _) _ _
      · rw [hoa] at H1
        obtain ⟨x1, x0, y1, y0, _⟩ := F
        go_wp2_with fail
        refine (H1.go _).mono ?_
        rintro e w4 ⟨rfl, hb4⟩
        have KD4 : Hid (Dst W w4 (sv j).1 (sv j).2) := KD.out.below hb4
        clear hb4 KD x1 x0 y1 y0
        have F := KD4.out.facts HA.out HC.out
        cases hob : ob j
        · rw [hob] at H2
          have hr : r = (0, 0) := HRF.out (.inr hob)
          subst hr
          obtain ⟨x1, x0, y1, y0, _⟩ := F
          go_wp2_with fail
          refine (H2.go _).mono ?_
          rintro e w5 ⟨rfl, hb5⟩
          have KD5 : Hid (Dst W w5 (sv j).1 (sv j).2) := KD4.out.below hb5
          clear hb5 KD4 x1 x0 y1 y0
          obtain ⟨⟨r1, r0⟩, t1, t0⟩ := KD5.out.r
          go_wp2
          refine bodyPost_ret (v := .agg #[.int .u64 0, .int .u64 0]) (by simp [results, Try.results48, go_sem, *]) rfl ⟨rfl, ?_⟩
          exact below2 (p := W.heap.size) KD5.out.d (Nat.le_refl _) _ _
        · rw [hob] at H2
          have HK2 : Hid (∀ m : Nat, m < j + 1 → oa m = true ∧ ob m = true) := fun m hm => by
            rcases Nat.lt_or_ge m j with h | h
            · exact HK.out m h
            · rw [show m = j by omega]; exact ⟨hoa, hob⟩
          clear HK hoa hob HRF
          obtain ⟨x1, x0, y1, y0, _⟩ := F
          go_wp2_with fail
          refine (H2.go _).mono ?_
          rintro e w5 ⟨rfl, hb5⟩
          have K : Dst W w5 (sv j).1 (sv j).2 := KD4.out.below hb5
          clear hb5 KD4 x1 x0 y1 y0
          go_upto_region 9 with fail
          have F := K.facts HA.out HC.out
          have hq : W.heap.size ≤ W.heap.size + 1 := by omega
          obtain ⟨x1, x0, y1, y0, s1, s0, t1, t0⟩ := F
          go_region_with (first | (go_at_call 61; refine (H3.go _).mono ?_; rintro e w' ⟨rfl, hb'⟩; have K'' := Dst.below (w' := w') (by first | exact K | exact K.drew) hb'; clear x1 x0 y1 y0 s1 s0 t1 t0 K hb'; have K := K''; clear K''; (try simp only [World.size_drew] at K); obtain ⟨x1, x0, y1, y0, s1, s0, t1, t0⟩ := K.facts HA.out HC.out) | (go_at_call 56; refine (H4.go _).mono ?_; rintro e w' ⟨rfl, hb'⟩; have K'' := Dst.below (w' := w') (by first | exact K | exact K.drew) hb'; clear x1 x0 y1 y0 s1 s0 t1 t0 K hb'; have K := K''; clear K''; (try simp only [World.size_drew] at K); obtain ⟨x1, x0, y1, y0, s1, s0, t1, t0⟩ := K.facts HA.out HC.out))
          all_goals
            go_wp2
            exact ⟨⟨j + 1, hlt, by simp, HK2.out, K.put _ _⟩, by simp [intOf]; omega⟩
    · obtain rfl : j = es.length := by omega
      have hr : r = sv es.length := RT.out HK.out
      subst hr
      have HD : Hid (Below W.heap.size W wr) := hD.d
      obtain ⟨⟨o1, o0⟩, _, _⟩ := hD.s
      obtain ⟨⟨r1, r0⟩, t1, t0⟩ := hD.r
      clear hD HK HRA HRC
      go_wp2
      refine bodyPost_ret (v := .agg #[.int .u64 ((sv es.length).1 : Int), .int .u64 ((sv es.length).2 : Int)]) (by simp [results, Try.results48, go_sem, *]) rfl ⟨rfl, ?_⟩
      exact below2 (p := W.heap.size) HD.out (Nat.le_refl _) _ _
end Go.Proofs.Ytcejppibcemdeaa

/- Contract of steepleref02.Dot over the seat's translation: the walk. -/
namespace Go.Proofs.Ytcejppibcemdeaa
open Go.RowKit

set_option maxHeartbeats 4000000 in
set_option maxRecDepth 100000 in
theorem rdot_core (l : Int) (a c : Option Addr) (cap cap2 : Nat) (es fs : List (Nat × Nat)) (W : World) (hra : ERow W a es) (hrc : ERow W c fs) (hlen : fs.length = es.length) (h30 : es.length ≤ 1000) (oa ob : Nat → Bool) (pv sv : Nat → Nat × Nat) (r : Nat × Nat)
    (OA : Hid (∀ j : Nat, j < es.length → Ret 14 #[.int .i64 l, .agg #[.int .u64 ((es.getD j (0, 0)).1 : Int), .int .u64 ((es.getD j (0, 0)).2 : Int)]] (.bool (oa j))))
    (OB : Hid (∀ j : Nat, j < es.length → Ret 14 #[.int .i64 l, .agg #[.int .u64 ((fs.getD j (0, 0)).1 : Int), .int .u64 ((fs.getD j (0, 0)).2 : Int)]] (.bool (ob j))))
    (PR : Hid (∀ j : Nat, j < es.length → Ret 45 #[.agg #[.int .u64 ((es.getD j (0, 0)).1 : Int), .int .u64 ((es.getD j (0, 0)).2 : Int)], .agg #[.int .u64 ((fs.getD j (0, 0)).1 : Int), .int .u64 ((fs.getD j (0, 0)).2 : Int)]] (.agg #[.int .u64 ((pv j).1 : Int), .int .u64 ((pv j).2 : Int)])))
    (AD : Hid (∀ j : Nat, j < es.length → Ret 44 #[.agg #[.int .u64 ((sv j).1 : Int), .int .u64 ((sv j).2 : Int)], .agg #[.int .u64 ((pv j).1 : Int), .int .u64 ((pv j).2 : Int)]] (.agg #[.int .u64 ((sv (j + 1)).1 : Int), .int .u64 ((sv (j + 1)).2 : Int)])))
    (S0 : Hid (sv 0 = (0, 0))) (RF : Hid (∀ j : Nat, j < es.length → (oa j = false ∨ ob j = false) → r = (0, 0))) (RT : Hid ((∀ j : Nat, j < es.length → oa j = true ∧ ob j = true) → r = sv es.length)) :
    Calls Try.prog 27 #[.int .i64 l, .slice a es.length cap, .slice c fs.length cap2] W fun e w' => e = .returned (.agg #[.int .u64 (r.1 : Int), .int .u64 (r.2 : Int)]) ∧ Below W.heap.size W w' := by
  have HRA : Hid (ERow W a es) := hra
  have HRC : Hid (ERow W c fs) := hrc
  have HL : Hid (fs.length = es.length) := hlen
  clear hra hrc
  rw [hlen]
  clear hlen
  go_enter Try.func27, Try.ntmps27
  go_wp2_with fail
  go_loopw [8] (fun u wr => ∃ j : Nat, j ≤ es.length ∧ u = .int .i64 j ∧ Hid (∀ m : Nat, m < j → oa m = true ∧ ob m = true) ∧ Dst W wr (sv j).1 (sv j).2) (fun u _ => es.length - (intOf u).toNat)
  case atStart =>
    refine ⟨0, Nat.zero_le _, rfl, fun m hm => by omega, ?_⟩
    rw [S0.out]
    exact ⟨⟨⟨by simp [go_sem], by simp [go_sem]⟩, by simp [go_sem], by simp [go_sem]⟩, ⟨⟨by simp [go_sem], by simp [go_sem]⟩, by simp [go_sem], by simp [go_sem]⟩, by go_grown⟩
  case round =>
    obtain ⟨j, hj, rfl, HK, hD⟩ := hrel
    by_cases hlt : j < es.length
    · obtain ⟨b, off, rfl, hb, c1, c0⟩ := HRA.out.cells j hlt
      obtain ⟨b2, off2, rfl, hb2, g1, g0⟩ := HRC.out.cells j (by rw [HL.out]; exact hlt)
      have HA : Hid (b < W.heap.size ∧ W.cell? ⟨b, off + j * 2, none⟩ = some (.int .u64 ((es.getD j (0, 0)).1 : Nat)) ∧ W.cell? ⟨b, off + j * 2 + 1, none⟩ = some (.int .u64 ((es.getD j (0, 0)).2 : Nat))) := ⟨hb, c1, c0⟩
      have HC : Hid (b2 < W.heap.size ∧ W.cell? ⟨b2, off2 + j * 2, none⟩ = some (.int .u64 ((fs.getD j (0, 0)).1 : Nat)) ∧ W.cell? ⟨b2, off2 + j * 2 + 1, none⟩ = some (.int .u64 ((fs.getD j (0, 0)).2 : Nat))) := ⟨hb2, g1, g0⟩
      have H1 := OA.out j hlt
      have H2 := OB.out j hlt
      have H3 := PR.out j hlt
      have H4 := AD.out j hlt
      have HRF : Hid ((oa j = false ∨ ob j = false) → r = (0, 0)) := RF.out j hlt
      have hne : b < W.heap.size ∧ b2 < W.heap.size := ⟨hb, hb2⟩
      clear hb hb2 c1 c0 g1 g0 HRA HRC OA OB PR AD
      generalize es.getD j (0, 0) = x at *
      generalize fs.getD j (0, 0) = y at *
      have KD : Hid (Dst W wr (sv j).1 (sv j).2) := hD
      have F := hD.facts HA.out HC.out
      clear hD
      cases hoa : oa j
      · rw [hoa] at H1
        have hr : r = (0, 0) := HRF.out (.inl hoa)
        subst hr
        obtain ⟨x1, x0, y1, y0, _⟩ := F
        go_wp2_with fail
        refine (H1.go _).mono ?_
        rintro e w4 ⟨rfl, hb4⟩
        have KD4 : Hid (Dst W w4 (sv j).1 (sv j).2) := KD.out.below hb4
        clear hb4 KD x1 x0 y1 y0
        obtain ⟨⟨r1, r0⟩, t1, t0⟩ := KD4.out.r
        go_wp2
        refine bodyPost_ret (v := .agg #[.int .u64 0, .int .u64 0]) (by simp [results, Try.results27, go_sem, *]) rfl ⟨rfl, ?_⟩
        exact below2 (p := W.heap.size) KD4.out.d (Nat.le_refl _) _ _
      · rw [hoa] at H1
        obtain ⟨x1, x0, y1, y0, _⟩ := F
        go_wp2_with fail
        refine (H1.go _).mono ?_
        rintro e w4 ⟨rfl, hb4⟩
        have KD4 : Hid (Dst W w4 (sv j).1 (sv j).2) := KD.out.below hb4
        clear hb4 KD x1 x0 y1 y0
        have F := KD4.out.facts HA.out HC.out
        cases hob : ob j
        · rw [hob] at H2
          have hr : r = (0, 0) := HRF.out (.inr hob)
          subst hr
          obtain ⟨x1, x0, y1, y0, _⟩ := F
          go_wp2_with fail
          refine (H2.go _).mono ?_
          rintro e w5 ⟨rfl, hb5⟩
          have KD5 : Hid (Dst W w5 (sv j).1 (sv j).2) := KD4.out.below hb5
          clear hb5 KD4 x1 x0 y1 y0
          obtain ⟨⟨r1, r0⟩, t1, t0⟩ := KD5.out.r
          go_wp2
          refine bodyPost_ret (v := .agg #[.int .u64 0, .int .u64 0]) (by simp [results, Try.results27, go_sem, *]) rfl ⟨rfl, ?_⟩
          exact below2 (p := W.heap.size) KD5.out.d (Nat.le_refl _) _ _
        · rw [hob] at H2
          have HK2 : Hid (∀ m : Nat, m < j + 1 → oa m = true ∧ ob m = true) := fun m hm => by
            rcases Nat.lt_or_ge m j with h | h
            · exact HK.out m h
            · rw [show m = j by omega]; exact ⟨hoa, hob⟩
          clear HK hoa hob HRF
          obtain ⟨x1, x0, y1, y0, _⟩ := F
          go_wp2_with fail
          refine (H2.go _).mono ?_
          rintro e w5 ⟨rfl, hb5⟩
          have K : Dst W w5 (sv j).1 (sv j).2 := KD4.out.below hb5
          clear hb5 KD4 x1 x0 y1 y0
          go_upto_region 9 with fail
          have F := K.facts HA.out HC.out
          have hq : W.heap.size ≤ W.heap.size + 1 := by omega
          obtain ⟨x1, x0, y1, y0, s1, s0, t1, t0⟩ := F
          go_region_with (first | (go_at_call 45; refine (H3.go _).mono ?_; rintro e w' ⟨rfl, hb'⟩; have K'' := Dst.below (w' := w') (by first | exact K | exact K.drew) hb'; clear x1 x0 y1 y0 s1 s0 t1 t0 K hb'; have K := K''; clear K''; (try simp only [World.size_drew] at K); obtain ⟨x1, x0, y1, y0, s1, s0, t1, t0⟩ := K.facts HA.out HC.out) | (go_at_call 44; refine (H4.go _).mono ?_; rintro e w' ⟨rfl, hb'⟩; have K'' := Dst.below (w' := w') (by first | exact K | exact K.drew) hb'; clear x1 x0 y1 y0 s1 s0 t1 t0 K hb'; have K := K''; clear K''; (try simp only [World.size_drew] at K); obtain ⟨x1, x0, y1, y0, s1, s0, t1, t0⟩ := K.facts HA.out HC.out))
          all_goals
            go_wp2
            exact ⟨⟨j + 1, hlt, by simp, HK2.out, K.put _ _⟩, by simp [intOf]; omega⟩
    · obtain rfl : j = es.length := by omega
      have hr : r = sv es.length := RT.out HK.out
      subst hr
      have HD : Hid (Below W.heap.size W wr) := hD.d
      obtain ⟨⟨o1, o0⟩, _, _⟩ := hD.s
      obtain ⟨⟨r1, r0⟩, t1, t0⟩ := hD.r
      clear hD HK HRA HRC
      go_wp2
      refine bodyPost_ret (v := .agg #[.int .u64 ((sv es.length).1 : Int), .int .u64 ((sv es.length).2 : Int)]) (by simp [results, Try.results27, go_sem, *]) rfl ⟨rfl, ?_⟩
      exact below2 (p := W.heap.size) HD.out (Nat.le_refl _) _ _
end Go.Proofs.Ytcejppibcemdeaa

/- Contracts of tower.Dot and steepleref02.Dot for any slices of elements. -/
namespace Go.Proofs.Ytcejppibcemdeaa
open Go.RowKit
open Tw (pm)

/-- The sum of the first products. -/
def dots (es fs : List (Nat × Nat)) (j : Nat) : Nat × Nat := xsum ((List.range j).map fun i => pm (es.getD i (0, 0)) (fs.getD i (0, 0)))
theorem dots_succ (es fs : List (Nat × Nat)) (j : Nat) : dots es fs (j + 1) = ((dots es fs j).1 ^^^ (pm (es.getD j (0, 0)) (fs.getD j (0, 0))).1, (dots es fs j).2 ^^^ (pm (es.getD j (0, 0)) (fs.getD j (0, 0))).2) := by
  unfold dots
  rw [List.range_succ, List.map_append]
  exact xsum_snoc _ _
theorem dots_lt (es fs : List (Nat × Nat)) (j : Nat) : (dots es fs j).1 < 2 ^ 64 ∧ (dots es fs j).2 < 2 ^ 64 := by
  have := xsum_lt ((List.range j).map fun i => pm (es.getD i (0, 0)) (fs.getD i (0, 0))) (by
    intro e he
    obtain ⟨i, _, rfl⟩ := List.mem_map.1 he
    exact Tw.pm_lt _ _) j
  rw [List.take_of_length_le (by simp)] at this
  exact this
def ofAll (l : Int) (es fs : List (Nat × Nat)) : Bool := (List.range es.length).all fun j => ofB l (es.getD j (0, 0)).1 (es.getD j (0, 0)).2 && ofB l (fs.getD j (0, 0)).1 (fs.getD j (0, 0)).2
theorem ofAll_at {l : Int} {es fs : List (Nat × Nat)} (h : ofAll l es fs = true) {j : Nat} (hj : j < es.length) : ofB l (es.getD j (0, 0)).1 (es.getD j (0, 0)).2 = true ∧ ofB l (fs.getD j (0, 0)).1 (fs.getD j (0, 0)).2 = true := by
  unfold ofAll at h
  rw [List.all_eq_true] at h
  have := h j (List.mem_range.2 hj)
  simpa using this
theorem ofAll_mk {l : Int} {es fs : List (Nat × Nat)} (h : ∀ j, j < es.length → ofB l (es.getD j (0, 0)).1 (es.getD j (0, 0)).2 = true ∧ ofB l (fs.getD j (0, 0)).1 (fs.getD j (0, 0)).2 = true) : ofAll l es fs = true := by
  unfold ofAll
  rw [List.all_eq_true]
  intro j hj
  have := h j (List.mem_range.1 hj)
  simpa using this
/-- The sum of products in a level: nothing, if the lists are not of one length, or one is not of it. -/
def dotv (l : Int) (es fs : List (Nat × Nat)) : Nat × Nat := if fs.length = es.length then (if ofAll l es fs = true then dots es fs es.length else (0, 0)) else (0, 0)

set_option maxHeartbeats 1000000 in
theorem dot_len (l : Int) (a c : Option Addr) (cap cap2 n m : Nat) (hne : ¬ m = n) : Ret 48 #[.int .i64 l, .slice a n cap, .slice c m cap2] (.agg #[.int .u64 0, .int .u64 0]) := by
  intro W
  have hne2 : ¬ (n : Int) = (m : Int) := by omega
  go_enter Try.func48, Try.ntmps48
  go_wp2
  refine bodyPost_ret (v := .agg #[.int .u64 0, .int .u64 0]) (by simp [results, Try.results48, go_sem]) rfl ⟨rfl, ?_⟩
  go_grown
set_option maxHeartbeats 1000000 in
theorem rdot_len (l : Int) (a c : Option Addr) (cap cap2 n m : Nat) (hne : ¬ m = n) : Ret 27 #[.int .i64 l, .slice a n cap, .slice c m cap2] (.agg #[.int .u64 0, .int .u64 0]) := by
  intro W
  have hne2 : ¬ (n : Int) = (m : Int) := by omega
  go_enter Try.func27, Try.ntmps27
  go_wp2
  refine bodyPost_ret (v := .agg #[.int .u64 0, .int .u64 0]) (by simp [results, Try.results27, go_sem]) rfl ⟨rfl, ?_⟩
  go_grown
theorem dotv_rt {l : Int} {es fs : List (Nat × Nat)} (h : fs.length = es.length) (H : ∀ j, j < es.length → ofB l (es.getD j (0, 0)).1 (es.getD j (0, 0)).2 = true ∧ ofB l (fs.getD j (0, 0)).1 (fs.getD j (0, 0)).2 = true) : dotv l es fs = dots es fs es.length := by
  unfold dotv; rw [if_pos h, if_pos (ofAll_mk H)]
theorem dotv_rf {l : Int} {es fs : List (Nat × Nat)} {j : Nat} (hj : j < es.length) (H : ofB l (es.getD j (0, 0)).1 (es.getD j (0, 0)).2 = false ∨ ofB l (fs.getD j (0, 0)).1 (fs.getD j (0, 0)).2 = false) : dotv l es fs = (0, 0) := by
  unfold dotv
  split
  · rw [if_neg]
    intro h
    have := ofAll_at h hj
    rcases H with h1 | h1
    · rw [h1] at this; cases this.1
    · rw [h1] at this; cases this.2
  · rfl
theorem dot_any (l : Int) (a c : Option Addr) (cap cap2 : Nat) (es fs : List (Nat × Nat)) (he : ltE es) (hf : ltE fs) (h1 : es.length ≤ 1000) (W : World) (hra : ERow W a es) (hrc : ERow W c fs) :
    Calls Try.prog 48 #[.int .i64 l, .slice a es.length cap, .slice c fs.length cap2] W fun e w' => e = .returned (.agg #[.int .u64 ((dotv l es fs).1 : Int), .int .u64 ((dotv l es fs).2 : Int)]) ∧ Below W.heap.size W w' := by
  by_cases hl : fs.length = es.length
  · exact dot_core l a c cap cap2 es fs W hra hrc hl h1 (fun j => ofB l (es.getD j (0, 0)).1 (es.getD j (0, 0)).2) (fun j => ofB l (fs.getD j (0, 0)).1 (fs.getD j (0, 0)).2) (fun j => pm (es.getD j (0, 0)) (fs.getD j (0, 0))) (dots es fs) (dotv l es fs)
      (fun j _ => of_ret l _ _ (he.at j).2) (fun j _ => of_ret l _ _ (hf.at j).2)
      (fun j _ W => product_any _ _ _ _ (he.at j).1 (he.at j).2 (hf.at j).1 (hf.at j).2 W)
      (fun j _ W => by
        have := add_any (dots es fs j).1 (dots es fs j).2 (pm (es.getD j (0, 0)) (fs.getD j (0, 0))).1 (pm (es.getD j (0, 0)) (fs.getD j (0, 0))).2 (dots_lt es fs j).1 (dots_lt es fs j).2 (Tw.pm_lt _ _).1 (Tw.pm_lt _ _).2 W
        rw [dots_succ]; exact this)
      rfl (fun j hj H => dotv_rf hj H) (fun H => dotv_rt hl H)
  · have e : dotv l es fs = (0, 0) := by unfold dotv; rw [if_neg hl]
    rw [e]
    exact dot_len l a c cap cap2 _ _ hl W
theorem rdot_any (l : Int) (a c : Option Addr) (cap cap2 : Nat) (es fs : List (Nat × Nat)) (he : ltE es) (hf : ltE fs) (h1 : es.length ≤ 1000) (W : World) (hra : ERow W a es) (hrc : ERow W c fs) :
    Calls Try.prog 27 #[.int .i64 l, .slice a es.length cap, .slice c fs.length cap2] W fun e w' => e = .returned (.agg #[.int .u64 ((dotv l es fs).1 : Int), .int .u64 ((dotv l es fs).2 : Int)]) ∧ Below W.heap.size W w' := by
  by_cases hl : fs.length = es.length
  · exact rdot_core l a c cap cap2 es fs W hra hrc hl h1 (fun j => ofB l (es.getD j (0, 0)).1 (es.getD j (0, 0)).2) (fun j => ofB l (fs.getD j (0, 0)).1 (fs.getD j (0, 0)).2) (fun j => pm (es.getD j (0, 0)) (fs.getD j (0, 0))) (dots es fs) (dotv l es fs)
      (fun j _ => rof_any l _ _ (he.at j).1 (he.at j).2) (fun j _ => rof_any l _ _ (hf.at j).1 (hf.at j).2)
      (fun j _ => rproduct_any _ _ _ _ (he.at j).1 (he.at j).2 (hf.at j).1 (hf.at j).2)
      (fun j _ => by
        have := radd (dots es fs j).1 (dots es fs j).2 (pm (es.getD j (0, 0)) (fs.getD j (0, 0))).1 (pm (es.getD j (0, 0)) (fs.getD j (0, 0))).2 (dots_lt es fs j).1 (dots_lt es fs j).2 (Tw.pm_lt _ _).1 (Tw.pm_lt _ _).2
        rw [dots_succ]; exact this)
      rfl (fun j hj H => dotv_rf hj H) (fun H => dotv_rt hl H)
  · have e : dotv l es fs = (0, 0) := by unfold dotv; rw [if_neg hl]
    rw [e]
    exact rdot_len l a c cap cap2 _ _ hl W
end Go.Proofs.Ytcejppibcemdeaa
