/- Contracts of tower.Dot and steepleref02.Dot over the seat's translation: the walks. -/
import Derived.Test.YtbomgcmmfeahiaaPSlA
import Derived.Test.YtbomgcmmfeahiaaTwBl
namespace Go.Proofs.Ytbomgcmmfeahiaa
open Go.RowKit

/-- A room and a sum, as Dot lays them. -/
structure Dst (W w : World) (sh sl : Nat) : Prop where
  r : Ew w W.heap.size 0 0
  s : Ew w (W.heap.size + 1) sh sl
  d : Below W.heap.size W w
theorem Dst.below {W w w' : World} {sh sl : Nat} (h : Dst W w sh sl) (hb : Below w.heap.size w w') : Dst W w' sh sl := ⟨h.r.below hb, h.s.below hb, h.d.trans (hb.mono h.d.size)⟩
theorem Dst.drew {W w : World} {sh sl : Nat} (h : Dst W w sh sl) : Dst W w.drew sh sl := ⟨h.r.drew, h.s.drew, h.d.drew⟩
theorem Dst.put {W w : World} {sh sl : Nat} (h : Dst W w sh sl) (u v : Nat) : Dst W ((w.setCell ⟨W.heap.size + 1, 0, none⟩ (.int .u64 (u : Int))).setCell ⟨W.heap.size + 1, 1, none⟩ (.int .u64 (v : Int))) u v :=
  ⟨h.r.other (by omega) _ _, h.s.set _ _, below2 (p := W.heap.size + 1) h.d (by omega) _ _⟩
theorem Dst.facts {W w : World} {sh sl b o b2 o2 x1 x0 y1 y0 : Nat} (h : Dst W w sh sl)
    (A : b < W.heap.size ∧ W.cell? ⟨b, o, none⟩ = some (.int .u64 (x1 : Int)) ∧ W.cell? ⟨b, o + 1, none⟩ = some (.int .u64 (x0 : Int)))
    (C : b2 < W.heap.size ∧ W.cell? ⟨b2, o2, none⟩ = some (.int .u64 (y1 : Int)) ∧ W.cell? ⟨b2, o2 + 1, none⟩ = some (.int .u64 (y0 : Int))) :
    w.cell? ⟨b, o, none⟩ = some (.int .u64 (x1 : Int)) ∧ w.cell? ⟨b, o + 1, none⟩ = some (.int .u64 (x0 : Int)) ∧ w.cell? ⟨b2, o2, none⟩ = some (.int .u64 (y1 : Int)) ∧ w.cell? ⟨b2, o2 + 1, none⟩ = some (.int .u64 (y0 : Int)) ∧ w.cell? ⟨W.heap.size + 1, 0, none⟩ = some (.int .u64 (sh : Int)) ∧ w.cell? ⟨W.heap.size + 1, 1, none⟩ = some (.int .u64 (sl : Int)) ∧ w.frozen? ⟨W.heap.size + 1, 0, none⟩ = false ∧ w.frozen? ⟨W.heap.size + 1, 1, none⟩ = false :=
  ⟨by rw [h.d.cell (p := ⟨b, o, none⟩) A.1]; exact A.2.1, by rw [h.d.cell (p := ⟨b, o + 1, none⟩) A.1]; exact A.2.2, by rw [h.d.cell (p := ⟨b2, o2, none⟩) C.1]; exact C.2.1, by rw [h.d.cell (p := ⟨b2, o2 + 1, none⟩) C.1]; exact C.2.2, h.s.hi, h.s.lo, h.s.fhi, h.s.flo⟩
set_option maxHeartbeats 4000000 in
set_option maxRecDepth 100000 in
theorem dot_core (l : Int) (a c : Option Addr) (cap cap2 : Nat) (es fs : List (Nat × Nat)) (W : World) (hra : ERow W a es) (hrc : ERow W c fs) (hlen : fs.length = es.length) (h30 : es.length ≤ 1000) (oa ob : Nat → Bool) (pv sv : Nat → Nat × Nat) (r : Nat × Nat)
    (OA : Hid (∀ j : Nat, j < es.length → Ret 52 #[.int .i64 l, .agg #[.int .u64 ((es.getD j (0, 0)).1 : Int), .int .u64 ((es.getD j (0, 0)).2 : Int)]] (.bool (oa j))))
    (OB : Hid (∀ j : Nat, j < es.length → Ret 52 #[.int .i64 l, .agg #[.int .u64 ((fs.getD j (0, 0)).1 : Int), .int .u64 ((fs.getD j (0, 0)).2 : Int)]] (.bool (ob j))))
    (PR : Hid (∀ j : Nat, j < es.length → Ret 58 #[.agg #[.int .u64 ((es.getD j (0, 0)).1 : Int), .int .u64 ((es.getD j (0, 0)).2 : Int)], .agg #[.int .u64 ((fs.getD j (0, 0)).1 : Int), .int .u64 ((fs.getD j (0, 0)).2 : Int)]] (.agg #[.int .u64 ((pv j).1 : Int), .int .u64 ((pv j).2 : Int)])))
    (AD : Hid (∀ j : Nat, j < es.length → Ret 33 #[.agg #[.int .u64 ((sv j).1 : Int), .int .u64 ((sv j).2 : Int)], .agg #[.int .u64 ((pv j).1 : Int), .int .u64 ((pv j).2 : Int)]] (.agg #[.int .u64 ((sv (j + 1)).1 : Int), .int .u64 ((sv (j + 1)).2 : Int)])))
    (S0 : Hid (sv 0 = (0, 0))) (RF : Hid (∀ j : Nat, j < es.length → (oa j = false ∨ ob j = false) → r = (0, 0))) (RT : Hid ((∀ j : Nat, j < es.length → oa j = true ∧ ob j = true) → r = sv es.length)) :
    Calls Try.prog 40 #[.int .i64 l, .slice a es.length cap, .slice c fs.length cap2] W fun e w' => e = .returned (.agg #[.int .u64 (r.1 : Int), .int .u64 (r.2 : Int)]) ∧ Below W.heap.size W w' := by
  have HRA : Hid (ERow W a es) := hra
  have HRC : Hid (ERow W c fs) := hrc
  have HL : Hid (fs.length = es.length) := hlen
  clear hra hrc
  rw [hlen]
  clear hlen
  go_enter Try.func40, Try.ntmps40
  go_wp2_with fail
  go_loopw [17] (fun u wr => ∃ j : Nat, j ≤ es.length ∧ u = .int .i64 j ∧ Hid (∀ m : Nat, m < j → oa m = true ∧ ob m = true) ∧ Dst W wr (sv j).1 (sv j).2) (fun u _ => es.length - (intOf u).toNat)
  case atStart =>
    refine ⟨0, Nat.zero_le _, rfl, fun m hm => by omega, ?_⟩
    rw [S0.out]
    exact ⟨⟨⟨by simp [go_sem], by simp [go_sem]⟩, by simp [go_sem], by simp [go_sem]⟩, ⟨⟨by simp [go_sem], by simp [go_sem]⟩, by simp [go_sem], by simp [go_sem]⟩, by go_grown⟩
  case round =>
    obtain ⟨j, hj, rfl, HK, hD⟩ := hrel
    by_cases hlt : j < es.length
    · obtain ⟨b, off, rfl, hb, c1, c0⟩ := HRA.out.cells j hlt
      obtain ⟨b2, off2, rfl, hb2, g1, g0⟩ := HRC.out.cells j (by rw [HL.out]; exact hlt)
      have HA : Hid (b < W.heap.size ∧ W.cell? ⟨b, off + j * 2, none⟩ = some (.int .u64 ((es.getD j (0, 0)).1 : Nat)) ∧ W.cell? ⟨b, off + j * 2 + 1, none⟩ = some (.int .u64 ((es.getD j (0, 0)).2 : Nat))) := ⟨hb, c1, c0⟩
      have HC : Hid (b2 < W.heap.size ∧ W.cell? ⟨b2, off2 + j * 2, none⟩ = some (.int .u64 ((fs.getD j (0, 0)).1 : Nat)) ∧ W.cell? ⟨b2, off2 + j * 2 + 1, none⟩ = some (.int .u64 ((fs.getD j (0, 0)).2 : Nat))) := ⟨hb2, g1, g0⟩
      have H1 := OA.out j hlt
      have H2 := OB.out j hlt
      have H3 := PR.out j hlt
      have H4 := AD.out j hlt
      have HRF : Hid ((oa j = false ∨ ob j = false) → r = (0, 0)) := RF.out j hlt
      have hne : b < W.heap.size ∧ b2 < W.heap.size := ⟨hb, hb2⟩
      clear hb hb2 c1 c0 g1 g0 HRA HRC OA OB PR AD
      generalize es.getD j (0, 0) = x at *
      generalize fs.getD j (0, 0) = y at *
      have KD : Hid (Dst W wr (sv j).1 (sv j).2) := hD
      have F := hD.facts HA.out HC.out
      clear hD
      cases hoa : oa j
      · rw [hoa] at H1
        have hr : r = (0, 0) := HRF.out (.inl hoa)
        subst hr
        obtain ⟨x1, x0, y1, y0, _⟩ := F
        go_wp2_with fail
        refine (H1.go _).mono ?_
        rintro e w4 ⟨rfl, hb4⟩
        have KD4 : Hid (Dst W w4 (sv j).1 (sv j).2) := KD.out.below hb4
        clear hb4 KD x1 x0 y1 y0
        obtain ⟨⟨r1, r0⟩, t1, t0⟩ := KD4.out.r
        go_wp2
        refine bodyPost_ret (v := .agg #[.int .u64 0, .int .u64 0]) (by simp [results, Try.results40, go_sem, *]) rfl ⟨rfl, ?_⟩
        exact below2 (p := W.heap.size) KD4.out.d (Nat.le_refl _) _ _
      · rw [hoa] at H1
        obtain ⟨x1, x0, y1, y0, _⟩ := F
        go_wp2_with fail
        refine (H1.go _).mono ?_
        rintro e w4 ⟨rfl, hb4⟩
        have KD4 : Hid (Dst W w4 (sv j).1 (sv j).2) := KD.out.below hb4
        clear hb4 KD x1 x0 y1 y0
        have F := KD4.out.facts HA.out HC.out
        cases hob : ob j
        · rw [hob] at H2
          have hr : r = (0, 0) := HRF.out (.inr hob)
          subst hr
          obtain ⟨x1, x0, y1, y0, _⟩ := F
          go_wp2_with fail
          refine (H2.go _).mono ?_
          rintro e w5 ⟨rfl, hb5⟩
          have KD5 : Hid (Dst W w5 (sv j).1 (sv j).2) := KD4.out.below hb5
          clear hb5 KD4 x1 x0 y1 y0
          obtain ⟨⟨r1, r0⟩, t1, t0⟩ := KD5.out.r
          go_wp2
          refine bodyPost_ret (v := .agg #[.int .u64 0, .int .u64 0]) (by simp [results, Try.results40, go_sem, *]) rfl ⟨rfl, ?_⟩
          exact below2 (p := W.heap.size) KD5.out.d (Nat.le_refl _) _ _
        · rw [hob] at H2
          have HK2 : Hid (∀ m : Nat, m < j + 1 → oa m = true ∧ ob m = true) := fun m hm => by
            rcases Nat.lt_or_ge m j with h | h
            · exact HK.out m h
            · rw [show m = j by omega]; exact ⟨hoa, hob⟩
          clear HK hoa hob HRF
          obtain ⟨x1, x0, y1, y0, _⟩ := F
          go_wp2_with fail
          refine (H2.go _).mono ?_
          rintro e w5 ⟨rfl, hb5⟩
          have K : Dst W w5 (sv j).1 (sv j).2 := KD4.out.below hb5
          clear hb5 KD4 x1 x0 y1 y0
          go_upto_region 9 with fail
          have F := K.facts HA.out HC.out
          have hq : W.heap.size ≤ W.heap.size + 1 := by omega
          obtain ⟨x1, x0, y1, y0, s1, s0, t1, t0⟩ := F
          go_region_with (first | (go_at_call 58; refine (H3.go _).mono ?_; rintro e w' ⟨rfl, hb'⟩; have K'' := Dst.below (w' := w') (by first | exact K | exact K.drew) hb'; clear x1 x0 y1 y0 s1 s0 t1 t0 K hb'; have K := K''; clear K''; (try simp only [World.size_drew] at K); obtain ⟨x1, x0, y1, y0, s1, s0, t1, t0⟩ := K.facts HA.out HC.out) | (go_at_call 33; refine (H4.go _).mono ?_; rintro e w' ⟨rfl, hb'⟩; have K'' := Dst.below (w' := w') (by first | exact K | exact K.drew) hb'; clear x1 x0 y1 y0 s1 s0 t1 t0 K hb'; have K := K''; clear K''; (try simp only [World.size_drew] at K); obtain ⟨x1, x0, y1, y0, s1, s0, t1, t0⟩ := K.facts HA.out HC.out))
          all_goals
            go_wp2
            exact ⟨⟨j + 1, hlt, by simp, HK2.out, K.put _ _⟩, by simp [intOf]; omega⟩
    · obtain rfl : j = es.length := by omega
      have hr : r = sv es.length := RT.out HK.out
      subst hr
      have HD : Hid (Below W.heap.size W wr) := hD.d
      obtain ⟨⟨o1, o0⟩, _, _⟩ := hD.s
      obtain ⟨⟨r1, r0⟩, t1, t0⟩ := hD.r
      clear hD HK HRA HRC
      go_wp2
      refine bodyPost_ret (v := .agg #[.int .u64 ((sv es.length).1 : Int), .int .u64 ((sv es.length).2 : Int)]) (by simp [results, Try.results40, go_sem, *]) rfl ⟨rfl, ?_⟩
      exact below2 (p := W.heap.size) HD.out (Nat.le_refl _) _ _
end Go.Proofs.Ytbomgcmmfeahiaa
