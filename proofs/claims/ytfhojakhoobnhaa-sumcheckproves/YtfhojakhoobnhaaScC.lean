/- The contract of sumcheck.Verify over the seat's translation. -/
import Derived.Test.YtfhojakhoobnhaaPScB
import Derived.Test.YtfhojakhoobnhaaLnK
namespace Go.Proofs.Ytfhojakhoobnhaa
open Go.RowKit
open Cb Ln Sc
open Tw (pm)

/-- The claim behind the last round, if each round's first two values are the claim ahead. -/
def vfy : Nat × Nat → List (List (Nat × Nat)) → List (Nat × Nat) → Option (Nat × Nat)
  | c, v :: vs, x :: xs => if ends v = c then vfy (atv v x) vs xs else none
  | c, _, _ => some c
/-- What Verify answers. -/
def vfR (lv d : Int) (c : Nat × Nat) (rs : List (List (Nat × Nat))) (r : List (Nat × Nat)) : (Nat × Nat) × Int :=
  if vhn lv d c rs r = 0 then (match vfy c rs r with | some y => (y, 0) | none => ((0, 0), 8)) else ((0, 0), vhn lv d c rs r)
theorem vhn_zero {lv d : Int} {c : Nat × Nat} {rs : List (List (Nat × Nat))} {r : List (Nat × Nat)} (h : vhn lv d c rs r = 0) : ∃ (k n : Nat), k < 8 ∧ lv = (k : Int) ∧ 1 ≤ n ∧ n ≤ 8 ∧ d = (n : Int) ∧ fitB (k : Int) (n : Int) = true ∧ rs.length = r.length ∧ lenT rs (n + 1) ∧ ofE k c ∧ ofT k r ∧ ofTs k rs := by
  unfold vhn at h
  by_cases h1 : d < 1 ∨ fitB lv d = false
  · rw [if_pos h1] at h; exact absurd h (by decide)
  rw [if_neg h1] at h
  by_cases h2 : ¬ rs.length = r.length ∨ (rs.all fun t => decide (t.length = (d + 1).toNat)) = false
  · rw [if_pos h2] at h; exact absurd h (by decide)
  rw [if_neg h2] at h
  by_cases h3 : ofB lv (c.1 : Int) (c.2 : Int) = false ∨ (r.all fun e => ofB lv (e.1 : Int) (e.2 : Int)) = false
  · rw [if_pos h3] at h; exact absurd h (by decide)
  rw [if_neg h3] at h
  by_cases h4 : allG lv rs = true
  · have hf : fitB lv d = true := by
      cases hq : fitB lv d
      · exact absurd (Or.inr hq) h1
      · rfl
    have hd : 0 ≤ d ∧ d ≤ 8 := by
      unfold fitB at hf
      rw [Bool.and_eq_true] at hf
      exact of_decide_eq_true hf.1
    have hlv : 0 ≤ lv ∧ lv ≤ 7 := by
      refine Classical.byContradiction fun hn => ?_
      rw [fit_no (Or.inl hn)] at hf; cases hf
    have hd1 : ¬ d < 1 := fun h => h1 (Or.inl h)
    have hb : (rs.all fun t => decide (t.length = (d + 1).toNat)) = true := by
      cases hq : (rs.all fun t => decide (t.length = (d + 1).toNat))
      · exact absurd (Or.inr hq) h2
      · rfl
    have hc : ofB lv (c.1 : Int) (c.2 : Int) = true := by
      cases hq : ofB lv (c.1 : Int) (c.2 : Int)
      · exact absurd (Or.inl hq) h3
      · rfl
    have hr : (r.all fun e => ofB lv (e.1 : Int) (e.2 : Int)) = true := by
      cases hq : (r.all fun e => ofB lv (e.1 : Int) (e.2 : Int))
      · exact absurd (Or.inr hq) h3
      · rfl
    obtain ⟨k, rfl⟩ : ∃ k : Nat, lv = (k : Int) := ⟨lv.toNat, by omega⟩
    obtain ⟨n, rfl⟩ : ∃ n : Nat, d = (n : Int) := ⟨d.toNat, by omega⟩
    refine ⟨k, n, by omega, rfl, by omega, by omega, rfl, hf, Classical.byContradiction fun hn => h2 (Or.inl hn), fun t ht => ?_, hc, fun e he => List.all_eq_true.1 hr e he, fun t ht e he => List.all_eq_true.1 (List.all_eq_true.1 h4 t ht) e he⟩
    have := of_decide_eq_true (List.all_eq_true.1 hb t ht)
    omega
  · rw [if_neg h4] at h; exact absurd h (by decide)
theorem Ra.put {W w : World} {x : Nat × Nat} (h : Ra W w x) (v : Nat × Nat) : Ra W ((w.setCell ⟨W.heap.size, 0, none⟩ (.int .u64 (v.1 : Int))).setCell ⟨W.heap.size, 1, none⟩ (.int .u64 (v.2 : Int))) v :=
  ⟨h.x.set _ _, h.r.other (by omega) _ _, below2 h.d (Nat.le_refl _) _ _⟩
set_option maxHeartbeats 2000000 in
set_option maxRecDepth 100000 in
theorem sver_err (lv d E : Int) (c : Nat × Nat) (hc : lt2 c) (a ra : Option Addr) (cap rcap : Nat) (rs : List (List (Nat × Nat))) (r : List (Nat × Nat)) (h1 : rs.length ≤ 1000) (h2 : r.length ≤ 1000) (hlen : ∀ t ∈ rs, t.length ≤ 1000) (hrs : ltT rs) (hr : ltE r) (W : World) (hT : TRowC W a rs) (hE : ERow W ra r) (hv : vhn lv d c rs r = E) (h0 : ¬ E = 0) :
    Calls Try.prog 10 #[.int .i64 lv, .int .i64 d, .agg #[.int .u64 (c.1 : Int), .int .u64 (c.2 : Int)], .slice a rs.length cap, .slice ra r.length rcap] W fun e w' => e = .returned (.tuple #[.agg #[.int .u64 0, .int .u64 0], .int .i64 E]) ∧ Below W.heap.size W w' := by
  have HH : Hid (∀ w, Below W.heap.size W w → Calls Try.prog 37 #[.int .i64 lv, .int .i64 d, .agg #[.int .u64 (c.1 : Int), .int .u64 (c.2 : Int)], .slice a rs.length cap, .slice ra r.length rcap] w fun e w' => e = .returned (.int .i64 E) ∧ Below w.heap.size w w') := fun w hb => by
    have := shind lv d c hc a ra cap rcap rs r h1 h2 hlen hrs hr w (hT.t.below hb) (hE.below hb)
    rw [hv] at this
    exact this
  have K0 := Hid.mkS (Ra.start W c)
  have h0' : (E != 0) = true := by simp [h0]
  clear hv hT hE hrs hr hlen hc
  go_enter Try.func10, Try.ntmps10
  go_wp2_with (go_at_call 37; refine (HH.out _ K0.out.d).mono ?_; rintro e w1 ⟨rfl, hb1⟩; have K1 := Hid.mkS (K0.out.below hb1); clear hb1; obtain ⟨⟨r1, r0⟩, t1, t0⟩ := K1.out.r)
  refine bodyPost_ret (v := .tuple #[.agg #[.int .u64 0, .int .u64 0], .int .i64 E]) (by simp [results, Try.results10, go_sem, *]) rfl ⟨rfl, ?_⟩
  exact below2 (p := W.heap.size + 1) K1.out.d (by omega) _ _
theorem drop_at {α : Type} (l : List α) (z : α) (j : Nat) (h : j < l.length) : l.drop j = l.getD j z :: l.drop (j + 1) := by
  rw [List.drop_eq_getElem_cons h]; simp [h]
theorem vfy_step {c : Nat × Nat} {rs : List (List (Nat × Nat))} {r : List (Nat × Nat)} {j : Nat} (h1 : j < rs.length) (h2 : j < r.length) : vfy c (rs.drop j) (r.drop j) = if ends (tb rs j) = c then vfy (atv (tb rs j) (el r j)) (rs.drop (j + 1)) (r.drop (j + 1)) else none := by
  rw [drop_at rs [] j h1, drop_at r (0, 0) j h2]
  rfl
set_option maxHeartbeats 1000000 in
set_option maxRecDepth 100000 in
theorem sver_ok (k n : Nat) (hk : k < 8) (hn1 : 1 ≤ n) (hn8 : n ≤ 8) (hf : fitB (k : Int) (n : Int) = true) (c : Nat × Nat) (hc : lt2 c) (a ra : Option Addr) (cap rcap : Nat) (rs : List (List (Nat × Nat))) (r : List (Nat × Nat)) (h1 : rs.length = r.length) (h2 : r.length ≤ 1000) (hlen : lenT rs (n + 1)) (hrs : ltT rs) (hr : ltE r) (or : ofT k r) (ors : ofTs k rs) (W : World) (hT : TRowC W a rs) (hE : ERow W ra r) (hv : vhn (k : Int) (n : Int) c rs r = 0) (Y : (Nat × Nat) × Int) (hY : (match vfy c rs r with | some y => (y, 0) | none => ((0, 0), 8)) = Y) :
    Calls Try.prog 10 #[.int .i64 (k : Int), .int .i64 (n : Int), .agg #[.int .u64 (c.1 : Int), .int .u64 (c.2 : Int)], .slice a rs.length cap, .slice ra r.length rcap] W fun e w' => e = .returned (.tuple #[.agg #[.int .u64 (Y.1.1 : Int), .int .u64 (Y.1.2 : Int)], .int .i64 Y.2]) ∧ Below W.heap.size W w' := by
  have HH : Hid (∀ w, Below W.heap.size W w → Calls Try.prog 37 #[.int .i64 (k : Int), .int .i64 (n : Int), .agg #[.int .u64 (c.1 : Int), .int .u64 (c.2 : Int)], .slice a rs.length cap, .slice ra r.length rcap] w fun e w' => e = .returned (.int .i64 0) ∧ Below w.heap.size w w') := fun w hb => by
    have := shind (k : Int) (n : Int) c hc a ra cap rcap rs r (by omega) h2 (fun t ht => by rw [hlen t ht]; omega) hrs hr w (hT.t.below hb) (hE.below hb)
    rw [hv] at this
    exact this
  have K0 := Hid.mkS (Ra.start W c)
  have HY := Hid.mkS hY
  have HE' : Hid (∀ (j : Nat) (w : World) (ta : Option Addr) (tc : Nat), j < rs.length → ERow w ta (tb rs j) → n + 1 ≤ tc → Calls Try.prog 38 #[.slice ta (n + 1 : Nat) tc] w fun e w' => e = .returned (.agg #[.int .u64 ((ends (tb rs j)).1 : Int), .int .u64 ((ends (tb rs j)).2 : Int)]) ∧ Below w.heap.size w w') := fun j w ta tc hj he hcap => by
    have := lends ta tc (tb rs j) (hrs.at j) (by rw [hlen.at hj]; omega) w he (by rw [hlen.at hj]; exact hcap)
    rw [hlen.at hj] at this
    exact this
  have HA' : Hid (∀ (j : Nat) (w : World) (ta : Option Addr) (tc : Nat), j < rs.length → ERow w ta (tb rs j) → Calls Try.prog 39 #[.int .i64 (k : Int), .slice ta (n + 1 : Nat) tc, .agg #[.int .u64 ((r.getD j (0, 0)).1 : Int), .int .u64 ((r.getD j (0, 0)).2 : Int)]] w fun e w' => e = .returned (.tuple #[.agg #[.int .u64 ((atv (tb rs j) (r.getD j (0, 0))).1 : Int), .int .u64 ((atv (tb rs j) (r.getD j (0, 0))).2 : Int)], .int .i64 0]) ∧ Below w.heap.size w w') := fun j w ta tc hj he => by
    have := lat_ok k hk ta tc (tb rs j) (r.getD j (0, 0)) (hrs.at j) (hr.at j) (by rw [hlen.at hj]; omega) (by rw [hlen.at hj]; omega) (by rw [hlen.at hj]; rw [show (((n + 1 : Nat) : Int) - 1) = (n : Int) by omega]; exact hf) (ors.at j) (or.el hk j) w he
    rw [hlen.at hj] at this
    exact this
  have HT := Hid.mkS hT
  have HR := Hid.mkS hE
  have HQ : Hid (lenT rs (n + 1) ∧ rs.length = r.length ∧ ltT rs) := ⟨hlen, h1, hrs⟩
  clear hv hT hE hrs hr hlen hY or ors hf h1
  obtain ⟨N, hN⟩ : ∃ N, N = n + 1 := ⟨_, rfl⟩
  rw [← hN] at HE' HA'
  have HN := Hid.mkS hN
  clear hN
  go_enter Try.func10, Try.ntmps10
  go_wp2_with (go_at_call 37; refine (HH.out _ K0.out.d).mono ?_; rintro e w1 ⟨rfl, hb1⟩; have K1 := Hid.mkS (K0.out.below hb1); clear hb1)
  go_loopw [28] (fun u wr => ∃ (j : Nat) (y : Nat × Nat), j ≤ r.length ∧ u = .int .i64 j ∧ Hid (vfy c rs r = vfy y (rs.drop j) (r.drop j) ∧ lt2 y) ∧ Hid (Ra W wr y)) (fun u _ => r.length - (intOf u).toNat)
  case atStart => exact ⟨0, c, Nat.zero_le _, rfl, ⟨by simp, hc⟩, K1⟩
  case round =>
    obtain ⟨j, y, hj, rfl, HV, K⟩ := hrel
    clear K0 K1 HH
    by_cases hlt : j < r.length
    · have hjs : j < rs.length := by rw [HQ.out.2.1]; exact hlt
      obtain ⟨b, off, ta, tc, rfl, hb, cb, hcap, hEr⟩ := HT.out.cells j hjs
      obtain ⟨b', off', rfl, hb', c1, c0⟩ := HR.out.cells j hlt
      rw [HQ.out.1.at hjs, ← HN.out] at cb hcap
      have HAj : Hid (∀ w, Below W.heap.size W w → Calls Try.prog 39 #[.int .i64 (k : Int), .slice ta N tc, .agg #[.int .u64 ((r.getD j (0, 0)).1 : Int), .int .u64 ((r.getD j (0, 0)).2 : Int)]] w fun e w' => e = .returned (.tuple #[.agg #[.int .u64 ((atv (tb rs j) (r.getD j (0, 0))).1 : Int), .int .u64 ((atv (tb rs j) (r.getD j (0, 0))).2 : Int)], .int .i64 0]) ∧ Below w.heap.size w w') := fun w hb => HA'.out j w ta tc hjs (hEr.below hb)
      have HEj : Hid (∀ w, Below W.heap.size W w → Calls Try.prog 38 #[.slice ta N tc] w fun e w' => e = .returned (.agg #[.int .u64 ((ends (tb rs j)).1 : Int), .int .u64 ((ends (tb rs j)).2 : Int)]) ∧ Below w.heap.size w w') := fun w hb => HE'.out j w ta tc hjs (hEr.below hb) hcap
      have HS : Hid (vfy c rs r = if ends (tb rs j) = y then vfy (atv (tb rs j) (r.getD j (0, 0))) (rs.drop (j + 1)) (r.drop (j + 1)) else none) := by show _ = _; rw [HV.out.1]; exact vfy_step hjs hlt
      have hL : lt2 (atv (tb rs j) (r.getD j (0, 0))) := lt_atv _ _
      have db := keepc K.out.d cb
      have d1 := keepc K.out.d c1
      have d0 := keepc K.out.d c0
      have HC : Hid (W.cell? ⟨b, off + j, none⟩ = some (.slice ta N tc) ∧ W.cell? ⟨b', off' + j * 2, none⟩ = some (.int .u64 ((r.getD j (0, 0)).1 : Int)) ∧ W.cell? ⟨b', off' + j * 2 + 1, none⟩ = some (.int .u64 ((r.getD j (0, 0)).2 : Int))) := ⟨cb, c1, c0⟩
      have j1 : (j : Int) < (r.length : Int) := by omega
      have j2 : (j : Int) < (rs.length : Int) := by omega
      have j3 : (0 : Int) ≤ (j : Int) := by omega
      clear cb c1 c0 hEr HA' HE' HV HT HR
      generalize atv (tb rs j) (r.getD j (0, 0)) = nx at *
      generalize ends (tb rs j) = en at *
      generalize r.getD j (0, 0) = x at *
      obtain ⟨⟨x1, x0⟩, _, _⟩ := K.out.x
      by_cases he : en = y
      · subst he
        have HW : Hid (vfy c rs r = vfy nx (rs.drop (j + 1)) (r.drop (j + 1))) := by show _ = _; rw [HS.out, if_pos rfl]
        clear HS
        go_upto_region 7 with fail
        go_region_held3 (fun w => w.cell? ⟨b, off + j, none⟩ = some (.slice ta N tc) ∧ w.cell? ⟨W.heap.size, 0, none⟩ = some (.int .u64 (en.1 : Int)) ∧ w.cell? ⟨W.heap.size, 1, none⟩ = some (.int .u64 (en.2 : Int))) (first | (go_keep; done) | exact ⟨keepc K.out.d HC.out.1, K.out.x.hi, K.out.x.lo⟩) (first | (go_at_call 38; refine (HEj.out _ (by first | exact K.out.d | exact K.out.d.drew)).mono ?_; rintro e w' ⟨rfl, hb'⟩; have K' : Hid (Ra W w' en) := (by first | exact K.out.below hb' | exact Ra.below (w := wr.drew) (K.out.below (Below.refl _ _).drew) hb'); clear hb' K x1 x0 db d1 d0; have K := K'; clear K'; have db := keepc K.out.d HC.out.1; have d1 := keepc K.out.d HC.out.2.1; have d0 := keepc K.out.d HC.out.2.2; obtain ⟨⟨x1, x0⟩, _, _⟩ := K.out.x))
        go_upto_region 9 with fail
        obtain ⟨wq, rfl⟩ : ∃ wq, wq = w' := ⟨_, rfl⟩
        go_cut [14, 15] (fun p14 p15 wx => ∃ q : Nat, p14 = .pointer (some ⟨q, 0, none⟩) ∧ p15 = .int .i64 0 ∧ Hid (Ew wx q nx.1 nx.2 ∧ Ra W wx en))
        case first =>
          have D : Hid (Below wq.heap.size wq wq) := Below.refl _ _
          go_region_held3 (fun w => w.cell? ⟨b, off + j, none⟩ = some (.slice ta N tc) ∧ w.cell? ⟨b', off' + j * 2, none⟩ = some (.int .u64 (x.1 : Int)) ∧ w.cell? ⟨b', off' + j * 2 + 1, none⟩ = some (.int .u64 (x.2 : Int))) (first | (go_keep; done) | exact ⟨keepc ((D.out.setCell (Nat.le_refl _) _).setCell (Nat.le_refl _) _) db, keepc ((D.out.setCell (Nat.le_refl _) _).setCell (Nat.le_refl _) _) d1, keepc ((D.out.setCell (Nat.le_refl _) _).setCell (Nat.le_refl _) _) d0⟩) (first | (go_at_call 39; refine (HAj.out _ (by first | exact K.out.d | exact K.out.d.drew | exact (K.out.below ((Below.refl _ _).alloc (Nat.le_refl _) _)).d | exact (K.out.below ((Below.refl _ _).alloc (Nat.le_refl _) _)).d.drew | exact ((K.out.below (Below.refl _ _).drew).below ((Below.refl _ _).alloc (Nat.le_refl _) _)).d)).mono ?_; rintro e w4 ⟨rfl, hb4⟩; have D' : Hid (Below wq.heap.size wq w4) := (by first | exact hb4 | exact (Below.refl _ _).drew.trans (hb4.mono (by simp)) | exact ((Below.refl _ _).alloc (Nat.le_refl _) _).trans (hb4.mono (by simp)) | exact ((Below.refl _ _).drew.alloc (by simp) _).trans (hb4.mono (by simp)) | exact ((Below.refl _ _).alloc (Nat.le_refl _) _).drew.trans (hb4.mono (by simp))); (first | (have B : Ew w4 wq.heap.size 0 0 := (by first | exact (Ew.roomN wq _).below hb4 | exact (Ew.roomN wq.drew _).below hb4 | exact (Ew.roomN wq _).drew.below hb4); have v1 := B.hi; have v0 := B.lo; have f1 := B.fhi; have f0 := B.flo) | skip); clear hb4 D; have D := D'; clear D'; have db' := keepc D.out db; have d1' := keepc D.out d1; have d0' := keepc D.out d0))
          all_goals
            go_wp2_with fail
            go_meet
            first
              | exact ⟨_, rfl, rfl, ⟨Ew.newN _ nx _, (K.out.below D.out).below ((Below.refl _ _).alloc (Nat.le_refl _) _)⟩⟩
              | exact ⟨_, rfl, rfl, ⟨B.set _ _, K.out.below (below2 D.out (Nat.le_refl _) _ _)⟩⟩
        case rest =>
          obtain ⟨q, rfl, rfl, HX⟩ := hcut
          clear K db d1 d0 x1 x0
          obtain ⟨⟨z1, z0⟩, _, _⟩ := HX.out.1
          obtain ⟨⟨x1, x0⟩, f1, f0⟩ := HX.out.2.x
          have hx1 : W.heap.size < wc.heap.size := HX.out.2.x.toEl.lt
          go_wp2_with fail
          exact ⟨⟨j + 1, nx, hlt, by simp, ⟨HW.out, hL⟩, HX.out.2.put nx⟩, by simp [intOf]; omega⟩
      · have HW : Hid (Y = ((0, 0), 8)) := by show _ = _; rw [← HY.out, HS.out, if_neg he]
        clear HS HY
        obtain ⟨⟨r1, r0⟩, t1, t0⟩ := K.out.r
        have KD := Hid.mkS K.out.d
        by_cases e1 : (en.1 : Int) = (y.1 : Int)
        · have e2 : ¬ (en.2 : Int) = (y.2 : Int) := fun h => he (Prod.ext (by omega) (by omega))
          clear he
          have e1' : en.1 = y.1 := by omega
          rw [e1'] at HEj
          clear e1 e1'
          go_upto_region 7 with fail
          go_region_held3 (fun w => w.cell? ⟨b, off + j, none⟩ = some (.slice ta N tc) ∧ w.cell? ⟨W.heap.size, 0, none⟩ = some (.int .u64 (y.1 : Int)) ∧ w.cell? ⟨W.heap.size, 1, none⟩ = some (.int .u64 (y.2 : Int))) (first | (go_keep; done) | exact ⟨keepc K.out.d HC.out.1, K.out.x.hi, K.out.x.lo⟩) (first | (go_at_call 38; refine (HEj.out _ (by first | exact K.out.d | exact K.out.d.drew)).mono ?_; rintro e w' ⟨rfl, hb'⟩; have K' : Hid (Ra W w' y) := (by first | exact K.out.below hb' | exact Ra.below (w := wr.drew) (K.out.below (Below.refl _ _).drew) hb'); clear hb' K x1 x0 db d1 d0 r1 r0 t1 t0; have K := K'; clear K'; have db := keepc K.out.d HC.out.1; obtain ⟨⟨x1, x0⟩, _, _⟩ := K.out.x; obtain ⟨⟨r1, r0⟩, t1, t0⟩ := K.out.r))
          go_wp2_with fail
          refine bodyPost_ret (v := .tuple #[.agg #[.int .u64 0, .int .u64 0], .int .i64 8]) (by simp [results, Try.results10, go_sem, *]) rfl ⟨by rw [HW.out]; rfl, ?_⟩
          exact below2 (p := W.heap.size + 1) K.out.d (by omega) _ _
        · clear he
          go_upto_region 7 with fail
          go_region_held3 (fun w => w.cell? ⟨b, off + j, none⟩ = some (.slice ta N tc) ∧ w.cell? ⟨W.heap.size, 0, none⟩ = some (.int .u64 (y.1 : Int)) ∧ w.cell? ⟨W.heap.size, 1, none⟩ = some (.int .u64 (y.2 : Int))) (first | (go_keep; done) | exact ⟨keepc K.out.d HC.out.1, K.out.x.hi, K.out.x.lo⟩) (first | (go_at_call 38; refine (HEj.out _ (by first | exact K.out.d | exact K.out.d.drew)).mono ?_; rintro e w' ⟨rfl, hb'⟩; have K' : Hid (Ra W w' y) := (by first | exact K.out.below hb' | exact Ra.below (w := wr.drew) (K.out.below (Below.refl _ _).drew) hb'); clear hb' K x1 x0 db d1 d0 r1 r0 t1 t0; have K := K'; clear K'; have db := keepc K.out.d HC.out.1; obtain ⟨⟨x1, x0⟩, _, _⟩ := K.out.x; obtain ⟨⟨r1, r0⟩, t1, t0⟩ := K.out.r))
          go_wp2_with fail
          refine bodyPost_ret (v := .tuple #[.agg #[.int .u64 0, .int .u64 0], .int .i64 8]) (by simp [results, Try.results10, go_sem, *]) rfl ⟨by rw [HW.out]; rfl, ?_⟩
          exact below2 (p := W.heap.size + 1) K.out.d (by omega) _ _
    · obtain rfl : j = r.length := by omega
      have HW : Hid (Y = (y, 0)) := by
        have h1 := HV.out.1
        rw [List.drop_eq_nil_of_le (by rw [HQ.out.2.1]; exact Nat.le_refl _), List.drop_eq_nil_of_le (Nat.le_refl _)] at h1
        show _ = _
        rw [← HY.out, h1]
        rfl
      have KD := Hid.mkS K.out.d
      obtain ⟨⟨x1, x0⟩, _, _⟩ := K.out.x
      obtain ⟨⟨r1, r0⟩, t1, t0⟩ := K.out.r
      clear K HV HY HA' HE' HT HR HQ
      go_wp2
      refine bodyPost_ret (v := .tuple #[.agg #[.int .u64 (y.1 : Int), .int .u64 (y.2 : Int)], .int .i64 0]) (by simp [results, Try.results10, go_sem, *]) rfl ⟨by rw [HW.out], ?_⟩
      exact below2 (p := W.heap.size + 1) KD.out (by omega) _ _
theorem sver (lv d : Int) (c : Nat × Nat) (hc : lt2 c) (a ra : Option Addr) (cap rcap : Nat) (rs : List (List (Nat × Nat))) (r : List (Nat × Nat)) (h1 : rs.length ≤ 1000) (h2 : r.length ≤ 1000) (hlen : ∀ t ∈ rs, t.length ≤ 1000) (hrs : ltT rs) (hr : ltE r) (W : World) (hT : TRowC W a rs) (hE : ERow W ra r) :
    Calls Try.prog 10 #[.int .i64 lv, .int .i64 d, .agg #[.int .u64 (c.1 : Int), .int .u64 (c.2 : Int)], .slice a rs.length cap, .slice ra r.length rcap] W fun e w' => e = .returned (.tuple #[.agg #[.int .u64 ((vfR lv d c rs r).1.1 : Int), .int .u64 ((vfR lv d c rs r).1.2 : Int)], .int .i64 (vfR lv d c rs r).2]) ∧ Below W.heap.size W w' := by
  by_cases h0 : vhn lv d c rs r = 0
  · obtain ⟨k, n, hk, rfl, hn1, hn8, rfl, hf, hl, hL, _, or, ors⟩ := vhn_zero h0
    refine sver_ok k n hk hn1 hn8 hf c hc a ra cap rcap rs r hl h2 hL hrs hr or ors W hT hE h0 _ ?_
    unfold vfR
    rw [if_pos h0]
  · have e : vfR lv d c rs r = ((0, 0), vhn lv d c rs r) := by unfold vfR; rw [if_neg h0]
    rw [e]
    exact sver_err lv d _ c hc a ra cap rcap rs r h1 h2 hlen hrs hr W hT hE rfl h0
end Go.Proofs.Ytfhojakhoobnhaa
