/- The document's Verify over the seat's translation: steepleref20.Verify. -/
import Derived.Test.YtfhojakhoobnhaaScC
import Derived.Test.YtfhojakhoobnhaaPCbG
namespace Go.Proofs.Ytfhojakhoobnhaa
open Go.RowKit
open Cb Ln Sc
open Tw (pm)

theorem ends_xa {t : List (Nat × Nat)} (h : 2 ≤ t.length) : ends t = xa (el t 0) (el t 1) := by
  match t, h with
  | a :: b :: l, _ =>
    show xsum [a, b] = xa a b
    simp [xsum, xa]
theorem vfR_err {lv d E : Int} {c : Nat × Nat} {rs : List (List (Nat × Nat))} {r : List (Nat × Nat)} (h : vhn lv d c rs r = E) (h0 : ¬ E = 0) : vfR lv d c rs r = ((0, 0), E) := by
  unfold vfR
  rw [if_neg (by rw [h]; exact h0), h]
/-- A box of an element, and room for an answer. -/
structure Rc (W w : World) (c : Nat × Nat) : Prop where
  x : Ew w W.heap.size c.1 c.2
  r0 : w.cell? ⟨W.heap.size + 1, 0, none⟩ = some (.int .u64 0)
  r1 : w.cell? ⟨W.heap.size + 1, 1, none⟩ = some (.int .u64 0)
  r2 : w.cell? ⟨W.heap.size + 1, 2, none⟩ = some (.int .i64 0)
  f0 : w.frozen? ⟨W.heap.size + 1, 0, none⟩ = false
  f1 : w.frozen? ⟨W.heap.size + 1, 1, none⟩ = false
  f2 : w.frozen? ⟨W.heap.size + 1, 2, none⟩ = false
  d : Below W.heap.size W w
theorem Rc.below {W w w' : World} {c : Nat × Nat} (h : Rc W w c) (hb : Below w.heap.size w w') : Rc W w' c :=
  ⟨h.x.below hb, keepc hb h.r0, keepc hb h.r1, keepc hb h.r2, keepf hb h.r0 h.f0, keepf hb h.r1 h.f1, keepf hb h.r2 h.f2, h.d.trans (hb.mono h.d.size)⟩
theorem Rc.start (W : World) (c : Nat × Nat) (T U : TypeId) : Rc W ((W.alloc (Obj.cells #[.int .u64 (c.1 : Int), .int .u64 (c.2 : Int)] T)).alloc (Obj.cells #[.int .u64 0, .int .u64 0, .int .i64 0] U)) c :=
  ⟨⟨⟨by simp [go_sem], by simp [go_sem]⟩, by simp [go_sem], by simp [go_sem]⟩, by simp [go_sem], by simp [go_sem], by simp [go_sem], by simp [go_sem], by simp [go_sem], by simp [go_sem], by go_grown⟩
theorem below3 {B p : Nat} {W w : World} (h : Below B W w) (hp : B ≤ p) (u v x : Value) : Below B W (((w.setCell ⟨p, 0, none⟩ u).setCell ⟨p, 1, none⟩ v).setCell ⟨p, 2, none⟩ x) := ((h.setCell hp _).setCell hp _).setCell hp _
set_option maxHeartbeats 2000000 in
set_option maxRecDepth 100000 in
theorem rver_arg (lv d : Int) (c : Nat × Nat) (a ra : Option Addr) (cap rcap : Nat) (rs : List (List (Nat × Nat))) (r : List (Nat × Nat)) (W : World) (hv : d < 1 ∨ fitB lv d = false) (Y : (Nat × Nat) × Int) (hY : vfR lv d c rs r = Y) :
    Calls Try.prog 11 #[.int .i64 lv, .int .i64 d, .agg #[.int .u64 (c.1 : Int), .int .u64 (c.2 : Int)], .slice a rs.length cap, .slice ra r.length rcap] W fun e w' => e = .returned (.agg #[.int .u64 (Y.1.1 : Int), .int .u64 (Y.1.2 : Int), .int .i64 Y.2]) ∧ Below W.heap.size W w' := by
  have HY : Hid (Y = ((0, 0), 1)) := by
    show _ = _
    rw [← hY]
    refine vfR_err ?_ (by decide)
    unfold vhn; rw [if_pos hv]
  clear hY
  have K0 := Hid.mkS (Rc.start W c 34 36)
  have HF := Hid.mkS (rfits lv d)
  by_cases l0 : lv < 0
  · clear hv
    go_enter Try.func11, Try.ntmps11
    go_wp2
    refine bodyPost_ret (v := .agg #[.int .u64 0, .int .u64 0, .int .i64 1]) (by simp [results, Try.results11, go_sem, *]) rfl ⟨by rw [HY.out]; rfl, ?_⟩
    go_grown
  by_cases l7 : 7 < lv
  · clear hv
    go_enter Try.func11, Try.ntmps11
    go_wp2
    refine bodyPost_ret (v := .agg #[.int .u64 0, .int .u64 0, .int .i64 1]) (by simp [results, Try.results11, go_sem, *]) rfl ⟨by rw [HY.out]; rfl, ?_⟩
    go_grown
  by_cases d1 : d < 1
  · clear hv
    go_enter Try.func11, Try.ntmps11
    go_wp2
    refine bodyPost_ret (v := .agg #[.int .u64 0, .int .u64 0, .int .i64 1]) (by simp [results, Try.results11, go_sem, *]) rfl ⟨by rw [HY.out]; rfl, ?_⟩
    go_grown
  · have hf : fitB lv d = false := by rcases hv with h | h; exact absurd h d1; exact h
    rw [hf] at HF
    clear hv hf
    go_enter Try.func11, Try.ntmps11
    go_wp2_with (go_at_call 40; refine (HF.out.go _).mono ?_; rintro e w1 ⟨rfl, hb1⟩; have K1 := Hid.mkS (K0.out.below hb1); clear hb1 K0; obtain ⟨_, q0, q1, q2, f0, f1, f2, _⟩ := K1.out)
    refine bodyPost_ret (v := .agg #[.int .u64 0, .int .u64 0, .int .i64 1]) (by simp [results, Try.results11, go_sem, *]) rfl ⟨by rw [HY.out]; rfl, ?_⟩
    exact below3 (p := W.heap.size + 1) K1.out.d (by omega) _ _ _
/-- The answer's room, and the claim so far in a box of its own. -/
structure Rq (W w : World) (q : Nat) (y : Nat × Nat) : Prop where
  k : ∃ c, Rc W w c
  o : Ew w q y.1 y.2
  h : W.heap.size + 1 < q
theorem Rq.below {W w w' : World} {q : Nat} {y : Nat × Nat} (h : Rq W w q y) (hb : Below w.heap.size w w') : Rq W w' q y := by
  obtain ⟨⟨c, k⟩, o, hq⟩ := h
  exact ⟨⟨c, k.below hb⟩, o.below hb, hq⟩
theorem Rq.d {W w : World} {q : Nat} {y : Nat × Nat} (h : Rq W w q y) : Below W.heap.size W w := by
  obtain ⟨⟨c, k⟩, o, hq⟩ := h
  exact k.d
theorem Rq.put {W w : World} {q : Nat} {y : Nat × Nat} (h : Rq W w q y) (v : Nat × Nat) : Rq W ((w.setCell ⟨q, 0, none⟩ (.int .u64 (v.1 : Int))).setCell ⟨q, 1, none⟩ (.int .u64 (v.2 : Int))) q v := by
  obtain ⟨⟨c, k⟩, o, hq⟩ := h
  have n1 : ¬ q = W.heap.size + 1 := by omega
  have n2 : ¬ W.heap.size + 1 = q := by omega
  obtain ⟨x, r0, r1, r2, f0, f1, f2, d⟩ := k
  exact ⟨⟨c, x.other (by omega) _ _, by simp [go_sem, *], by simp [go_sem, *], by simp [go_sem, *], by simp [go_sem, *], by simp [go_sem, *], by simp [go_sem, *], below2 d (by omega) _ _⟩, o.set _ _, hq⟩
theorem Rc.toRq {W w : World} {c : Nat × Nat} (h : Rc W w c) (T : TypeId) : Rq W (w.alloc (Obj.cells #[.int .u64 (c.1 : Int), .int .u64 (c.2 : Int)] T)) w.heap.size c := by
  refine ⟨⟨c, h.below ((Below.refl _ _).alloc (Nat.le_refl _) _)⟩, Ew.newN w c T, ?_⟩
  have h1 := h.r0
  rcases Nat.lt_or_ge (W.heap.size + 1) w.heap.size with h2 | h2
  · exact h2
  · simp [World.cell?, Array.getElem?_eq_none h2] at h1
set_option maxHeartbeats 8000000 in
set_option maxRecDepth 100000 in
theorem rver_main (k n : Nat) (hk : k < 8) (hn1 : 1 ≤ n) (hn8 : n ≤ 8) (hf : fitB (k : Int) (n : Int) = true) (c : Nat × Nat) (hc : lt2 c) (a ra : Option Addr) (cap rcap : Nat) (rs : List (List (Nat × Nat))) (r : List (Nat × Nat)) (h1 : rs.length ≤ 1000) (h2 : r.length ≤ 1000) (hlen : ∀ t ∈ rs, t.length ≤ 1000) (hrs : ltT rs) (hr : ltE r) (W : World) (hT : TRow W a rs) (hE : ERow W ra r) (Y : (Nat × Nat) × Int) (hY : vfR (k : Int) (n : Int) c rs r = Y) :
    Calls Try.prog 11 #[.int .i64 (k : Int), .int .i64 (n : Int), .agg #[.int .u64 (c.1 : Int), .int .u64 (c.2 : Int)], .slice a rs.length cap, .slice ra r.length rcap] W fun e w' => e = .returned (.agg #[.int .u64 (Y.1.1 : Int), .int .u64 (Y.1.2 : Int), .int .i64 Y.2]) ∧ Below W.heap.size W w' := by
  have HF : Hid (Ret 40 #[.int .i64 (k : Int), .int .i64 (n : Int)] (.bool true)) := by
    have := rfits (k : Int) (n : Int)
    rw [hf] at this
    exact this
  have HO := Hid.mkS (rof_any (k : Int) c.1 c.2 hc.1 hc.2)
  have HA : Hid (∀ w, Below W.heap.size W w → Calls Try.prog 41 #[.int .i64 (k : Int), .slice ra r.length rcap] w fun e w' => e = .returned (.bool (r.all fun e => ofB (k : Int) (e.1 : Int) (e.2 : Int))) ∧ Below w.heap.size w w') := fun w hb => lrall (k : Int) ra rcap r hr w (hE.below hb) (by omega)
  have K0 := Hid.mkS (Rc.start W c 34 36)
  have HT := Hid.mkS hT
  have HR := Hid.mkS hE
  have HB : Hid (ltT rs ∧ (∀ t ∈ rs, t.length ≤ 1000) ∧ ltE r ∧ lt2 c ∧ fitB (k : Int) (n : Int) = true) := ⟨hrs, hlen, hr, hc, hf⟩
  have HYY := Hid.mkS hY
  have hA1 : ¬ ((n : Int) < 1 ∨ fitB (k : Int) (n : Int) = false) := by rintro (h | h); omega; rw [hf] at h; cases h
  have HA1 := Hid.mkS hA1
  have l0 : ¬ (k : Int) < 0 := by omega
  have l7 : ¬ 7 < (k : Int) := by omega
  have d1 : ¬ (n : Int) < 1 := by omega
  have hw : IntKind.i64.wrap ((n : Int) + 1) = (n : Int) + 1 := by rw [IntKind.wrap_i64]; omega
  obtain ⟨hN1, hN2⟩ : (((n : Int) + 1).toNat = n + 1) ∧ True := ⟨by omega, trivial⟩
  have HN := Hid.mkS hN1
  clear hT hE hrs hr hlen hY hA1 hc hf hN1 hN2
  by_cases hl : rs.length = r.length
  case neg =>
    have HY : Hid (Y = ((0, 0), 6)) := by
      show _ = _
      rw [← HYY.out]
      refine vfR_err ?_ (by decide)
      unfold vhn; rw [if_neg HA1.out, if_pos (Or.inl hl)]
    have hl' : ¬ (rs.length : Int) = (r.length : Int) := by omega
    clear HYY hl
    go_enter Try.func11, Try.ntmps11
    go_wp2_with (go_at_call 40; refine (HF.out.go _).mono ?_; rintro e w1 ⟨rfl, hb1⟩; have K1 := Hid.mkS (K0.out.below hb1); clear hb1 K0; obtain ⟨_, q0, q1, q2, f0, f1, f2, _⟩ := K1.out)
    refine bodyPost_ret (v := .agg #[.int .u64 0, .int .u64 0, .int .i64 6]) (by simp [results, Try.results11, go_sem, *]) rfl ⟨by rw [HY.out]; rfl, ?_⟩
    exact below3 (p := W.heap.size + 1) K1.out.d (by omega) _ _ _
  have HL := Hid.mkS hl
  have hl2 : ((rs.length : Int) != (r.length : Int)) = false := by simp [hl]
  clear hl
  go_enter Try.func11, Try.ntmps11
  go_wp2_with (go_at_call 40; refine (HF.out.go _).mono ?_; rintro e w1 ⟨rfl, hb1⟩; have K1 := Hid.mkS (K0.out.below hb1); clear hb1 K0)
  go_loopw [11] (fun u wr => ∃ j : Nat, j ≤ rs.length ∧ u = .int .i64 j ∧ Hid ((rs.take j).all (fun t => decide (t.length = n + 1)) = true) ∧ Hid (Rc W wr c)) (fun u _ => rs.length - (intOf u).toNat)
  case atStart => exact ⟨0, Nat.zero_le _, rfl, (by rfl), K1⟩
  case round =>
    obtain ⟨j, hj, rfl, HS, K⟩ := hrel
    clear K1
    by_cases hlt : j < rs.length
    · obtain ⟨b, off, ta, tc, rfl, hb, cb, hEr⟩ := HT.out.cells j hlt
      have db := keepc K.out.d cb
      have HS2 : Hid (rs.take (j + 1) = rs.take j ++ [tb rs j]) := take_ts rs j hlt
      have HM : Hid (tb rs j ∈ rs) := tb_mem hlt
      have j1 : (j : Int) < (rs.length : Int) := by omega
      have j2 : (0 : Int) ≤ (j : Int) := by omega
      clear cb hEr
      by_cases hx : (tb rs j).length = n + 1
      · have HS3 : Hid ((rs.take (j + 1)).all (fun t => decide (t.length = n + 1)) = true) := by show _ = _; rw [HS2.out, List.all_append, HS.out]; simp [hx]
        rw [hx] at db
        clear hx HS2 HS HM
        go_wp2_with fail
        exact ⟨⟨j + 1, hlt, by simp, HS3, K⟩, by simp [intOf]; omega⟩
      · have HY : Hid (Y = ((0, 0), 6)) := by
          show _ = _
          rw [← HYY.out]
          refine vfR_err ?_ (by decide)
          unfold vhn; rw [if_neg HA1.out, if_pos (Or.inr ?_)]
          rw [List.all_eq_false]; exact ⟨tb rs j, HM.out, by rw [HN.out]; simp [hx]⟩
        have hx2 : ¬ ((tb rs j).length : Int) = (n : Int) + 1 := by omega
        obtain ⟨_, q0, q1, q2, f0, f1, f2, _⟩ := K.out
        clear hx HYY HS2 HS HM
        generalize (tb rs j).length = len at *
        go_wp2_with fail
        refine bodyPost_ret (v := .agg #[.int .u64 0, .int .u64 0, .int .i64 6]) (by simp [results, Try.results11, go_sem, *]) rfl ⟨by rw [HY.out]; rfl, ?_⟩
        exact below3 (p := W.heap.size + 1) K.out.d (by omega) _ _ _
    · obtain rfl : j = rs.length := by omega
      have HS3 : Hid (lenT rs (n + 1)) := fun t ht => by
        have := HS.out
        rw [List.take_of_length_le (Nat.le_refl _)] at this
        exact of_decide_eq_true (List.all_eq_true.1 this t ht)
      have HA2 : Hid (¬ (¬ rs.length = r.length ∨ (rs.all fun t => decide (t.length = ((n : Int) + 1).toNat)) = false)) := by
        show ¬ _
        rintro (h | h)
        · exact h HL.out
        · obtain ⟨t, ht, e⟩ := List.all_eq_false.1 h
          exact e (by rw [HN.out]; simp [HS3.out t ht])
      clear HS hlt hj
      have x1 := K.out.x.hi
      have x0 := K.out.x.lo
      rcases hC : ofB (k : Int) (c.1 : Int) (c.2 : Int) with _ | _
      · have HY : Hid (Y = ((0, 0), 5)) := by
          show _ = _
          rw [← HYY.out]
          refine vfR_err ?_ (by decide)
          unfold vhn; rw [if_neg HA1.out, if_neg HA2.out, if_pos (Or.inl hC)]
        rw [hC] at HO
        clear hC HYY HA
        go_wp2_with (go_at_call 19; refine (HO.out.go _).mono ?_; rintro e w2 ⟨rfl, hb2⟩; have K2 := Hid.mkS (K.out.below hb2); clear hb2; have q0 := K2.out.r0; have q1 := K2.out.r1; have q2 := K2.out.r2; have f0 := K2.out.f0; have f1 := K2.out.f1; have f2 := K2.out.f2)
        refine bodyPost_ret (v := .agg #[.int .u64 0, .int .u64 0, .int .i64 5]) (by simp [results, Try.results11, go_sem, *]) rfl ⟨by rw [HY.out]; rfl, ?_⟩
        exact below3 (p := W.heap.size + 1) K2.out.d (by omega) _ _ _
      rw [hC] at HO
      rcases hR : (r.all fun e => ofB (k : Int) (e.1 : Int) (e.2 : Int)) with _ | _
      · have HY : Hid (Y = ((0, 0), 5)) := by
          show _ = _
          rw [← HYY.out]
          refine vfR_err ?_ (by decide)
          unfold vhn; rw [if_neg HA1.out, if_neg HA2.out, if_pos (Or.inr hR)]
        rw [hR] at HA
        clear hC hR HYY
        go_wp2_with (first | (go_at_call 19; refine (HO.out.go _).mono ?_; rintro e w2 ⟨rfl, hb2⟩; have K2 := Hid.mkS (K.out.below hb2); clear hb2; have q0 := K2.out.r0; have q1 := K2.out.r1; have q2 := K2.out.r2; have f0 := K2.out.f0; have f1 := K2.out.f1; have f2 := K2.out.f2) | (go_at_call 41; refine (HA.out _ K2.out.d).mono ?_; rintro e w3 ⟨rfl, hb3⟩; have K3 := Hid.mkS (K2.out.below hb3); clear hb3 q0 q1 q2 f0 f1 f2; have q0 := K3.out.r0; have q1 := K3.out.r1; have q2 := K3.out.r2; have f0 := K3.out.f0; have f1 := K3.out.f1; have f2 := K3.out.f2; have x1 := K3.out.x.hi; have x0 := K3.out.x.lo))
        refine bodyPost_ret (v := .agg #[.int .u64 0, .int .u64 0, .int .i64 5]) (by simp [results, Try.results11, go_sem, *]) rfl ⟨by rw [HY.out]; rfl, ?_⟩
        exact below3 (p := W.heap.size + 1) K3.out.d (by omega) _ _ _
      have HA3 : Hid (¬ (ofB (k : Int) (c.1 : Int) (c.2 : Int) = false ∨ (r.all fun e => ofB (k : Int) (e.1 : Int) (e.2 : Int)) = false)) := by
        show ¬ _
        rintro (h | h)
        · rw [hC] at h; cases h
        · rw [hR] at h; cases h
      rw [hR] at HA
      clear hC hR
      go_wp2_with (first | (go_at_call 19; refine (HO.out.go _).mono ?_; rintro e w2 ⟨rfl, hb2⟩; have K2 := Hid.mkS (K.out.below hb2); clear hb2; have q0 := K2.out.r0; have q1 := K2.out.r1; have q2 := K2.out.r2; have f0 := K2.out.f0; have f1 := K2.out.f1; have f2 := K2.out.f2) | (go_at_call 41; refine (HA.out _ K2.out.d).mono ?_; rintro e w3 ⟨rfl, hb3⟩; have K3 := Hid.mkS (K2.out.below hb3); clear hb3 q0 q1 q2 f0 f1 f2; have q0 := K3.out.r0; have q1 := K3.out.r1; have q2 := K3.out.r2; have f0 := K3.out.f0; have f1 := K3.out.f1; have f2 := K3.out.f2; have x1 := K3.out.x.hi; have x0 := K3.out.x.lo))
      clear q0 q1 q2 f0 f1 f2 x1 x0 K2 K
      go_loopw [12] (fun u wr => ∃ j : Nat, j ≤ rs.length ∧ u = .int .i64 j ∧ Hid (allG (k : Int) (rs.take j) = true) ∧ Hid (Rc W wr c)) (fun u _ => rs.length - (intOf u).toNat)
      case atStart => exact ⟨0, Nat.zero_le _, rfl, (by rfl), K3⟩
      case round =>
        obtain ⟨j, hj, rfl, HS, K⟩ := hrel
        clear K3
        by_cases hlt : j < rs.length
        · obtain ⟨b, off, ta, tc, rfl, hb, cb, hEr⟩ := HT.out.cells j hlt
          have db := keepc K.out.d cb
          have HS2 : Hid (rs.take (j + 1) = rs.take j ++ [tb rs j]) := take_ts rs j hlt
          have HM : Hid (tb rs j ∈ rs) := tb_mem hlt
          have HQ : Hid (∀ w, Below W.heap.size W w → Calls Try.prog 41 #[.int .i64 (k : Int), .slice ta (tb rs j).length tc] w fun e w' => e = .returned (.bool ((tb rs j).all fun e => ofB (k : Int) (e.1 : Int) (e.2 : Int))) ∧ Below w.heap.size w w') := fun w hb' => lrall (k : Int) ta tc (tb rs j) (HB.out.1 _ HM.out) w (hEr.below hb') (by have := HB.out.2.1 _ HM.out; omega)
          have j1 : (j : Int) < (rs.length : Int) := by omega
          have j2 : (0 : Int) ≤ (j : Int) := by omega
          clear cb hEr HA
          rcases hB : ((tb rs j).all fun e => ofB (k : Int) (e.1 : Int) (e.2 : Int)) with _ | _
          · rw [hB] at HQ
            have HY : Hid (Y = ((0, 0), 5)) := by
              show _ = _
              rw [← HYY.out]
              refine vfR_err ?_ (by decide)
              unfold vhn; rw [if_neg HA1.out, if_neg HA2.out, if_neg HA3.out, if_neg (fun h => by
                have := List.all_eq_true.1 h _ HM.out
                rw [hB] at this; cases this)]
            clear hB HYY HS HS2 HM
            generalize (tb rs j).length = len at *
            go_wp2_with (go_at_call 41; refine (HQ.out _ K.out.d).mono ?_; rintro e w5 ⟨rfl, hb5⟩; have K5 := Hid.mkS (K.out.below hb5); clear hb5; obtain ⟨_, q0, q1, q2, f0, f1, f2, _⟩ := K5.out)
            refine bodyPost_ret (v := .agg #[.int .u64 0, .int .u64 0, .int .i64 5]) (by simp [results, Try.results11, go_sem, *]) rfl ⟨by rw [HY.out]; rfl, ?_⟩
            exact below3 (p := W.heap.size + 1) K5.out.d (by omega) _ _ _
          · rw [hB] at HQ
            have HS4 : Hid (allG (k : Int) (rs.take (j + 1)) = true) := by show _ = _; rw [HS2.out]; unfold allG at HS ⊢; rw [List.all_append, HS.out]; simp only [List.all_cons, List.all_nil, Bool.and_true, Bool.true_and]; exact hB
            clear hB HS HS2 HM
            generalize (tb rs j).length = len at *
            go_wp2_with (go_at_call 41; refine (HQ.out _ K.out.d).mono ?_; rintro e w5 ⟨rfl, hb5⟩; have K5 := Hid.mkS (K.out.below hb5); clear hb5)
            exact ⟨⟨j + 1, hlt, by simp, HS4, K5⟩, by simp [intOf]; omega⟩
        · obtain rfl : j = rs.length := by omega
          have HA4 : Hid (allG (k : Int) rs = true) := by
            have := HS.out
            rwa [List.take_of_length_le (Nat.le_refl _)] at this
          have HY : Hid ((match vfy c rs r with | some y => (y, 0) | none => ((0, 0), 8)) = Y) := by
            show _ = _
            rw [← HYY.out]
            unfold vfR
            rw [if_pos (by unfold vhn; rw [if_neg HA1.out, if_neg HA2.out, if_neg HA3.out, if_pos HA4.out])]
            cases vfy c rs r <;> rfl
          clear HS hlt hj HYY HA1 HA2 HA3 HA4 HA HO HF
          have x1 := K.out.x.hi
          have x0 := K.out.x.lo
          have KQ := Hid.mkS (K.out.toRq 34)
          go_wp2_with fail
          obtain ⟨wp, hwp⟩ : ∃ wp, wp = wr.alloc (Obj.cells #[.int .u64 (c.1 : Int), .int .u64 (c.2 : Int)] 34) := ⟨_, rfl⟩
          obtain ⟨q, hq⟩ : ∃ q, q = wr.heap.size := ⟨_, rfl⟩
          rw [← hwp, ← hq] at KQ ⊢
          clear hwp hq x1 x0 K
          go_loopw [14] (fun u wr => ∃ (j : Nat) (y : Nat × Nat), j ≤ rs.length ∧ u = .int .i64 j ∧ Hid (vfy c rs r = vfy y (rs.drop j) (r.drop j) ∧ lt2 y) ∧ Hid (Rq W wr q y)) (fun u _ => rs.length - (intOf u).toNat)
          case atStart => exact ⟨0, c, Nat.zero_le _, rfl, ⟨by simp, HB.out.2.2.2.1⟩, KQ⟩
          case round =>
            obtain ⟨j, y, hj, rfl, HV, K⟩ := hrel
            clear KQ
            by_cases hlt : j < rs.length
            · have hlr : j < r.length := by rw [← HL.out]; exact hlt
              obtain ⟨b, off, ta, tc, rfl, hb, cb, hEr⟩ := HT.out.cells j hlt
              obtain ⟨b', off', rfl, hb', c1, c0⟩ := HR.out.cells j hlr
              have hlj := HS3.out.at hlt
              obtain ⟨b2, off2, rfl, hb2, e1, e0⟩ := hEr.cells 0 (by rw [hlj]; omega)
              obtain ⟨b3, off3, eb, _, e3, e2⟩ := hEr.cells 1 (by rw [hlj]; omega)
              simp only [Option.some.injEq, Addr.mk.injEq] at eb
              obtain ⟨rfl, rfl, _⟩ := eb
              rw [Nat.zero_mul, Nat.add_zero] at e1 e0
              rw [Nat.one_mul] at e3 e2
              rw [hlj] at cb
              obtain ⟨N, hN⟩ : ∃ N, N = n + 1 := ⟨_, rfl⟩
              have hN2 : (1 : Int) < (N : Int) := by omega
              have hN0 : (0 : Int) < (N : Int) := by omega
              have hN3 : 0 < N := by omega
              have hN4 : 1 < N := by omega
              have hN5 : ¬ N = 0 := by omega
              have HAt : Hid (∀ w, Below W.heap.size W w → Calls Try.prog 43 #[.int .i64 (k : Int), .slice (some ⟨b2, off2, none⟩) N tc, .agg #[.int .u64 ((r.getD j (0, 0)).1 : Int), .int .u64 ((r.getD j (0, 0)).2 : Int)]] w fun e w' => e = .returned (.agg #[.int .u64 ((atv (tb rs j) (r.getD j (0, 0))).1 : Int), .int .u64 ((atv (tb rs j) (r.getD j (0, 0))).2 : Int)]) ∧ Below w.heap.size w w') := fun w hb => by
                have := rat_ok k hk (some ⟨b2, off2, none⟩) tc (tb rs j) (r.getD j (0, 0)) (HB.out.1.at j) (HB.out.2.2.1.at j) (by rw [hlj]; omega) (by rw [hlj]; omega) (by rw [hlj]; exact fit_plk hk (by rw [show (((n + 1 : Nat) : Int) - 1) = (n : Int) by omega]; exact HB.out.2.2.2.2)) w (hEr.below hb)
                rw [hlj, show n + 1 - 1 = n by omega, nvv_atv (HB.out.1.at j) _ hlj (by omega), ← hN] at this
                exact this
              have HAdd : Hid (Ret 42 #[.agg #[.int .u64 ((el (tb rs j) 0).1 : Int), .int .u64 ((el (tb rs j) 0).2 : Int)], .agg #[.int .u64 ((el (tb rs j) 1).1 : Int), .int .u64 ((el (tb rs j) 1).2 : Int)]] (.agg #[.int .u64 ((ends (tb rs j)).1 : Int), .int .u64 ((ends (tb rs j)).2 : Int)])) := by
                rw [ends_xa (by rw [hlj]; omega)]
                exact lradd _ _ ((HB.out.1.at j).at 0) ((HB.out.1.at j).at 1)
              have HS5 : Hid (vfy c rs r = if ends (tb rs j) = y then vfy (atv (tb rs j) (r.getD j (0, 0))) (rs.drop (j + 1)) (r.drop (j + 1)) else none) := by show _ = _; rw [HV.out.1]; exact vfy_step hlt hlr
              have hLx : lt2 (atv (tb rs j) (r.getD j (0, 0))) := lt_atv _ _
              rw [← hN] at cb
              have HC : Hid (W.cell? ⟨b, off + j, none⟩ = some (.slice (some ⟨b2, off2, none⟩) N tc) ∧ W.cell? ⟨b', off' + j * 2, none⟩ = some (.int .u64 ((r.getD j (0, 0)).1 : Int)) ∧ W.cell? ⟨b', off' + j * 2 + 1, none⟩ = some (.int .u64 ((r.getD j (0, 0)).2 : Int)) ∧ W.cell? ⟨b2, off2, none⟩ = some (.int .u64 ((el (tb rs j) 0).1 : Int)) ∧ W.cell? ⟨b2, off2 + 1, none⟩ = some (.int .u64 ((el (tb rs j) 0).2 : Int)) ∧ W.cell? ⟨b2, off2 + 2, none⟩ = some (.int .u64 ((el (tb rs j) 1).1 : Int)) ∧ W.cell? ⟨b2, off2 + 2 + 1, none⟩ = some (.int .u64 ((el (tb rs j) 1).2 : Int))) := ⟨cb, c1, c0, e1, e0, e3, e2⟩
              have j1 : (j : Int) < (rs.length : Int) := by omega
              have j3 : (j : Int) < (r.length : Int) := by omega
              have j2 : (0 : Int) ≤ (j : Int) := by omega
              clear cb c1 c0 e1 e0 e3 e2 hEr HV hlj hN HT HR
              generalize atv (tb rs j) (r.getD j (0, 0)) = nx at *
              generalize ends (tb rs j) = en at *
              generalize r.getD j (0, 0) = x at *
              generalize el (tb rs j) 0 = t0 at *
              generalize el (tb rs j) 1 = t1 at *
              have x1 := K.out.o.hi
              have x0 := K.out.o.lo
              by_cases he : en = y
              · subst he
                have HW : Hid (vfy c rs r = vfy nx (rs.drop (j + 1)) (r.drop (j + 1))) := by show _ = _; rw [HS5.out, if_pos rfl]
                clear HS5
                go_upto_region 21 with fail
                go_region_held3 (fun w => w.cell? ⟨b, off + j, none⟩ = some (.slice (some ⟨b2, off2, none⟩) N tc) ∧ w.cell? ⟨b2, off2, none⟩ = some (.int .u64 (t0.1 : Int)) ∧ w.cell? ⟨b2, off2 + 1, none⟩ = some (.int .u64 (t0.2 : Int)) ∧ w.cell? ⟨b2, off2 + 2, none⟩ = some (.int .u64 (t1.1 : Int)) ∧ w.cell? ⟨b2, off2 + 2 + 1, none⟩ = some (.int .u64 (t1.2 : Int)) ∧ w.cell? ⟨q, 0, none⟩ = some (.int .u64 (en.1 : Int)) ∧ w.cell? ⟨q, 1, none⟩ = some (.int .u64 (en.2 : Int))) (first | (go_keep; done) | exact ⟨keepc K.out.d HC.out.1, keepc K.out.d HC.out.2.2.2.1, keepc K.out.d HC.out.2.2.2.2.1, keepc K.out.d HC.out.2.2.2.2.2.1, keepc K.out.d HC.out.2.2.2.2.2.2, K.out.o.hi, K.out.o.lo⟩) (first | (go_at_call 42; refine (HAdd.out.go _).mono ?_; rintro e w8 ⟨rfl, hb8⟩; have K' : Hid (Rq W w8 q en) := (by first | exact K.out.below hb8 | exact (K.out.below (Below.refl _ _).drew).below hb8); clear hb8 K x1 x0; have K := K'; clear K'; have x1 := K.out.o.hi; have x0 := K.out.o.lo))
                go_upto_region 23 with fail
                have hqq := K.out.h
                go_region_held3 (fun w => w.cell? ⟨b, off + j, none⟩ = some (.slice (some ⟨b2, off2, none⟩) N tc) ∧ w.cell? ⟨b', off' + j * 2, none⟩ = some (.int .u64 (x.1 : Int)) ∧ w.cell? ⟨b', off' + j * 2 + 1, none⟩ = some (.int .u64 (x.2 : Int))) (first | (go_keep; done) | exact ⟨keepc K.out.d HC.out.1, keepc K.out.d HC.out.2.1, keepc K.out.d HC.out.2.2.1⟩ | exact ⟨keepc (K.out.put nx).d HC.out.1, keepc (K.out.put nx).d HC.out.2.1, keepc (K.out.put nx).d HC.out.2.2.1⟩) (first | (go_at_call 43; refine (HAt.out _ (by first | exact K.out.d | exact K.out.d.drew)).mono ?_; rintro e w9 ⟨rfl, hb9⟩; have K' : Hid (Rq W w9 q en) := (by first | exact K.out.below hb9 | exact (K.out.below (Below.refl _ _).drew).below hb9); clear hb9 K x1 x0; have K := K'; clear K'; have x1 := K.out.o.hi; have x0 := K.out.o.lo; have g1 := K.out.o.fhi; have g0 := K.out.o.flo))
                go_wp2_with fail
                exact ⟨⟨j + 1, nx, hlt, by simp, ⟨HW.out, hLx⟩, K.out.put nx⟩, by simp [intOf]; omega⟩
              · have HW : Hid (Y = ((0, 0), 8)) := by show _ = _; rw [← HY.out, HS5.out, if_neg he]
                clear HS5 HY HAt
                by_cases e1 : (en.1 : Int) = (y.1 : Int)
                · have e2 : ¬ (en.2 : Int) = (y.2 : Int) := fun h => he (Prod.ext (by omega) (by omega))
                  clear he
                  have e1' : en.1 = y.1 := by omega
                  rw [e1'] at HAdd
                  clear e1 e1'
                  go_upto_region 21 with fail
                  go_region_held3 (fun w => w.cell? ⟨b, off + j, none⟩ = some (.slice (some ⟨b2, off2, none⟩) N tc) ∧ w.cell? ⟨b2, off2, none⟩ = some (.int .u64 (t0.1 : Int)) ∧ w.cell? ⟨b2, off2 + 1, none⟩ = some (.int .u64 (t0.2 : Int)) ∧ w.cell? ⟨b2, off2 + 2, none⟩ = some (.int .u64 (t1.1 : Int)) ∧ w.cell? ⟨b2, off2 + 2 + 1, none⟩ = some (.int .u64 (t1.2 : Int)) ∧ w.cell? ⟨q, 0, none⟩ = some (.int .u64 (y.1 : Int)) ∧ w.cell? ⟨q, 1, none⟩ = some (.int .u64 (y.2 : Int))) (first | (go_keep; done) | exact ⟨keepc K.out.d HC.out.1, keepc K.out.d HC.out.2.2.2.1, keepc K.out.d HC.out.2.2.2.2.1, keepc K.out.d HC.out.2.2.2.2.2.1, keepc K.out.d HC.out.2.2.2.2.2.2, K.out.o.hi, K.out.o.lo⟩) (first | (go_at_call 42; refine (HAdd.out.go _).mono ?_; rintro e w8 ⟨rfl, hb8⟩; have K' : Hid (Rq W w8 q y) := (by first | exact K.out.below hb8 | exact (K.out.below (Below.refl _ _).drew).below hb8); clear hb8 K x1 x0; have K := K'; clear K'; have x1 := K.out.o.hi; have x0 := K.out.o.lo))
                  obtain ⟨c', kk⟩ := K.out.k
                  obtain ⟨_, q0, q1, q2, f0, f1, f2, _⟩ := kk
                  go_wp2_with fail
                  refine bodyPost_ret (v := .agg #[.int .u64 0, .int .u64 0, .int .i64 8]) (by simp [results, Try.results11, go_sem, *]) rfl ⟨by rw [HW.out]; rfl, ?_⟩
                  exact below3 (p := W.heap.size + 1) K.out.d (by omega) _ _ _
                · clear he
                  go_upto_region 21 with fail
                  go_region_held3 (fun w => w.cell? ⟨b, off + j, none⟩ = some (.slice (some ⟨b2, off2, none⟩) N tc) ∧ w.cell? ⟨b2, off2, none⟩ = some (.int .u64 (t0.1 : Int)) ∧ w.cell? ⟨b2, off2 + 1, none⟩ = some (.int .u64 (t0.2 : Int)) ∧ w.cell? ⟨b2, off2 + 2, none⟩ = some (.int .u64 (t1.1 : Int)) ∧ w.cell? ⟨b2, off2 + 2 + 1, none⟩ = some (.int .u64 (t1.2 : Int)) ∧ w.cell? ⟨q, 0, none⟩ = some (.int .u64 (y.1 : Int)) ∧ w.cell? ⟨q, 1, none⟩ = some (.int .u64 (y.2 : Int))) (first | (go_keep; done) | exact ⟨keepc K.out.d HC.out.1, keepc K.out.d HC.out.2.2.2.1, keepc K.out.d HC.out.2.2.2.2.1, keepc K.out.d HC.out.2.2.2.2.2.1, keepc K.out.d HC.out.2.2.2.2.2.2, K.out.o.hi, K.out.o.lo⟩) (first | (go_at_call 42; refine (HAdd.out.go _).mono ?_; rintro e w8 ⟨rfl, hb8⟩; have K' : Hid (Rq W w8 q y) := (by first | exact K.out.below hb8 | exact (K.out.below (Below.refl _ _).drew).below hb8); clear hb8 K x1 x0; have K := K'; clear K'; have x1 := K.out.o.hi; have x0 := K.out.o.lo))
                  obtain ⟨c', kk⟩ := K.out.k
                  obtain ⟨_, q0, q1, q2, f0, f1, f2, _⟩ := kk
                  go_wp2_with fail
                  refine bodyPost_ret (v := .agg #[.int .u64 0, .int .u64 0, .int .i64 8]) (by simp [results, Try.results11, go_sem, *]) rfl ⟨by rw [HW.out]; rfl, ?_⟩
                  exact below3 (p := W.heap.size + 1) K.out.d (by omega) _ _ _
            · obtain rfl : j = rs.length := by omega
              have HW : Hid (Y = (y, 0)) := by
                have h1 := HV.out.1
                rw [List.drop_eq_nil_of_le (Nat.le_refl _), List.drop_eq_nil_of_le (by rw [HL.out]; exact Nat.le_refl _)] at h1
                show _ = _
                rw [← HY.out, h1]
                rfl
              have KD := Hid.mkS K.out.d
              have hqh := K.out.h
              obtain ⟨⟨x1, x0⟩, _, _⟩ := K.out.o
              obtain ⟨c', kk⟩ := K.out.k
              obtain ⟨_, q0, q1, q2, f0, f1, f2, _⟩ := kk
              clear K HV HY
              go_wp2
              refine bodyPost_ret (v := .agg #[.int .u64 (y.1 : Int), .int .u64 (y.2 : Int), .int .i64 0]) (by simp [results, Try.results11, go_sem, *]) rfl ⟨by rw [HW.out], ?_⟩
              exact below3 (p := W.heap.size + 1) KD.out (by omega) _ _ _
theorem rver (lv d : Int) (c : Nat × Nat) (hc : lt2 c) (a ra : Option Addr) (cap rcap : Nat) (rs : List (List (Nat × Nat))) (r : List (Nat × Nat)) (h1 : rs.length ≤ 1000) (h2 : r.length ≤ 1000) (hlen : ∀ t ∈ rs, t.length ≤ 1000) (hrs : ltT rs) (hr : ltE r) (W : World) (hT : TRow W a rs) (hE : ERow W ra r) :
    Calls Try.prog 11 #[.int .i64 lv, .int .i64 d, .agg #[.int .u64 (c.1 : Int), .int .u64 (c.2 : Int)], .slice a rs.length cap, .slice ra r.length rcap] W fun e w' => e = .returned (.agg #[.int .u64 ((vfR lv d c rs r).1.1 : Int), .int .u64 ((vfR lv d c rs r).1.2 : Int), .int .i64 (vfR lv d c rs r).2]) ∧ Below W.heap.size W w' := by
  by_cases hv : d < 1 ∨ fitB lv d = false
  · exact rver_arg lv d c a ra cap rcap rs r W hv _ rfl
  · have hf : fitB lv d = true := by
      cases hq : fitB lv d
      · exact absurd (Or.inr hq) hv
      · rfl
    have hd : 0 ≤ d ∧ d ≤ 8 := by
      unfold fitB at hf
      rw [Bool.and_eq_true] at hf
      exact of_decide_eq_true hf.1
    have hlv : 0 ≤ lv ∧ lv ≤ 7 := by
      refine Classical.byContradiction fun hn => ?_
      rw [fit_no (Or.inl hn)] at hf; cases hf
    have hd1 : ¬ d < 1 := fun h => hv (Or.inl h)
    obtain ⟨k, rfl⟩ : ∃ k : Nat, lv = (k : Int) := ⟨lv.toNat, by omega⟩
    obtain ⟨n, rfl⟩ : ∃ n : Nat, d = (n : Int) := ⟨d.toNat, by omega⟩
    exact rver_main k n (by omega) (by omega) (by omega) hf c hc a ra cap rcap rs r h1 h2 hlen hrs hr W hT hE _ rfl
end Go.Proofs.Ytfhojakhoobnhaa
