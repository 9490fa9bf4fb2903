/- The errors of claim.True over the seat's translation. -/
import Derived.Test.YtejoombhcnldmaaCmL
import Derived.Test.YtejoombhcnldmaaPWvD
namespace Go.Proofs.Ytejoombhcnldmaa
open Go.RowKit
open Cb

/-- What hinders claims about a table of columns. -/
def tuE (l c w : Int) (cl : List Stp) (z cs : List (Nat × Nat)) : Int := if chE l c w cl z (0, 0) = 0 then cfE l ((2 ^ (w.toNat + c.toNat) : Nat) : Int) cs else chE l c w cl z (0, 0)
set_option maxHeartbeats 2000000 in
set_option maxRecDepth 100000 in
theorem cmtrue_err (l c w : Int) (a a2 a3 : Option Addr) (cap cap2 cap3 : Nat) (cl : List Stp) (z cs : List (Nat × Nat)) (h10 : cl.length ≤ 100000) (h11 : z.length ≤ 100000) (h12 : cs.length ≤ 100000) (lz : ltE z) (lc : ltE cs) (hE : ¬ tuE l c w cl z cs = 0) (W : World) (hr : ORow W a cl) (hz : ERow W a2 z) (hc : ERow W a3 cs) :
    Calls Try.prog 25 #[.int .i64 l, .int .i64 c, .int .i64 w, .slice a cl.length cap, .slice a2 z.length cap2, .slice a3 cs.length cap3] W fun e w' => e = .returned (.tuple #[.slice none 0 0, .int .i64 (tuE l c w cl z cs)]) ∧ Below W.heap.size W w' := by
  have HH : Hid (∀ v, Below W.heap.size W v → Calls Try.prog 42 #[.int .i64 l, .int .i64 c, .int .i64 w, .slice a cl.length cap, .slice a2 z.length cap2, .agg #[.int .u64 0, .int .u64 0]] v fun e w' => e = .returned (.int .i64 (chE l c w cl z (0, 0))) ∧ Below v.heap.size v w') := fun v hb => cmhind l c w a a2 cap cap2 cl z (0, 0) h10 h11 lz ⟨Nat.two_pow_pos 64, Nat.two_pow_pos 64⟩ v (hr.below hb) (hz.below hb)
  by_cases h0 : chE l c w cl z (0, 0) = 0
  · obtain ⟨m, cn, wn, hm, rfl, hcn, rfl, hwn, rfl, hrest⟩ := ch_zero h0
    clear hrest
    obtain ⟨N, hN⟩ : ∃ N, N = 2 ^ (wn + cn) := ⟨_, rfl⟩
    have hN1 : N ≤ 4096 := by rw [hN]; exact Nat.le_trans (Nat.pow_le_pow_right (by decide) (show wn + cn ≤ 12 by omega)) (by decide)
    have ee : tuE (m : Int) (cn : Int) (wn : Int) cl z cs = cfE (m : Int) (N : Int) cs := by unfold tuE; rw [if_pos h0, Int.toNat_natCast, Int.toNat_natCast, hN]
    have e1 : IntKind.i64.wrap ((wn : Int) + (cn : Int)) = ((wn + cn : Nat) : Int) := by rw [IntKind.wrap_i64]; omega
    have e2 : IntKind.i64.wrap ((2 : Int) ^ (wn + cn)) = (N : Int) := by
      rw [IntKind.wrap_i64, show (2 : Int) ^ (wn + cn) = ((2 ^ (wn + cn) : Nat) : Int) by simp, ← hN]; omega
    have e3 : ¬ ((wn + cn : Nat) : Int) < 0 := by omega
    have e4 : ¬ (wn : Int) + (cn : Int) < 0 := by omega
    have e5 : ((wn : Int) + (cn : Int)).toNat = wn + cn := by omega
    have HF := hidC (fun (v : World) (hb : Below W.heap.size W v) => cmfit (m : Int) (N : Int) a3 cap3 cs lc h12 v (hc.below hb))
    rw [ee] at hE ⊢
    rw [h0] at HH
    generalize cfE (m : Int) (N : Int) cs = E at *
    have hE' : (E == 0) = false := by rw [beq_eq_false_iff_ne]; exact hE
    clear h0 ee hN hr hz hc lz lc h10 h11 h12
    go_enter Try.func25, Try.ntmps25
    go_wp2_with (first | (go_at_call 42; refine (HH.out _ (Below.refl _ _)).mono ?_; rintro e w1 ⟨rfl, hb1⟩; have K1 : Hid (Below W.heap.size W w1) := hb1; clear hb1 HH) | (go_at_call 46; refine (HF.out _ K1.out).mono ?_; rintro e w2 ⟨rfl, hb2⟩; have K2 : Hid (Below W.heap.size W w2) := K1.out.trans (hb2.mono K1.out.size); clear hb2 HF K1))
    refine bodyPost_ret (v := .tuple #[.slice none 0 0, .int .i64 E]) (by simp [results, Try.results25, go_sem, *]) rfl ⟨rfl, K2.out⟩
  · have ee : tuE l c w cl z cs = chE l c w cl z (0, 0) := by unfold tuE; rw [if_neg h0]
    rw [ee]
    generalize chE l c w cl z (0, 0) = E at *
    have hE' : (E == 0) = false := by rw [beq_eq_false_iff_ne]; exact h0
    clear ee hE hr hz hc lz lc h10 h11 h12
    go_enter Try.func25, Try.ntmps25
    go_wp2_with (go_at_call 42; refine (HH.out _ (Below.refl _ _)).mono ?_; rintro e w1 ⟨rfl, hb1⟩; have K1 : Hid (Below W.heap.size W w1) := hb1; clear hb1 HH)
    refine bodyPost_ret (v := .tuple #[.slice none 0 0, .int .i64 E]) (by simp [results, Try.results25, go_sem, *]) rfl ⟨rfl, K1.out⟩
end Go.Proofs.Ytejoombhcnldmaa

/- The document's side of layer 15 over the seat's translation: Value, All, May. -/
namespace Go.Proofs.Ytejoombhcnldmaa
open Go.RowKit
open Cb
open Tw (pm)

set_option maxHeartbeats 4000000 in
set_option maxRecDepth 100000 in
theorem rvalue_any (a c : Option Addr) (cap cap2 : Nat) (t p : List (Nat × Nat)) (ht : ltE t) (hp : ltE p) (h1 : t.length ≤ 1000) (h2 : p.length ≤ 1000) (W : World) (ha : ERow W a t) (hc : ERow W c p) :
    Calls Try.prog 24 #[.slice a t.length cap, .slice c p.length cap2] W fun e w' => e = .returned (.agg #[.int .u64 ((vl t p).1 : Int), .int .u64 ((vl t p).2 : Int)]) ∧ Below W.heap.size W w' := by
  have HA : Hid (ERow W a t) := ha
  have HT : Hid (ltE t) := ht
  have HW : Hid (∀ (j : Nat) (w : World), j ≤ 1000 → Below W.heap.size W w → Calls Try.prog 51 #[.slice c p.length cap2, .int .i64 (j : Int)] w fun e w' => e = .returned (.agg #[.int .u64 ((wt p j).1 : Int), .int .u64 ((wt p j).2 : Int)]) ∧ Below w.heap.size w w') := fun j w hj hb => rweight_any c cap2 j p hp h2 hj w (hc.below hb)
  clear ha ht hc hp
  go_enter Try.func24, Try.ntmps24
  go_wp2_with fail
  have K0 : Wst W ((W.alloc (Obj.cells #[.int .u64 0, .int .u64 0] 34)).alloc (Obj.cells #[.int .u64 0, .int .u64 0] 34)) (W.heap.size + 1) (0, 0) :=
    ⟨⟨⟨by simp [go_sem], by simp [go_sem]⟩, by simp [go_sem], by simp [go_sem]⟩, ⟨⟨by simp [go_sem], by simp [go_sem]⟩, by simp [go_sem], by simp [go_sem]⟩, by go_grown⟩
  go_loopw [6] (fun u wr => ∃ (j : Nat) (o : Nat × Nat), j ≤ t.length ∧ u = .int .i64 j ∧ Hid (o = xs j (fun i => pm (el t i) (wt p i)) ∧ lt2 o) ∧ Wst W wr (W.heap.size + 1) o) (fun u _ => t.length - (intOf u).toNat)
  case atStart => exact ⟨0, (0, 0), Nat.zero_le _, rfl, ⟨rfl, lt_zero⟩, K0⟩
  case round =>
    obtain ⟨j, o, hj, rfl, HS, K⟩ := hrel
    clear K0
    have hq : W.heap.size < W.heap.size + 1 := by omega
    by_cases hlt : j < t.length
    · obtain ⟨b, off, rfl, hb, c1, c0⟩ := HA.out.cells j hlt
      have HC : Hid (b < W.heap.size ∧ W.cell? ⟨b, off + j * 2, none⟩ = some (.int .u64 ((el t j).1 : Int)) ∧ W.cell? ⟨b, off + j * 2 + 1, none⟩ = some (.int .u64 ((el t j).2 : Int))) := ⟨hb, c1, c0⟩
      have hx : lt2 (el t j) := HT.out.at j
      have HWj : Hid (∀ (w : World), Below W.heap.size W w → Calls Try.prog 51 #[.slice c p.length cap2, .int .i64 (j : Int)] w fun e w' => e = .returned (.agg #[.int .u64 ((wt p j).1 : Int), .int .u64 ((wt p j).2 : Int)]) ∧ Below w.heap.size w w') := fun w => HW.out j w (by omega)
      have HN : Hid (xa o (pm (el t j) (wt p j)) = xs (j + 1) (fun i => pm (el t i) (wt p i)) ∧ lt2 (xa o (pm (el t j) (wt p j)))) := ⟨by rw [HS.out.1]; rfl, lt_xa HS.out.2 (lt_pm _ _)⟩
      have ho : lt2 o := HS.out.2
      have hy : lt2 (wt p j) := lt_wt p j
      clear c1 c0 hb HA HT HW HS
      generalize el t j = x at *
      generalize wt p j = y at *
      have H1 := rprod x y hx hy
      have H2 := rsum o (pm x y) ho (lt_pm _ _)
      clear hx hy ho
      generalize xa o (pm x y) = z at *
      generalize pm x y = z2 at *
      go_upto_region 5 with fail
      obtain ⟨x1, x0, s1, s0, t1, t0⟩ := K.facts HC.out
      go_region_with (first | (go_at_call 51; refine (HWj.out _ (by first | exact K.d | exact K.d.drew)).mono ?_; rintro e w' ⟨rfl, hb'⟩; have K'' := Wst.below (w' := w') (by first | exact K | exact K.drew) hb'; clear x1 x0 s1 s0 t1 t0 K hb'; have K := K''; clear K''; (try simp only [World.size_drew] at K); obtain ⟨x1, x0, s1, s0, t1, t0⟩ := K.facts HC.out) | (go_at_call 38; refine (H2.go _).mono ?_; rintro e w' ⟨rfl, hb'⟩; have K'' := Wst.below (w' := w') (by first | exact K | exact K.drew) hb'; clear x1 x0 s1 s0 t1 t0 K hb'; have K := K''; clear K''; (try simp only [World.size_drew] at K); obtain ⟨x1, x0, s1, s0, t1, t0⟩ := K.facts HC.out) | (go_at_call 39; refine (H1.go _).mono ?_; rintro e w' ⟨rfl, hb'⟩; have K'' := Wst.below (w' := w') (by first | exact K | exact K.drew) hb'; clear x1 x0 s1 s0 t1 t0 K hb'; have K := K''; clear K''; (try simp only [World.size_drew] at K); obtain ⟨x1, x0, s1, s0, t1, t0⟩ := K.facts HC.out))
      all_goals
        go_wp2
        exact ⟨⟨j + 1, z, hlt, by simp, HN.out, K.put hq z⟩, by simp [intOf]; omega⟩
    · obtain rfl : j = t.length := by omega
      have e0 : o = vl t p := HS.out.1
      subst e0
      have HD : Hid (Below W.heap.size W wr) := K.d
      obtain ⟨⟨o1, o0⟩, _, _⟩ := K.o
      obtain ⟨⟨r1, r0⟩, t1, t0⟩ := K.r
      clear K HS HA HT HW
      go_wp2
      refine bodyPost_ret (v := .agg #[.int .u64 ((vl t p).1 : Int), .int .u64 ((vl t p).2 : Int)]) (by simp [results, Try.results24, go_sem, *]) rfl ⟨rfl, ?_⟩
      exact below2 (p := W.heap.size) HD.out (Nat.le_refl _) _ _
set_option maxHeartbeats 2000000 in
/-- The document's side: are all elements of a level? -/
theorem rall15 (l : Int) (a : Option Addr) (cap : Nat) (es : List (Nat × Nat)) (hes : ltE es) (W : World) (hr : ERow W a es) (h10 : es.length ≤ 100000) :
    Calls Try.prog 23 #[.int .i64 l, .slice a es.length cap] W fun e w' => e = .returned (.bool (es.all fun e => ofB l (e.1 : Int) (e.2 : Int))) ∧ Below W.heap.size W w' := by
  have HR : Hid (ERow W a es) := hr
  have HO : Hid (∀ j : Nat, Ret 20 #[.int .i64 l, .agg #[.int .u64 ((es.getD j (0, 0)).1 : Int), .int .u64 ((es.getD j (0, 0)).2 : Int)]] (.bool (ofB l ((es.getD j (0, 0)).1 : Int) ((es.getD j (0, 0)).2 : Int)))) := fun j => rof_any l _ _ (hes.at j).1 (hes.at j).2
  clear hr hes
  go_enter Try.func23, Try.ntmps23
  go_wp2_with fail
  go_loopw [5] (fun u wr => ∃ j : Nat, j ≤ es.length ∧ u = .int .i64 j ∧ Hid ((es.take j).all (fun e => ofB l (e.1 : Int) (e.2 : Int)) = true) ∧ Below W.heap.size W wr) (fun u _ => es.length - (intOf u).toNat)
  case atStart => exact ⟨0, Nat.zero_le _, rfl, (by rfl), Below.refl _ _⟩
  case round =>
    obtain ⟨j, hj, rfl, HT, hD⟩ := hrel
    by_cases hlt : j < es.length
    · obtain ⟨b, off, rfl, hb, c1, c0⟩ := HR.out.cells j hlt
      have d1 : wr.cell? ⟨b, off + j * 2, none⟩ = some (.int .u64 ((es.getD j (0, 0)).1 : Nat)) := by rw [hD.cell (p := ⟨b, off + j * 2, none⟩) hb]; exact c1
      have d0 : wr.cell? ⟨b, off + j * 2 + 1, none⟩ = some (.int .u64 ((es.getD j (0, 0)).2 : Nat)) := by rw [hD.cell (p := ⟨b, off + j * 2 + 1, none⟩) hb]; exact c0
      have H1 := HO.out j
      have HD : Hid (Below W.heap.size W wr) := hD
      have HS : Hid (es.take (j + 1) = es.take j ++ [es.getD j (0, 0)]) := take_sn es j hlt
      have HM : Hid (es.getD j (0, 0) ∈ es) := by show _ ∈ _; rw [show es.getD j (0, 0) = es[j] by simp [hlt]]; exact List.getElem_mem hlt
      clear hD c1 c0 HR HO
      generalize es.getD j (0, 0) = x at *
      rcases hB : ofB l (x.1 : Int) (x.2 : Int) with _ | _
      · rw [hB] at H1
        go_wp2_with fail
        refine (H1.go _).mono ?_
        rintro e w4 ⟨rfl, hb4⟩
        have HD4 : Hid (Below W.heap.size W w4) := HD.out.trans (hb4.mono HD.out.size)
        clear hb4 d1 d0 HD
        go_wp2
        go_ret
        refine ⟨?_, HD4.out⟩
        rw [show (es.all fun e => ofB l (e.1 : Int) (e.2 : Int)) = false from by
          rw [List.all_eq_false]; exact ⟨x, HM.out, by rw [hB]; decide⟩]
        rfl
      · rw [hB] at H1
        go_wp2_with fail
        refine (H1.go _).mono ?_
        rintro e w4 ⟨rfl, hb4⟩
        have HD4 : Hid (Below W.heap.size W w4) := HD.out.trans (hb4.mono HD.out.size)
        clear hb4 d1 d0 HD
        go_wp2
        exact ⟨⟨j + 1, hlt, by simp, (by show _ = _; rw [HS.out, List.all_append, HT.out]; simp [hB]), HD4.out⟩, by simp [intOf]; omega⟩
    · have HD : Hid (Below W.heap.size W wr) := hD
      obtain rfl : j = es.length := by omega
      clear hD
      go_wp2
      go_ret
      refine ⟨?_, HD.out⟩
      have := HT.out
      rw [List.take_of_length_le (Nat.le_refl _)] at this
      rw [this]
      rfl
end Go.Proofs.Ytejoombhcnldmaa
