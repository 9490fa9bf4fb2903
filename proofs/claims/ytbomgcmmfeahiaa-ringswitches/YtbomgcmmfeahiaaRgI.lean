/- RingSwitches over the seat's translation: the walk where nothing is too long. -/
import Derived.Test.YtbomgcmmfeahiaaRgH
namespace Go.Proofs.Ytbomgcmmfeahiaa
open Go.RowKit
open Cb
open Rg
open Tw (pm)

/-- What the law holds behind its calls: the value, the sum, and four rows. -/
structure Sz (W w : World) (qv qs : Nat) (v s : Nat × Nat) (gb gp gt gm : Option Addr) (B P T M : List (Nat × Nat)) : Prop where
  v : El w qv v.1 v.2
  s : El w qs s.1 s.2
  b : ERow w gb B
  p : ERow w gp P
  t : ERow w gt T
  m : ERow w gm M
  d : Below W.heap.size W w
theorem Sz.below {W w w' : World} {qv qs : Nat} {v s : Nat × Nat} {gb gp gt gm : Option Addr} {B P T M : List (Nat × Nat)} (h : Sz W w qv qs v s gb gp gt gm B P T M) (hb : Below w.heap.size w w') : Sz W w' qv qs v s gb gp gt gm B P T M :=
  ⟨h.v.below hb, h.s.below hb, h.b.below hb, h.p.below hb, h.t.below hb, h.m.below hb, h.d.trans (hb.mono h.d.size)⟩
theorem Sz.drew {W w : World} {qv qs : Nat} {v s : Nat × Nat} {gb gp gt gm : Option Addr} {B P T M : List (Nat × Nat)} (h : Sz W w qv qs v s gb gp gt gm B P T M) : Sz W w.drew qv qs v s gb gp gt gm B P T M := h.below (Below.refl _ _).drew
theorem Sz.facts {W w : World} {qv qs : Nat} {v s : Nat × Nat} {gb gp gt gm : Option Addr} {B P T M : List (Nat × Nat)} (h : Sz W w qv qs v s gb gp gt gm B P T M) :
    w.cell? ⟨qv, 0, none⟩ = some (.int .u64 (v.1 : Int)) ∧ w.cell? ⟨qv, 1, none⟩ = some (.int .u64 (v.2 : Int)) ∧ w.cell? ⟨qs, 0, none⟩ = some (.int .u64 (s.1 : Int)) ∧ w.cell? ⟨qs, 1, none⟩ = some (.int .u64 (s.2 : Int)) := ⟨h.v.hi, h.v.lo, h.s.hi, h.s.lo⟩
theorem own_brow {w : World} {base : Nat} {T : TypeId} {v : Value} {es : List (Nat × Nat)} {n : Nat} (hn : es.length = n) (h : w.ownsRow base T 2 v n (flat es)) : ∃ a cap, v = .slice a n cap ∧ ERow w a es := by
  subst hn; exact own_row h
set_option maxHeartbeats 40000000 in
set_option maxRecDepth 100000 in
theorem rs_main (l : Int) (a a2 a3 ar : Option Addr) (c c2 c3 cr : Nat) (bs : List Bool) (lo hi r : List (Nat × Nat)) (n1 : bs.length ≤ 130) (n2 : lo.length ≤ 6) (n3 : hi.length ≤ 6) (n4 : l ≤ 5 ∨ 7 < l) (n5 : r.length ≤ 6) (ll : ltE lo) (lh : ltE hi) (lr : ltE r) (e2 : a2 = none → lo.length = 0) (e3 : a3 = none → hi.length = 0)
    (W : World) (ra : BRow W a bs) (rl : ERow W a2 lo) (rh : ERow W a3 hi) (rr : ERow W ar r) :
    Calls Try.prog 6 #[.int .i64 l, .agg #[.slice a bs.length c, .slice a2 lo.length c2, .slice a3 hi.length c3], .slice ar r.length cr] W fun e w' => e = .returned (.bool true) ∧ Below W.heap.size W w' := by
  have AW := hidT awake23
  have HF := hidT (few23_yes l a a2 a3 bs.length lo.length hi.length c c2 c3 n1 n2 n3 n4)
  have hr6 : ¬ 6 < (r.length : Int) := by omega
  have HP := hidT (fun w (hb : Below W.heap.size W w) => rparts_tot l a a3 bs.length c c3 bs hi rfl (by omega) lh (by omega) w (ra.below hb) (rh.below hb))
  have HV := hidT (fun w (hb : Below W.heap.size W w) (g : Option Addr) (cp : Nat) (ps : List (Nat × Nat)) (hp : ERow w g ps) (hl : ltE ps) (hn : ps.length ≤ 128) => rval_tot l g a2 cp c2 ps lo hl ll (by omega) (by omega) w hp (rl.below hb))
  have HB := hidT (fun w (hb : Below W.heap.size W w) (g : Option Addr) (cp : Nat) (ps : List (Nat × Nat)) (hp : ERow w g ps) (hl : ltE ps) (hn : ps.length ≤ 128) => rbat_tot l g ar cp cr ps r hl lr (by omega) (by omega) w hp (rr.below hb))
  have HM := hidT (fun w (hb : Below W.heap.size W w) => rmask_tot l a3 ar c3 cr hi r lh lr (by omega) (by omega) w (rh.below hb) (rr.below hb))
  have HK := hidT (fun w (hb : Below W.heap.size W w) => rpack_tot l a bs.length c bs rfl (by omega) w (ra.below hb))
  have HIN : Hid (BRow W a bs ∧ ERow W a2 lo ∧ ERow W a3 hi ∧ ltE lo ∧ ltE hi ∧ (a2 = none → lo.length = 0) ∧ (a3 = none → hi.length = 0)) := ⟨ra, rl, rh, ll, lh, e2, e3⟩
  have HEN : Hid (bs.length ≤ 130 ∧ lo.length ≤ 6 ∧ hi.length ≤ 6) := ⟨n1, n2, n3⟩
  have HSW := hidT (fun (ps ms ts : List (Nat × Nat)) (v s : Nat × Nat) => switch_eq (l := l) (n := bs.length) (bs := bs) (lo := lo) (hi := hi) (r := r) (ps := ps) (ms := ms) (ts := ts) (v := v) (s := s) rfl lh)
  clear ra rl rh rr ll lh lr e2 e3 n1 n2 n3 n4 n5
  go_enter Try.func6, Try.ntmps6
  go_upto_region 8 with (first
    | (go_at_call 8; refine (HF.out.go _).mono ?_; rintro e w1 ⟨rfl, hb1⟩; have K1 : Hid (Sx W w1 (.slice a bs.length c) (.slice a2 lo.length c2) (.slice a3 hi.length c3)) := (Sx.new W _ _ _ _).below hb1; clear hb1 HF; have Y0 := K1.out.c0; have Y2 := K1.out.c2)
    | (go_at_call 12; refine (HP.out _ K1.out.d).mono ?_; rintro e w2 ⟨g7, c7, ps, rfl, hr2, hq2, hb2⟩; have K2 : Hid (Sx W w2 (.slice a bs.length c) (.slice a2 lo.length c2) (.slice a3 hi.length c3) ∧ ERow w2 g7 ps) := ⟨K1.out.below hb2, hr2⟩; have Q2 := hidT hq2; clear hb2 hr2 hq2 HP K1 Y0 Y2; have Y1 := K2.out.1.c1)
    | (go_at_call 19; refine (HV.out _ K2.out.1.d _ _ _ K2.out.2 Q2.out.1 Q2.out.2.1).mono ?_; rintro e w3 ⟨v, rfl, hv3, _, hb3⟩; have K3 : Hid (Sx W (w3.alloc (Obj.cells #[.int .u64 (v.1 : Int), .int .u64 (v.2 : Int)] 42)) (.slice a bs.length c) (.slice a2 lo.length c2) (.slice a3 hi.length c3) ∧ ERow (w3.alloc (Obj.cells #[.int .u64 (v.1 : Int), .int .u64 (v.2 : Int)] 42)) g7 ps ∧ El (w3.alloc (Obj.cells #[.int .u64 (v.1 : Int), .int .u64 (v.2 : Int)] 42)) w3.heap.size v.1 v.2) := ⟨(K2.out.1.below hb3).below ((Below.refl _ _).alloc (Nat.le_refl _) _), (K2.out.2.below hb3).below ((Below.refl _ _).alloc (Nat.le_refl _) _), El.newR w3 v _⟩; have Q3 := hidT hv3; clear hb3 hv3 HV K2 Y1)
    | (go_at_call 22; refine (HB.out _ K3.out.1.d _ _ _ K3.out.2.1 Q2.out.1 Q2.out.2.1).mono ?_; rintro e w4 ⟨s, rfl, hv4, _, hb4⟩; have K4 : Hid (Sx W (w4.alloc (Obj.cells #[.int .u64 (s.1 : Int), .int .u64 (s.2 : Int)] 42)) (.slice a bs.length c) (.slice a2 lo.length c2) (.slice a3 hi.length c3) ∧ El (w4.alloc (Obj.cells #[.int .u64 (s.1 : Int), .int .u64 (s.2 : Int)] 42)) w3.heap.size v.1 v.2 ∧ El (w4.alloc (Obj.cells #[.int .u64 (s.1 : Int), .int .u64 (s.2 : Int)] 42)) w4.heap.size s.1 s.2) := ⟨(K3.out.1.below hb4).below ((Below.refl _ _).alloc (Nat.le_refl _) _), (K3.out.2.2.below hb4).alloc _, El.newR w4 s _⟩; have Q4 := hidT hv4; clear hb4 hv4 HB K3; have Y2 := K4.out.1.c2)
    | (go_at_call 24; refine (HM.out _ K4.out.1.d).mono ?_; rintro e w5 ⟨gm, cm, ms, rfl, hr5, hq5, hb5⟩; have K5 : Hid (Sx W w5 (.slice a bs.length c) (.slice a2 lo.length c2) (.slice a3 hi.length c3) ∧ El w5 w3.heap.size v.1 v.2 ∧ El w5 w4.heap.size s.1 s.2 ∧ ERow w5 gm ms) := ⟨K4.out.1.below hb5, K4.out.2.1.below hb5, K4.out.2.2.below hb5, hr5⟩; have Q5 := hidT hq5; clear hb5 hr5 hq5 HM K4 Y2; have Y0 := K5.out.1.c0)
    | (go_at_call 11; refine (HK.out _ K5.out.1.d).mono ?_; rintro e w6 ⟨gt, ct, ts, rfl, hr6, hq6, hb6⟩; have K6 : Hid (Sx W w6 (.slice a bs.length c) (.slice a2 lo.length c2) (.slice a3 hi.length c3) ∧ El w6 w3.heap.size v.1 v.2 ∧ El w6 w4.heap.size s.1 s.2 ∧ ERow w6 gm ms ∧ ERow w6 gt ts) := ⟨K5.out.1.below hb6, K5.out.2.1.below hb6, K5.out.2.2.1.below hb6, K5.out.2.2.2.below hb6, hr6⟩; have Q6 := hidT hq6; clear hb6 hr6 hq6 HK K5 Y0))
  have HVS : Hid (rpE l bs.length hi = 0 → rgh l ps lo = 0 → rgh l ps r = 0 → rgm l hi r = 0 → hvE l bs.length = 0 → v = vl (bE bs) (lo ++ hi) ∧ s = dotv l ts ms) := fun h1 h2 h3 h4 h5 => HSW.out ps ms ts v s h1 (Q2.out.2.2 h1) h2 (Q3.out h2) h3 (Q4.out h3) (Q5.out.2.2.1 h4) (Q6.out.2.2.1 h5)
  have HLN : Hid (ltE ms ∧ ms.length ≤ 64 ∧ ltE ts ∧ ts.length ≤ 130) := ⟨Q5.out.1, Nat.le_trans Q5.out.2.1 (Nat.le_trans (Nat.pow_le_pow_right (by decide) HEN.out.2.2) (by decide)), Q6.out.1, Nat.le_trans Q6.out.2.1 HEN.out.1⟩
  clear HSW Q2 Q3 Q4 Q5 Q6
  generalize rpE l bs.length hi = E1 at *
  generalize rgh l ps lo = E2 at *
  generalize rgh l ps r = E3 at *
  generalize rgm l hi r = E4 at *
  generalize hvE l bs.length = E5 at *
  generalize w3.heap.size = q9 at *
  generalize w4.heap.size = q11 at *
  by_cases hE : E1 = 0 ∧ E2 = 0 ∧ E3 = 0 ∧ E4 = 0 ∧ E5 = 0
  · obtain ⟨rfl, rfl, rfl, rfl, rfl⟩ := hE
    obtain ⟨ev, es⟩ := HVS.out rfl rfl rfl rfl rfl
    clear HVS
    have HVL : Hid (∀ (w : World) (gb gp : Option Addr) (cb cp : Nat), ERow w gb (bE bs) → ERow w gp (lo ++ hi) → Calls Try.prog 21 #[.slice gb bs.length cb, .slice gp (lo.length + hi.length) cp] w fun e w' => e = .returned (.agg #[.int .u64 (v.1 : Int), .int .u64 (v.2 : Int)]) ∧ Below w.heap.size w w') := fun w gb gp cb cp h1 h2 => by
      have := rvalue_any gb gp cb cp (bE bs) (lo ++ hi) (bE_lt bs) (fun e he => by rcases List.mem_append.1 he with h | h; exact HIN.out.2.2.2.1 e h; exact HIN.out.2.2.2.2.1 e h) (by rw [bE_len]; have := HEN.out; omega) (by rw [List.length_append]; have := HEN.out; omega) w h1 h2
      rw [bE_len, List.length_append, ← ev] at this
      exact this
    have HDT : Hid (∀ (w : World) (gt gm : Option Addr) (ct cm : Nat), ERow w gt ts → ERow w gm ms → Calls Try.prog 28 #[.int .i64 l, .slice gt ts.length ct, .slice gm ms.length cm] w fun e w' => e = .returned (.agg #[.int .u64 (s.1 : Int), .int .u64 (s.2 : Int)]) ∧ Below w.heap.size w w') := fun w gt gm ct cm h1 h2 => by
      have := rdot_any l gt gm ct cm ts ms HLN.out.2.2.1 HLN.out.1 (by have := HLN.out; omega) w h1 h2
      rw [← es] at this
      exact this
    have HRP : Hid (∀ (w : World) (gp : Option Addr) (cp : Nat), ERow w gp (lo ++ hi) → Calls Try.prog 10 #[.slice gp (lo.length + hi.length) cp] w fun e w' => ∃ a' cap', e = .returned (.slice a' (lo.length + hi.length) cap') ∧ ERow w' a' (lo ++ hi) ∧ Below w.heap.size w w') := fun w gp cp h => by
      have := ref_row gp cp (lo ++ hi) (by rw [List.length_append]; have := HEN.out; omega) w h
      rw [List.length_append] at this
      exact this
    have HRT : Hid (∀ (w : World) (g : Option Addr) (cp : Nat), ERow w g ts → Calls Try.prog 10 #[.slice g ts.length cp] w fun e w' => ∃ a' cap', e = .returned (.slice a' ts.length cap') ∧ ERow w' a' ts ∧ Below w.heap.size w w') := fun w g cp h => ref_row g cp ts (by have := HLN.out; omega) w h
    have HRM : Hid (∀ (w : World) (g : Option Addr) (cp : Nat), ERow w g ms → Calls Try.prog 10 #[.slice g ms.length cp] w fun e w' => ∃ a' cap', e = .returned (.slice a' ms.length cap') ∧ ERow w' a' ms ∧ Below w.heap.size w w') := fun w g cp h => ref_row g cp ms (by have := HLN.out; omega) w h
    clear ev es
    obtain ⟨i0, hi0, hz0, hz1, hz2⟩ := info_relem
    have HI : Hid (Try.prog.info? 46 = some i0 ∧ i0.zero = some (.agg #[.int .u64 0, .int .u64 0]) ∧ i0.size = 2 ∧ i0.bytes = 16) := ⟨hi0, hz0, hz1, hz2⟩
    obtain ⟨j0, hj0, hy0, hy1, hy2⟩ := info_elem
    have HJ : Hid (Try.prog.info? 42 = some j0 ∧ j0.zero = some (.agg #[.int .u64 0, .int .u64 0]) ∧ j0.size = 2 ∧ j0.bytes = 16) := ⟨hj0, hy0, hy1, hy2⟩
    clear hi0 hz0 hz1 hz2 hj0 hy0 hy1 hy2
    have Y0 := K6.out.1.c0
    have HBR : Hid (BRow w6 a bs) := HIN.out.1.below K6.out.1.d
    have HBL : Hid ((bE bs).length = bs.length) := bE_len bs
    go_wp2_with fail
    go_loopw [17, 18] (fun s u wr => ∃ j : Nat, j ≤ bs.length ∧ u = .int .i64 j ∧ Hid (wr.ownsRow w6.heap.size 46 2 s j (flat ((bE bs).take j)) ∧ Below w6.heap.size w6 wr)) (fun _ u _ => bs.length - (intOf u).toNat)
    case atStart => exact ⟨0, Nat.zero_le _, rfl, ⟨by simp [flat], .inl ⟨rfl, rfl⟩⟩, Below.refl _ _⟩
    case round =>
      obtain ⟨j, hj, rfl, HO⟩ := hrel
      clear Y0
      have Y0 := keepc HO.out.2 K6.out.1.c0
      by_cases hlt : j < bs.length
      · have j1 : (j : Int) < (bs.length : Int) := by omega
        have j0' : (0 : Int) ≤ (j : Int) := by omega
        obtain ⟨b0, o0, rfl, hb0, cb⟩ := HBR.out.cells j hlt
        have B0 : wr.cell? ⟨b0, o0 + j, none⟩ = some (.bool (bs.getD j false)) := keepc HO.out.2 cb
        have HT : Hid ((bE bs).take (j + 1) = (bE bs).take j ++ [if bs.getD j false then (0, 1) else (0, 0)]) := by
          show _ = _
          rw [take_sn (bE bs) j (by rw [bE_len]; exact hlt), bE_at]
        have n130 : bs.length ≤ 130 := HEN.out.1
        have h6w : w6.heap.size ≤ wr.heap.size := HO.out.2.size
        clear cb hb0
        have hbw : b0 < wr.heap.size := cell_lt B0
        have hxw : W.heap.size < wr.heap.size := cell_lt Y0
        rcases hB : bs.getD j false with _ | _
        · rw [hB] at B0
          rw [hB] at HT
          clear hB
          go_wp2_with (at_builtin; refine wpList_append_own _ rfl _ _ 28 rfl w6.heap.size 46 i0 (.agg #[.int .u64 0, .int .u64 0]) 2 16 Try.underlying28 HI.out.1 HI.out.2.1 HI.out.2.2.1 HI.out.2.2.2 rfl (by decide) _ _ _ rfl (own_below HO.out.1 (by go_grown)) ⟨wr.heap.size + 1, 0, none⟩ 1 1 [.int .u64 0, .int .u64 0] (by first | rfl | (simp [go_sem]; done)) rfl (fun p u hu => by rcases p with _ | _ | p <;> simp at hu <;> subst hu <;> simp [go_sem]) (by intro u hu; simp at hu; subst hu; rfl) (by simp only [maxLen]; omega) (by omega) (by simp; omega) ?_; intro v' w' hown' hgr _)
          refine ⟨⟨j + 1, hlt, by simp, ⟨by rw [HT.out, flat_snoc]; exact hown', ?_⟩⟩, by simp [intOf]; omega⟩
          exact Below.grown (by go_grown; exact HO.out.2) hgr (by simp; omega) fun k hk => (HO.out.1.lt k hk).1
        · rw [hB] at B0
          rw [hB] at HT
          clear hB
          go_wp2_with (at_builtin; refine wpList_append_own _ rfl _ _ 28 rfl w6.heap.size 46 i0 (.agg #[.int .u64 0, .int .u64 0]) 2 16 Try.underlying28 HI.out.1 HI.out.2.1 HI.out.2.2.1 HI.out.2.2.2 rfl (by decide) _ _ _ rfl (own_below HO.out.1 (by go_grown)) ⟨wr.heap.size + 1, 0, none⟩ 1 1 [.int .u64 0, .int .u64 1] (by first | rfl | (simp [go_sem]; done)) rfl (fun p u hu => by rcases p with _ | _ | p <;> simp at hu <;> subst hu <;> simp [go_sem]) (by intro u hu; simp at hu; rcases hu with rfl | rfl <;> rfl) (by simp only [maxLen]; omega) (by omega) (by simp; omega) ?_; intro v' w' hown' hgr _)
          refine ⟨⟨j + 1, hlt, by simp, ⟨by rw [HT.out, flat_snoc]; exact hown', ?_⟩⟩, by simp [intOf]; omega⟩
          exact Below.grown (by go_grown; exact HO.out.2) hgr (by simp; omega) fun k hk => (HO.out.1.lt k hk).1
      · obtain rfl : j = bs.length := by omega
        obtain ⟨gb, cbb, hu17, hEB⟩ := own_brow (n := bs.length) (es := bE bs) (bE_len bs) (by have h := HO.out.1; rw [List.take_of_length_le (by rw [bE_len]; exact Nat.le_refl _)] at h; exact h)
        subst hu17
        obtain ⟨wL, hwL⟩ : ∃ wL, wL = wr := ⟨_, rfl⟩
        have HL : Hid (Sx W wL (.slice a bs.length c) (.slice a2 lo.length c2) (.slice a3 hi.length c3) ∧ El wL q9 v.1 v.2 ∧ El wL q11 s.1 s.2 ∧ ERow wL gm ms ∧ ERow wL gt ts ∧ ERow wL gb (bE bs)) := by
          rw [hwL]
          have hb : Below w6.heap.size w6 wr := HO.out.2
          exact ⟨K6.out.1.below hb, K6.out.2.1.below hb, K6.out.2.2.1.below hb, K6.out.2.2.2.1.below hb, K6.out.2.2.2.2.below hb, hEB⟩
        rw [← hwL] at Y0 ⊢
        clear hEB HO K6 HBR HI hwL
        go_upto_region 18 with fail
        have K : Hid (Below wL.heap.size wL wL) := Below.refl _ _
        refine wp_region_noPanic ?_
        refine wp_region_peel (S := fun w => w.cell? ⟨W.heap.size, 1, none⟩ = some (.slice a2 lo.length c2) ∧ w.cell? ⟨W.heap.size, 2, none⟩ = some (.slice a3 hi.length c3)) 7 (by kernel_rfl) rfl (by kernel_rfl) ?_ (fun hHeld => ?_)
        · exact ⟨keepc (by first | exact K.out | exact K.out.drew) HL.out.1.c1, keepc (by first | exact K.out | exact K.out.drew) HL.out.1.c2⟩
        refine wpAnyH_take (i := 1) (oi := _) (v := ?_) rfl (by kernel_rfl) (by kernel_rfl) (by kernel_rfl) (fun _ _ _ h => h) (Or.inl ⟨by rfl, ?_⟩) (by assumption) ?_
        rotate_left
        · ((intro w hSw; (try dsimp only at hSw); go_simp) <;> (try with_reducible rfl))
        try simp only [Act.put]
        refine wpAnyH_take (i := 2) (oi := _) (v := ?_) rfl (by kernel_rfl) (by kernel_rfl) (by kernel_rfl) (fun _ _ _ h => h) (Or.inl ⟨by rfl, ?_⟩) (by assumption) ?_
        rotate_left
        · ((intro w hSw; (try dsimp only at hSw); go_simp) <;> (try with_reducible rfl))
        try simp only [Act.put]
        refine wpAnyH_take (i := 4) (oi := _) (v := ?_) rfl (by kernel_rfl) (by kernel_rfl) (by kernel_rfl) (fun _ _ _ h => h) (Or.inl ⟨by rfl, ?_⟩) (by assumption) ?_
        rotate_left
        · ((intro w hSw; (try dsimp only at hSw); go_simp) <;> (try with_reducible rfl))
        try simp only [Act.put]
        refine wpAnyH_take (i := 5) (oi := _) (v := ?_) rfl (by kernel_rfl) (by kernel_rfl) (by kernel_rfl) (fun _ _ _ h => h) (Or.inl ⟨by rfl, ?_⟩) (by assumption) ?_
        rotate_left
        · ((intro w hSw; (try dsimp only at hSw); go_simp) <;> (try with_reducible rfl))
        try simp only [Act.put]
        refine wpAnyH_ready (rs := [0]) (by kernel_rfl) (by simp) ?_
        refine AllReadyH.cons (o := _) rfl (fun KK hKK => ?_) AllReadyH.nil
        go_simp
        (skip)
        have OW : Hid ((wL.drew.alloc (Obj.cells #[] 42)).ownsRow wL.heap.size 42 2 (.slice (some ⟨wL.heap.size, 0, none⟩) 0 0) 0 []) := by first | exact World.ownsRow_made (wL.drew) #[] 0 (by simp) (by decide) rfl | (simpa using World.ownsRow_made (base := wL.heap.size) (e := 42) (size := 2) wL.drew #[] 0 (by simp) (by decide) rfl)
        have K' : Hid (Below wL.heap.size wL (wL.drew.alloc (Obj.cells #[] 42))) := K.out.drew.alloc (by simp) _
        clear K
        have K := K'
        clear K'
        refine hKK.out _ _ ?_ (fun hHeld => ?_)
        · exact ⟨keepc (by first | exact K.out | exact K.out.drew) HL.out.1.c1, keepc (by first | exact K.out | exact K.out.drew) HL.out.1.c2⟩
        clear hKK KK
        try simp only [Act.put]
        refine wpAnyH_ready (rs := [3]) (by kernel_rfl) (by simp) ?_
        refine AllReadyH.cons (o := _) rfl (fun KK hKK => ?_) AllReadyH.nil
        (refine step_app _ (by rfl) _ _ _ (by rfl) wL.heap.size 42 j0 (.agg #[.int .u64 0, .int .u64 0]) 2 16 Try.underlying23 HJ.out.1 HJ.out.2.1 HJ.out.2.2.1 HJ.out.2.2.2 rfl (by decide) (.slice (some ⟨wL.heap.size, 0, none⟩) 0 0) 0 [] (by rfl) OW.out a2 lo.length c2 (flat lo) (by rfl) (flat_len lo) HIN.out.2.2.2.2.2.1 (row_news (HIN.out.2.1.below (HL.out.1.d.trans (K.out.mono HL.out.1.d.size)))) (cflat_ones lo) (by simp only [maxLen]; have := HEN.out; omega) (by have := HEN.out; omega) K.out.size ?_; intro v1 w7 own7 gr7 _)
        have OW' : Hid (w7.ownsRow wL.heap.size 42 2 v1 (0 + lo.length) ([] ++ flat lo)) := own7
        have K' : Hid (Below wL.heap.size wL w7) := K.out.grown gr7 K.out.size (fun g hg => (OW.out.lt g hg).1)
        clear K OW own7 gr7
        have K := K'
        have OW := OW'
        clear K' OW'
        refine hKK.out _ _ ?_ (fun hHeld => ?_)
        · exact ⟨keepc (by first | exact K.out | exact K.out.drew) HL.out.1.c1, keepc (by first | exact K.out | exact K.out.drew) HL.out.1.c2⟩
        clear hKK KK
        try simp only [Act.put]
        refine wpAnyH_ready (rs := [6]) (by kernel_rfl) (by simp) ?_
        refine AllReadyH.cons (o := _) rfl (fun KK hKK => ?_) AllReadyH.nil
        (refine step_app _ (by rfl) _ _ _ (by rfl) wL.heap.size 42 j0 (.agg #[.int .u64 0, .int .u64 0]) 2 16 Try.underlying23 HJ.out.1 HJ.out.2.1 HJ.out.2.2.1 HJ.out.2.2.2 rfl (by decide) v1 (0 + lo.length) ([] ++ flat lo) (by rfl) OW.out a3 hi.length c3 (flat hi) (by rfl) (flat_len hi) HIN.out.2.2.2.2.2.2 (row_news (HIN.out.2.2.1.below (HL.out.1.d.trans (K.out.mono HL.out.1.d.size)))) (cflat_ones hi) (by simp only [maxLen]; have := HEN.out; omega) (by have := HEN.out; omega) K.out.size ?_; intro v2 w8 own8 gr8 _)
        obtain ⟨gp, cpp, rfl, hEP⟩ := own_two rfl rfl own8
        have K' : Hid (Below wL.heap.size wL w8) := K.out.grown gr8 K.out.size (fun g hg => (OW.out.lt g hg).1)
        have HPT : Hid (ERow w8 gp (lo ++ hi)) := hEP
        clear K OW own8 gr8 hEP
        have K := K'
        clear K'
        refine hKK.out _ _ ?_ (fun hHeld => ?_)
        · exact ⟨keepc (by first | exact K.out | exact K.out.drew) HL.out.1.c1, keepc (by first | exact K.out | exact K.out.drew) HL.out.1.c2⟩
        clear hKK KK
        try simp only [Act.put]
        refine wpAnyH_done (by kernel_rfl) ?_ _
        refine peel_last rfl (fun KK hKK => ?_)
        clear hHeld
        go_simp
        refine hKK _ _ ?_
        refine NoPanic.normal ?_
        clear hKK KK
        have KZ : Sz W w8 q9 q11 v s gb gp gt gm (bE bs) (lo ++ hi) ts ms := ⟨HL.out.2.1.below K.out, HL.out.2.2.1.below K.out, HL.out.2.2.2.2.2.below K.out, HPT.out, HL.out.2.2.2.2.1.below K.out, HL.out.2.2.2.1.below K.out, HL.out.1.d.trans (K.out.mono HL.out.1.d.size)⟩
        clear HL K HPT Y0 HJ HIN HEN HLN
        have K := KZ
        clear KZ
        go_upto_region 19 with fail
        refine wp_region_noPanic ?_
        refine wp_region_peel (S := fun w => w.cell? ⟨q9, 0, none⟩ = some (.int .u64 (v.1 : Int)) ∧ w.cell? ⟨q9, 1, none⟩ = some (.int .u64 (v.2 : Int)) ∧ w.cell? ⟨q11, 0, none⟩ = some (.int .u64 (s.1 : Int)) ∧ w.cell? ⟨q11, 1, none⟩ = some (.int .u64 (s.2 : Int))) 19 (by kernel_rfl) rfl (by kernel_rfl) ?_ (fun hHeld => ?_)
        · exact K.facts
        refine wpAnyH_ready (rs := [0]) (by kernel_rfl) (by simp) ?_
        refine AllReadyH.cons (o := _) rfl (fun KK hKK => ?_) AllReadyH.nil
        go_simp
        (go_at_call 9; refine (AW.out.go _).mono ?_; rintro e w' ⟨rfl, hb'⟩)
        have K'' := Sz.below (w' := w') (by first | exact K | exact K.drew) hb'
        clear K hb'
        have K := K''
        clear K''
        (try simp only [World.size_drew] at K)
        refine hKK.out _ _ ?_ (fun hHeld => ?_)
        · exact K.facts
        clear hKK KK
        try simp only [Act.put]
        refine wpAnyH_take (i := 1) (oi := _) (v := ?_) rfl (by kernel_rfl) (by kernel_rfl) (by kernel_rfl) (fun _ _ _ h => h) (Or.inl ⟨by rfl, ?_⟩) (by assumption) ?_
        rotate_left
        · ((intro w hSw; (try dsimp only at hSw); go_simp) <;> (try with_reducible rfl))
        try simp only [Act.put]
        refine wpAnyH_take (i := 2) (oi := _) (v := ?_) rfl (by kernel_rfl) (by kernel_rfl) (by kernel_rfl) (fun _ _ _ h => h) (Or.inl ⟨by rfl, ?_⟩) (by assumption) ?_
        rotate_left
        · ((intro w hSw; (try dsimp only at hSw); go_simp) <;> (try with_reducible rfl))
        try simp only [Act.put]
        refine wpAnyH_take (i := 3) (oi := _) (v := ?_) rfl (by kernel_rfl) (by kernel_rfl) (by kernel_rfl) (fun _ _ _ h => h) (Or.inl ⟨by rfl, ?_⟩) (by assumption) ?_
        rotate_left
        · ((intro w hSw; (try dsimp only at hSw); go_simp) <;> (try with_reducible rfl))
        try simp only [Act.put]
        refine wpAnyH_take (i := 4) (oi := _) (v := ?_) rfl (by kernel_rfl) (by kernel_rfl) (by kernel_rfl) (fun _ _ _ h => h) (Or.inl ⟨by rfl, ?_⟩) (by assumption) ?_
        rotate_left
        · ((intro w hSw; (try dsimp only at hSw); go_simp) <;> (try with_reducible rfl))
        try simp only [Act.put]
        refine wpAnyH_ready (rs := [5]) (by kernel_rfl) (by simp) ?_
        refine AllReadyH.cons (o := _) rfl (fun KK hKK => ?_) AllReadyH.nil
        go_simp
        (go_at_call 10; refine (HRP.out _ _ _ K.p).mono ?_; rintro e w' ⟨gp', cp', rfl, hr', hb'⟩)
        have K'' := Sz.below (w' := w') (by first | exact K | exact K.drew) hb'
        have R1 := hidT hr'
        clear hr'
        clear K hb'
        have K := K''
        clear K''
        (try simp only [World.size_drew] at K)
        refine hKK.out _ _ ?_ (fun hHeld => ?_)
        · exact K.facts
        clear hKK KK
        try simp only [Act.put]
        refine wpAnyH_ready (rs := [6]) (by kernel_rfl) (by simp) ?_
        refine AllReadyH.cons (o := _) rfl (fun KK hKK => ?_) AllReadyH.nil
        go_simp
        (go_at_call 21; refine (HVL.out _ _ _ _ _ K.b R1.out).mono ?_; rintro e w' ⟨rfl, hb'⟩)
        have K'' := Sz.below (w' := w') (by first | exact K | exact K.drew) hb'
        clear R1
        clear K hb'
        have K := K''
        clear K''
        (try simp only [World.size_drew] at K)
        refine hKK.out _ _ ?_ (fun hHeld => ?_)
        · exact K.facts
        clear hKK KK
        try simp only [Act.put]
        refine wpAnyH_take (i := 7) (oi := _) (v := ?_) rfl (by kernel_rfl) (by kernel_rfl) (by kernel_rfl) (fun _ _ _ h => h) (Or.inl ⟨by rfl, ?_⟩) (by assumption) ?_
        rotate_left
        · ((intro w hSw; (try dsimp only at hSw); go_simp) <;> (try with_reducible rfl))
        try simp only [Act.put]
        refine wpAnyH_take (i := 8) (oi := _) (v := ?_) rfl (by kernel_rfl) (by kernel_rfl) (by kernel_rfl) (fun _ _ _ h => h) (Or.inl ⟨by rfl, ?_⟩) (by assumption) ?_
        rotate_left
        · ((intro w hSw; (try dsimp only at hSw); go_simp) <;> (try with_reducible rfl))
        try simp only [Act.put]
        refine wpAnyH_take (i := 9) (oi := _) (v := ?_) rfl (by kernel_rfl) (by kernel_rfl) (by kernel_rfl) (fun _ _ _ h => h) (Or.inl ⟨by rfl, ?_⟩) (by assumption) ?_
        rotate_left
        · ((intro w hSw; (try dsimp only at hSw); go_simp) <;> (try with_reducible rfl))
        try simp only [Act.put]
        refine wpAnyH_take (i := 10) (oi := _) (v := ?_) rfl (by kernel_rfl) (by kernel_rfl) (by kernel_rfl) (fun _ _ _ h => h) (Or.inl ⟨by rfl, ?_⟩) (by assumption) ?_
        rotate_left
        · ((intro w hSw; (try dsimp only at hSw); go_simp) <;> (try with_reducible rfl))
        try simp only [Act.put]
        refine wpAnyH_take (i := 11) (oi := _) (v := ?_) rfl (by kernel_rfl) (by kernel_rfl) (by kernel_rfl) (fun _ _ _ h => h) (Or.inl ⟨by rfl, ?_⟩) (by assumption) ?_
        rotate_left
        · ((intro w hSw; (try dsimp only at hSw); go_simp) <;> (try with_reducible rfl))
        try simp only [Act.put]
        refine wpAnyH_take (i := 12) (oi := _) (v := ?_) rfl (by kernel_rfl) (by kernel_rfl) (by kernel_rfl) (fun _ _ _ h => h) (Or.inl ⟨by rfl, ?_⟩) (by assumption) ?_
        rotate_left
        · ((intro w hSw; (try dsimp only at hSw); go_simp) <;> (try with_reducible rfl))
        try simp only [Act.put]
        refine wpAnyH_take (i := 14) (oi := _) (v := ?_) rfl (by kernel_rfl) (by kernel_rfl) (by kernel_rfl) (fun _ _ _ h => h) (Or.inl ⟨by rfl, ?_⟩) (by assumption) ?_
        rotate_left
        · ((intro w hSw; (try dsimp only at hSw); go_simp) <;> (try with_reducible rfl))
        try simp only [Act.put]
        refine wpAnyH_ready (rs := [13]) (by kernel_rfl) (by simp) ?_
        refine AllReadyH.cons (o := _) rfl (fun KK hKK => ?_) AllReadyH.nil
        go_simp
        (go_at_call 10; refine (HRT.out _ _ _ K.t).mono ?_; rintro e w' ⟨gt', ct', rfl, hr', hb'⟩)
        have K'' := Sz.below (w' := w') (by first | exact K | exact K.drew) hb'
        have T1 := hidT hr'
        clear hr'
        clear K hb'
        have K := K''
        clear K''
        (try simp only [World.size_drew] at K)
        refine hKK.out _ _ ?_ (fun hHeld => ?_)
        · exact K.facts
        clear hKK KK
        try simp only [Act.put]
        refine wpAnyH_ready (rs := [15]) (by kernel_rfl) (by simp) ?_
        refine AllReadyH.cons (o := _) rfl (fun KK hKK => ?_) AllReadyH.nil
        go_simp
        (go_at_call 10; refine (HRM.out _ _ _ K.m).mono ?_; rintro e w' ⟨gm', cm', rfl, hr', hb'⟩)
        have K'' := Sz.below (w' := w') (by first | exact K | exact K.drew) hb'
        have T2 := hidT (T1.out.below hb')
        have M1 := hidT hr'
        clear hr' T1
        clear K hb'
        have K := K''
        clear K''
        (try simp only [World.size_drew] at K)
        refine hKK.out _ _ ?_ (fun hHeld => ?_)
        · exact K.facts
        clear hKK KK
        try simp only [Act.put]
        refine wpAnyH_ready (rs := [16]) (by kernel_rfl) (by simp) ?_
        refine AllReadyH.cons (o := _) rfl (fun KK hKK => ?_) AllReadyH.nil
        go_simp
        (go_at_call 28; refine (HDT.out _ _ _ _ _ T2.out M1.out).mono ?_; rintro e w' ⟨rfl, hb'⟩)
        have K'' := Sz.below (w' := w') (by first | exact K | exact K.drew) hb'
        clear T2 M1
        clear K hb'
        have K := K''
        clear K''
        (try simp only [World.size_drew] at K)
        refine hKK.out _ _ ?_ (fun hHeld => ?_)
        · exact K.facts
        clear hKK KK
        try simp only [Act.put]
        refine wpAnyH_take (i := 17) (oi := _) (v := ?_) rfl (by kernel_rfl) (by kernel_rfl) (by kernel_rfl) (fun _ _ _ h => h) (Or.inl ⟨by rfl, ?_⟩) (by assumption) ?_
        rotate_left
        · ((intro w hSw; (try dsimp only at hSw); go_simp) <;> (try with_reducible rfl))
        try simp only [Act.put]
        refine wpAnyH_take (i := 18) (oi := _) (v := ?_) rfl (by kernel_rfl) (by kernel_rfl) (by kernel_rfl) (fun _ _ _ h => h) (Or.inl ⟨by rfl, ?_⟩) (by assumption) ?_
        rotate_left
        · ((intro w hSw; (try dsimp only at hSw); go_simp) <;> (try with_reducible rfl))
        try simp only [Act.put]
        refine wpAnyH_done (by kernel_rfl) ?_ _
        refine peel_last rfl (fun KK hKK => ?_)
        clear hHeld
        go_simp
        refine hKK _ _ ?_
        refine NoPanic.normal ?_
        clear hKK KK
        go_wp2
        go_ret
        exact ⟨rfl, K.d⟩
  · skip
    by_cases h1 : E1 = 0
    · by_cases h2 : E2 = 0
      · by_cases h3 : E3 = 0
        · by_cases h4 : E4 = 0
          · have h5 : ¬ E5 = 0 := fun h => hE ⟨h1, h2, h3, h4, h⟩
            subst h1 h2 h3 h4
            clear hE HVS HLN
            go_wp2_with (go_at_call 9; refine (AW.out.go _).mono ?_; rintro e w7 ⟨rfl, hb7⟩)
            go_ret
            exact ⟨rfl, K6.out.1.d.trans (hb7.mono K6.out.1.d.size)⟩
          · subst h1 h2 h3
            clear hE HVS HLN
            go_wp2_with (go_at_call 9; refine (AW.out.go _).mono ?_; rintro e w7 ⟨rfl, hb7⟩)
            go_ret
            exact ⟨rfl, K6.out.1.d.trans (hb7.mono K6.out.1.d.size)⟩
        · subst h1 h2
          clear hE HVS HLN
          go_wp2_with (go_at_call 9; refine (AW.out.go _).mono ?_; rintro e w7 ⟨rfl, hb7⟩)
          go_ret
          exact ⟨rfl, K6.out.1.d.trans (hb7.mono K6.out.1.d.size)⟩
      · subst h1
        clear hE HVS HLN
        go_wp2_with (go_at_call 9; refine (AW.out.go _).mono ?_; rintro e w7 ⟨rfl, hb7⟩)
        go_ret
        exact ⟨rfl, K6.out.1.d.trans (hb7.mono K6.out.1.d.size)⟩
    · clear hE HVS HLN
      go_wp2_with (go_at_call 9; refine (AW.out.go _).mono ?_; rintro e w7 ⟨rfl, hb7⟩)
      go_ret
      exact ⟨rfl, K6.out.1.d.trans (hb7.mono K6.out.1.d.size)⟩
theorem rs_any (l : Int) (a a2 a3 ar : Option Addr) (c c2 c3 cr : Nat) (bs : List Bool) (lo hi r : List (Nat × Nat)) (ll : ltE lo) (lh : ltE hi) (lr : ltE r) (e2 : a2 = none → lo.length = 0) (e3 : a3 = none → hi.length = 0)
    (W : World) (ra : BRow W a bs) (rl : ERow W a2 lo) (rh : ERow W a3 hi) (rr : ERow W ar r) :
    Calls Try.prog 6 #[.int .i64 l, .agg #[.slice a bs.length c, .slice a2 lo.length c2, .slice a3 hi.length c3], .slice ar r.length cr] W fun e w' => e = .returned (.bool true) ∧ Below W.heap.size W w' := by
  by_cases h : (bs.length ≤ 130 ∧ lo.length ≤ 6 ∧ hi.length ≤ 6 ∧ (l ≤ 5 ∨ 7 < l)) ∧ r.length ≤ 6
  · exact rs_main l a a2 a3 ar c c2 c3 cr bs lo hi r h.1.1 h.1.2.1 h.1.2.2.1 h.1.2.2.2 h.2 ll lh lr e2 e3 W ra rl rh rr
  · exact rs_far l a a2 a3 ar _ _ _ _ c c2 c3 cr h W
end Go.Proofs.Ytbomgcmmfeahiaa
