/- RingParts over the seat's translation. -/
import Derived.Test.YtbomgcmmfeahiaaRgW
import Derived.Test.YtbomgcmmfeahiaaRgJ
import Derived.Test.YtbomgcmmfeahiaaSmA
namespace Go.Proofs.Ytbomgcmmfeahiaa
open Go.RowKit
open Cb
open Rg
open Tw (pm)

set_option maxHeartbeats 2000000 in
theorem rp_far (l : Int) (a a2 a3 : Option Addr) (n n2 n3 c c2 c3 : Nat) (h : ¬ (n ≤ 130 ∧ n2 ≤ 6 ∧ n3 ≤ 6 ∧ (l ≤ 5 ∨ 7 < l))) : Ret 3 #[.int .i64 l, .agg #[.slice a n c, .slice a2 n2 c2, .slice a3 n3 c3]] (.bool true) := by
  intro W
  have AW := hidT awake23
  have HF := hidT (few23_no l a a2 a3 n n2 n3 c c2 c3 h)
  clear h
  go_enter Try.func3, Try.ntmps3
  go_wp2_with (first | (go_at_call 8; refine (HF.out.go _).mono ?_; rintro e w1 ⟨rfl, hb1⟩; have K1 : Hid (Below W.heap.size W w1) := ((Below.refl _ _).alloc (Nat.le_refl _) _).trans (hb1.mono (by simp)); clear hb1) | (go_at_call 9; refine (AW.out.go _).mono ?_; rintro e w2 ⟨rfl, hb2⟩))
  go_ret
  exact ⟨rfl, K1.out.trans (hb2.mono K1.out.size)⟩
/-- Parts, whatever is handed in; none where there is an error. -/
theorem rparts_tot2 (l : Int) (a c : Option Addr) (n cap cap2 : Nat) (bs : List Bool) (hi : List (Nat × Nat)) (hb : bs.length = n) (hn : n ≤ 1000) (hh : ltE hi) (h1 : hi.length ≤ 1000) (W : World) (ha : BRow W a bs) (hc : ERow W c hi) :
    Calls Try.prog 12 #[.int .i64 l, .slice a n cap, .slice c hi.length cap2] W fun e w' => ∃ (g : Option Addr) (cp : Nat) (ps : List (Nat × Nat)), e = .returned (.tuple #[.slice g ps.length cp, .int .i64 (rpE l n hi)]) ∧ ERow w' g ps ∧ (ltE ps ∧ ps.length ≤ 128 ∧ (rpE l n hi = 0 → ps = parts (2 ^ l.toNat) bs (2 ^ hi.length) hi) ∧ (¬ rpE l n hi = 0 → ps = [])) ∧ Below W.heap.size W w' := by
  by_cases h0 : rpE l n hi = 0
  · refine (rparts_tot l a c n cap cap2 bs hi hb hn hh h1 W ha hc).mono ?_
    rintro e w' ⟨g, cp, ps, rfl, hr, ⟨q1, q2, q3⟩, hb'⟩
    exact ⟨g, cp, ps, rfl, hr, ⟨q1, q2, q3, fun h => absurd h0 h⟩, hb'⟩
  · refine (rparts_err l a c n cap cap2 hi hh h1 (by omega) _ rfl h0 W hc).mono ?_
    rintro e w' ⟨rfl, hb'⟩
    exact ⟨none, 0, [], rfl, er_nil w', ⟨lt_nil, by simp, fun h => absurd h h0, fun _ => rfl⟩, hb'⟩
/-- The packed table is the document's. -/
theorem gB_pkl (k q : Nat) (hk : k < 8) (bs : List Bool) (hq : bs.length = q * 2 ^ k) : gB k q bs = pkl (2 ^ k) bs q := list_ext (by rw [gB_len, pkl_len]) fun x hx => by
  rw [gB_len] at hx
  rw [gB_pk k q hk bs hq hx]
  exact (pkl_at _ bs q hx).symm
/-- What the law holds: its argument, the document's points, the packed table and the parts. -/
structure Rp (W w : World) (y0 y1 y2 : Value) (gh gl gt gp : Option Addr) (H L T P : List (Nat × Nat)) : Prop where
  x : Sx W w y0 y1 y2
  h : ERow w gh H
  l : ERow w gl L
  t : ERow w gt T
  p : ERow w gp P
theorem Rp.below {W w w' : World} {y0 y1 y2 : Value} {gh gl gt gp : Option Addr} {H L T P : List (Nat × Nat)} (k : Rp W w y0 y1 y2 gh gl gt gp H L T P) (hb : Below w.heap.size w w') : Rp W w' y0 y1 y2 gh gl gt gp H L T P := ⟨k.x.below hb, k.h.below hb, k.l.below hb, k.t.below hb, k.p.below hb⟩
theorem Rp.drew {W w : World} {y0 y1 y2 : Value} {gh gl gt gp : Option Addr} {H L T P : List (Nat × Nat)} (k : Rp W w y0 y1 y2 gh gl gt gp H L T P) : Rp W w.drew y0 y1 y2 gh gl gt gp H L T P := k.below (Below.refl _ _).drew
/-- And the value. -/
structure Rv (W w : World) (q : Nat) (v : Nat × Nat) (gr gl gp : Option Addr) (R L P : List (Nat × Nat)) : Prop where
  v : El w q v.1 v.2
  r : ERow w gr R
  l : ERow w gl L
  p : ERow w gp P
  d : Below W.heap.size W w
theorem Rv.below {W w w' : World} {q : Nat} {v : Nat × Nat} {gr gl gp : Option Addr} {R L P : List (Nat × Nat)} (k : Rv W w q v gr gl gp R L P) (hb : Below w.heap.size w w') : Rv W w' q v gr gl gp R L P := ⟨k.v.below hb, k.r.below hb, k.l.below hb, k.p.below hb, k.d.trans (hb.mono k.d.size)⟩
theorem Rv.drew {W w : World} {q : Nat} {v : Nat × Nat} {gr gl gp : Option Addr} {R L P : List (Nat × Nat)} (k : Rv W w q v gr gl gp R L P) : Rv W w.drew q v gr gl gp R L P := k.below (Below.refl _ _).drew
set_option maxHeartbeats 40000000 in
set_option maxRecDepth 100000 in
theorem rp_main (l : Int) (a a2 a3 : Option Addr) (c c2 c3 : Nat) (bs : List Bool) (lo hi : List (Nat × Nat)) (n1 : bs.length ≤ 130) (n2 : lo.length ≤ 6) (n3 : hi.length ≤ 6) (n4 : l ≤ 5 ∨ 7 < l) (ll : ltE lo) (lh : ltE hi) (W : World) (ra : BRow W a bs) (rl : ERow W a2 lo) (rh : ERow W a3 hi) :
    Calls Try.prog 3 #[.int .i64 l, .agg #[.slice a bs.length c, .slice a2 lo.length c2, .slice a3 hi.length c3]] W fun e w' => e = .returned (.bool true) ∧ Below W.heap.size W w' := by
  have AW := hidT awake23
  have HF := hidT (few23_yes l a a2 a3 bs.length lo.length hi.length c c2 c3 n1 n2 n3 n4)
  have HRH := hidT (fun w (hb : Below W.heap.size W w) => ref_row a3 c3 hi (by omega) w (rh.below hb))
  have HRL := hidT (fun w (hb : Below W.heap.size W w) => ref_row a2 c2 lo (by omega) w (rl.below hb))
  have HK := hidT (fun w (hb : Below W.heap.size W w) => rpack_tot l a bs.length c bs rfl (by omega) w (ra.below hb))
  have HP := hidT (fun w (hb : Below W.heap.size W w) => rparts_tot2 l a a3 bs.length c c3 bs hi rfl (by omega) lh (by omega) w (ra.below hb) (rh.below hb))
  have HM := hidT (rmay23 l a bs.length c)
  have HLG := hidT (rlog_any bs.length)
  have HAL := hidT (fun (w : World) (g : Option Addr) (cp : Nat) (h : ERow w g hi) => rall15 l g cp hi lh w h (by omega))
  have HV := hidT (fun (w : World) (hb : Below W.heap.size W w) (g : Option Addr) (cp : Nat) (ps : List (Nat × Nat)) (hp : ERow w g ps) (hl : ltE ps) (hn : ps.length ≤ 128) => rval_tot l g a2 cp c2 ps lo hl ll (by omega) (by omega) w hp (rl.below hb))
  have HTW := hidT (fun (w : World) (g1 g2 : Option Addr) (c1 c2 : Nat) (t : List (Nat × Nat)) (ht : ltE t) (hn : t.length ≤ 128) (h1 : ERow w g1 t) (h2 : ERow w g2 lo) => rtwo23 l g1 g2 c1 c2 t lo ht ll (by omega) (by omega) w h1 h2)
  have HDV := hidT (fun (w : World) (g1 g2 : Option Addr) (c1 c2 : Nat) (t : List (Nat × Nat)) (ht : ltE t) (hn : t.length ≤ 128) (h1 : ERow w g1 t) (h2 : ERow w g2 lo) => rvalue_any g1 g2 c1 c2 t lo ht ll (by omega) (by omega) w h1 h2)
  have HSM := hidT (fun (w : World) (g1 g2 : Option Addr) (c1 c2 : Nat) (t : List (Nat × Nat)) (hn : t.length ≤ 200) (h1 : ERow w g1 t) (h2 : ERow w g2 t) => same_rows g1 g2 c1 c2 t (by omega) w h1 h2)
  have HIN : Hid (BRow W a bs ∧ ltE lo ∧ ltE hi ∧ bs.length ≤ 130 ∧ hi.length ≤ 6) := ⟨ra, ll, lh, n1, n3⟩
  clear ra rl rh ll lh n1 n2 n3 n4
  go_enter Try.func3, Try.ntmps3
  go_upto_region 3 with (go_at_call 8; refine (HF.out.go _).mono ?_; rintro e w1 ⟨rfl, hb1⟩)
  have KX : Sx W w1 (.slice a bs.length c) (.slice a2 lo.length c2) (.slice a3 hi.length c3) := (Sx.new W _ _ _ _).below hb1
  clear hb1 HF
  have K := KX
  clear KX
  refine wp_region_noPanic ?_
  refine wp_region_peel (S := fun w => w.cell? ⟨W.heap.size, 1, none⟩ = some (.slice a2 lo.length c2) ∧ w.cell? ⟨W.heap.size, 2, none⟩ = some (.slice a3 hi.length c3)) 7 (by kernel_rfl) rfl (by kernel_rfl) ?_ (fun hHeld => ?_)
  · exact by first | exact ⟨K.c1, K.c2⟩ | exact ⟨(K.below (Below.refl _ _).drew).c1, (K.below (Below.refl _ _).drew).c2⟩
  refine wpAnyH_take (i := 0) (oi := _) (v := ?_) rfl (by kernel_rfl) (by kernel_rfl) (by kernel_rfl) (fun _ _ _ h => h) (Or.inl ⟨by rfl, ?_⟩) (by assumption) ?_
  rotate_left
  · ((intro w hSw; (try dsimp only at hSw); go_simp) <;> (try with_reducible rfl))
  try simp only [Act.put]
  refine wpAnyH_take (i := 1) (oi := _) (v := ?_) rfl (by kernel_rfl) (by kernel_rfl) (by kernel_rfl) (fun _ _ _ h => h) (Or.inl ⟨by rfl, ?_⟩) (by assumption) ?_
  rotate_left
  · ((intro w hSw; (try dsimp only at hSw); go_simp) <;> (try with_reducible rfl))
  try simp only [Act.put]
  refine wpAnyH_take (i := 3) (oi := _) (v := ?_) rfl (by kernel_rfl) (by kernel_rfl) (by kernel_rfl) (fun _ _ _ h => h) (Or.inl ⟨by rfl, ?_⟩) (by assumption) ?_
  rotate_left
  · ((intro w hSw; (try dsimp only at hSw); go_simp) <;> (try with_reducible rfl))
  try simp only [Act.put]
  refine wpAnyH_take (i := 4) (oi := _) (v := ?_) rfl (by kernel_rfl) (by kernel_rfl) (by kernel_rfl) (fun _ _ _ h => h) (Or.inl ⟨by rfl, ?_⟩) (by assumption) ?_
  rotate_left
  · ((intro w hSw; (try dsimp only at hSw); go_simp) <;> (try with_reducible rfl))
  try simp only [Act.put]
  refine wpAnyH_ready (rs := [2]) (by kernel_rfl) (by simp) ?_
  refine AllReadyH.cons (o := _) rfl (fun KK hKK => ?_) AllReadyH.nil
  go_simp
  (go_at_call 10; refine (HRH.out _ (by first | exact K.d | exact (K.below (Below.refl _ _).drew).d)).mono ?_; rintro e w' ⟨gh, ch, rfl, hr', hb'⟩)
  have K'' := Sx.below (w' := w') (by first | exact K | exact K.below (Below.refl _ _).drew) hb'
  have R1 := hidT hr'
  clear hr'
  clear K hb'
  have K := K''
  clear K''
  (try simp only [World.size_drew] at K)
  refine hKK.out _ _ ?_ (fun hHeld => ?_)
  · exact by first | exact ⟨K.c1, K.c2⟩ | exact ⟨(K.below (Below.refl _ _).drew).c1, (K.below (Below.refl _ _).drew).c2⟩
  clear hKK KK
  try simp only [Act.put]
  refine wpAnyH_ready (rs := [5]) (by kernel_rfl) (by simp) ?_
  refine AllReadyH.cons (o := _) rfl (fun KK hKK => ?_) AllReadyH.nil
  go_simp
  (go_at_call 10; refine (HRL.out _ K.d).mono ?_; rintro e w' ⟨gl, cl, rfl, hr', hb'⟩)
  have K'' := Sx.below (w' := w') (by first | exact K | exact K.below (Below.refl _ _).drew) hb'
  have R2 := hidT hr'
  have R1' := hidT (R1.out.below hb')
  clear hr' R1
  clear K hb'
  have K := K''
  clear K''
  (try simp only [World.size_drew] at K)
  refine hKK.out _ _ ?_ (fun hHeld => ?_)
  · exact by first | exact ⟨K.c1, K.c2⟩ | exact ⟨(K.below (Below.refl _ _).drew).c1, (K.below (Below.refl _ _).drew).c2⟩
  clear hKK KK
  try simp only [Act.put]
  refine wpAnyH_take (i := 6) (oi := _) (v := ?_) rfl (by kernel_rfl) (by kernel_rfl) (by kernel_rfl) (fun _ _ _ h => h) (Or.inl ⟨by rfl, ?_⟩) (by assumption) ?_
  rotate_left
  · ((intro w hSw; (try dsimp only at hSw); go_simp) <;> (try with_reducible rfl))
  try simp only [Act.put]
  refine wpAnyH_done (by kernel_rfl) ?_ _
  refine peel_last rfl (fun KK hKK => ?_)
  clear hHeld
  go_simp
  refine hKK _ _ ?_
  refine NoPanic.normal ?_
  clear hKK KK
  have K3 : Hid (Sx W w' (.slice a bs.length c) (.slice a2 lo.length c2) (.slice a3 hi.length c3) ∧ ERow w' gh hi ∧ ERow w' gl lo) := ⟨K, R1'.out, R2.out⟩
  clear K R1' R2 HRH HRL
  have Y0 := K3.out.1.c0
  go_upto_region 7 with (first
    | (go_at_call 11; refine (HK.out _ K3.out.1.d).mono ?_; rintro e w4 ⟨gt, ct, ts, rfl, hr4, hq4, hb4⟩; have K4 : Hid (Sx W w4 (.slice a bs.length c) (.slice a2 lo.length c2) (.slice a3 hi.length c3) ∧ ERow w4 gh hi ∧ ERow w4 gl lo ∧ ERow w4 gt ts) := ⟨K3.out.1.below hb4, K3.out.2.1.below hb4, K3.out.2.2.below hb4, hr4⟩; have Q4 := hidT hq4; clear hb4 hr4 hq4 K3 HK Y0; have Y0 := K4.out.1.c0; have Y2 := K4.out.1.c2)
    | (go_at_call 12; refine (HP.out _ K4.out.1.d).mono ?_; rintro e w5 ⟨gp, cp, ps, rfl, hr5, hq5, hb5⟩; have K5 : Hid (Rp W w5 (.slice a bs.length c) (.slice a2 lo.length c2) (.slice a3 hi.length c3) gh gl gt gp hi lo ts ps) := ⟨K4.out.1.below hb5, K4.out.2.1.below hb5, K4.out.2.2.1.below hb5, K4.out.2.2.2.below hb5, hr5⟩; have Q5 := hidT hq5; clear hb5 hr5 hq5 K4 HP Y0 Y2; have Y0 := K5.out.x.c0)
    | (go_at_call 13; refine (HM.out.go _).mono ?_; rintro e w6 ⟨rfl, hb6⟩; have K6 : Hid (Rp W w6 (.slice a bs.length c) (.slice a2 lo.length c2) (.slice a3 hi.length c3) gh gl gt gp hi lo ts ps) := K5.out.below hb6; clear hb6 K5 HM Y0))
  have hE1 : Hid (¬ hvE l bs.length = 0 → rpE l bs.length hi = hvE l bs.length ∧ ts = [] ∧ ps = []) := fun h => by
    have e : rpE l bs.length hi = hvE l bs.length := by unfold rpE; rw [if_neg h]
    exact ⟨e, Q4.out.2.2.2 h, Q5.out.2.2.2 (by rw [e]; exact h)⟩
  by_cases hv : hvE l bs.length = 0
  · obtain ⟨k, j, hk, ek, hkj, hn2, hvv⟩ := hv_zero hv
    subst ek
    have hts : ts = pkl (2 ^ k) bs (2 ^ j) := by
      have h := Q4.out.2.2.1 hv
      rw [hvv, Int.toNat_natCast, Int.toNat_natCast] at h
      rw [h]; exact gB_pkl k _ hk bs hn2
    have hlg : lgz bs.length = ((j + k : Nat) : Int) := by rw [hn2, ← Nat.pow_add]; exact lgz_two _ (by omega)
    have tl : ts.length = 2 ^ j := by rw [hts, pkl_len]
    have tl2 : ts.length ≤ 130 := Nat.le_trans Q4.out.2.1 HIN.out.2.2.2.1
    have hjn : 2 ^ j ≤ 130 := by rw [← tl]; exact tl2
    have HPK := hidT (fun (w : World) (hb : Below W.heap.size W w) => rpack23 k hk a bs.length c (2 ^ k) (2 ^ j) bs rfl hn2 rfl (by have := HIN.out; omega) w (HIN.out.1.below hb))
    rw [← hts] at HPK
    have HS1 := hidT (fun (w : World) (g1 g2 : Option Addr) (c1 c2 : Nat) (h1 : ERow w g1 ts) (h2 : ERow w g2 ts) => HSM.out w g1 g2 c1 c2 ts (by omega) h1 h2)
    rw [tl] at HS1
    rw [hlg] at HLG
    have hsub : IntKind.i64.wrap (((j + k : Nat) : Int) - (k : Int)) = (j : Int) := by rw [IntKind.wrap_i64]; omega
    have hsub2 : IntKind.i64.wrap ((j : Int) + (k : Int) - (k : Int)) = (j : Int) := by rw [IntKind.wrap_i64]; omega
    have hsub3 : IntKind.i64.wrap (j : Int) = (j : Int) := by rw [IntKind.wrap_i64]; omega
    have HRE : Hid ((hi.length : Int) = (j : Int) → (hi.all fun e => ofB (k : Int) (e.1 : Int) (e.2 : Int)) = true → rpE (k : Int) bs.length hi = 0) := fun h1 h2 => by unfold rpE; rw [if_pos hv, hvv, if_pos h1, if_pos h2]
    have HR6 : Hid (¬ (hi.length : Int) = (j : Int) → rpE (k : Int) bs.length hi = 6) := fun h1 => by unfold rpE; rw [if_pos hv, hvv, if_neg h1]
    have HR5 : Hid ((hi.length : Int) = (j : Int) → ¬ (hi.all fun e => ofB (k : Int) (e.1 : Int) (e.2 : Int)) = true → rpE (k : Int) bs.length hi = 5) := fun h1 h2 => by unfold rpE; rw [if_pos hv, hvv, if_pos h1, if_neg h2]
    rw [tl]
    rw [hv]
    have HJK : Hid (k < 8 ∧ k + j ≤ 12 ∧ bs.length = 2 ^ j * 2 ^ k ∧ 2 ^ j ≤ 130) := ⟨hk, hkj, hn2, hjn⟩
    clear hE1 hts tl tl2 hjn hlg hvv hn2 hkj hv Q4
    generalize hq : 2 ^ j = q at *
    have Y0 := K6.out.x.c0
    go_upto_region 13 with (first
      | (go_at_call 15; refine (HPK.out _ K6.out.x.d).mono ?_; rintro e w7 ⟨gk, ck, rfl, hr7, hb7⟩; have K7 : Hid (Rp W w7 (.slice a bs.length c) (.slice a2 lo.length c2) (.slice a3 hi.length c3) gh gl gt gp hi lo ts ps ∧ ERow w7 gk ts) := ⟨K6.out.below hb7, hr7⟩; clear hb7 hr7 K6 HPK Y0)
      | (go_at_call 14; refine (HS1.out _ _ _ _ _ K7.out.1.t K7.out.2).mono ?_; rintro e w8 ⟨rfl, hb8⟩; have K8 : Hid (Rp W w8 (.slice a bs.length c) (.slice a2 lo.length c2) (.slice a3 hi.length c3) gh gl gt gp hi lo ts ps) := K7.out.1.below hb8; clear hb8 K7 HS1))
    have K := K8.out
    clear K8
    refine wp_region_noPanic ?_
    refine wp_region_peel (S := fun w => w.cell? ⟨W.heap.size, 0, none⟩ = some (.slice a bs.length c) ∧ w.cell? ⟨W.heap.size, 2, none⟩ = some (.slice a3 hi.length c3)) 9 (by kernel_rfl) rfl (by kernel_rfl) ?_ (fun hHeld => ?_)
    · exact by first | exact ⟨K.x.c0, K.x.c2⟩ | exact ⟨K.drew.x.c0, K.drew.x.c2⟩
    refine wpAnyH_take (i := 0) (oi := _) (v := ?_) rfl (by kernel_rfl) (by kernel_rfl) (by kernel_rfl) (fun _ _ _ h => h) (Or.inl ⟨by rfl, ?_⟩) (by assumption) ?_
    rotate_left
    · ((intro w hSw; (try dsimp only at hSw); go_simp) <;> (try with_reducible rfl))
    try simp only [Act.put]
    refine wpAnyH_take (i := 1) (oi := _) (v := ?_) rfl (by kernel_rfl) (by kernel_rfl) (by kernel_rfl) (fun _ _ _ h => h) (Or.inl ⟨by rfl, ?_⟩) (by assumption) ?_
    rotate_left
    · ((intro w hSw; (try dsimp only at hSw); go_simp) <;> (try with_reducible rfl))
    try simp only [Act.put]
    refine wpAnyH_take (i := 2) (oi := _) (v := ?_) rfl (by kernel_rfl) (by kernel_rfl) (by kernel_rfl) (fun _ _ _ h => h) (Or.inl ⟨by rfl, ?_⟩) (by assumption) ?_
    rotate_left
    · ((intro w hSw; (try dsimp only at hSw); go_simp) <;> (try with_reducible rfl))
    try simp only [Act.put]
    refine wpAnyH_take (i := 3) (oi := _) (v := ?_) rfl (by kernel_rfl) (by kernel_rfl) (by kernel_rfl) (fun _ _ _ h => h) (Or.inl ⟨by rfl, ?_⟩) (by assumption) ?_
    rotate_left
    · ((intro w hSw; (try dsimp only at hSw); go_simp) <;> (try with_reducible rfl))
    try simp only [Act.put]
    refine wpAnyH_take (i := 4) (oi := _) (v := ?_) rfl (by kernel_rfl) (by kernel_rfl) (by kernel_rfl) (fun _ _ _ h => h) (Or.inl ⟨by rfl, ?_⟩) (by assumption) ?_
    rotate_left
    · ((intro w hSw; (try dsimp only at hSw); go_simp) <;> (try with_reducible rfl))
    try simp only [Act.put]
    refine wpAnyH_take (i := 5) (oi := _) (v := ?_) rfl (by kernel_rfl) (by kernel_rfl) (by kernel_rfl) (fun _ _ _ h => h) (Or.inl ⟨by rfl, ?_⟩) (by assumption) ?_
    rotate_left
    · ((intro w hSw; (try dsimp only at hSw); go_simp) <;> (try with_reducible rfl))
    try simp only [Act.put]
    refine wpAnyH_take (i := 7) (oi := _) (v := ?_) rfl (by kernel_rfl) (by kernel_rfl) (by kernel_rfl) (fun _ _ _ h => h) (Or.inl ⟨by rfl, ?_⟩) (by assumption) ?_
    rotate_left
    · ((intro w hSw; (try dsimp only at hSw); go_simp) <;> (try with_reducible rfl))
    try simp only [Act.put]
    refine wpAnyH_ready (rs := [6]) (by kernel_rfl) (by simp) ?_
    refine AllReadyH.cons (o := _) rfl (fun KK hKK => ?_) AllReadyH.nil
    go_simp
    (go_at_call 16; refine (HLG.out.go _).mono ?_; rintro e w' ⟨rfl, hb'⟩)
    have K'' := Rp.below (w' := w') (by first | exact K | exact K.drew) hb'
    clear K hb'
    have K := K''
    clear K''
    (try simp only [World.size_drew] at K)
    refine hKK.out _ _ ?_ (fun hHeld => ?_)
    · exact by first | exact ⟨K.x.c0, K.x.c2⟩ | exact ⟨K.drew.x.c0, K.drew.x.c2⟩
    clear hKK KK
    try simp only [Act.put]
    refine wpAnyH_take (i := 8) (oi := _) (v := ?_) rfl (by kernel_rfl) (by kernel_rfl) (by kernel_rfl) (fun _ _ _ h => h) (Or.inl ⟨by rfl, ?_⟩) (by assumption) ?_
    rotate_left
    · ((intro w hSw; (try dsimp only at hSw); go_simp) <;> (try with_reducible rfl))
    try simp only [Act.put]
    refine wpAnyH_done (by kernel_rfl) ?_ _
    refine peel_last rfl (fun KK hKK => ?_)
    clear hHeld
    go_simp
    refine hKK _ _ ?_
    refine NoPanic.normal ?_
    clear hKK KK
    have K9 : Hid (Rp W w' (.slice a bs.length c) (.slice a2 lo.length c2) (.slice a3 hi.length c3) gh gl gt gp hi lo ts ps) := K
    clear K
    by_cases hj : (hi.length : Int) = (j : Int)
    · have hj' : hi.length = j := by omega
      by_cases hal : (hi.all fun e => ofB (k : Int) (e.1 : Int) (e.2 : Int)) = true
      · have hE0 := HRE.out hj hal
        have oh : ofT k hi := all_of.1 hal
        have hps : ps = parts (2 ^ k) bs q hi := by
          have h := Q5.out.2.2.1 hE0
          rw [Int.toNat_natCast, hj', hq] at h
          exact h
        rw [hal] at HAL
        rw [hE0]
        have pl : ps.length = 2 ^ k := by rw [hps, parts_len]
        have HDP := hidT (fun (w : World) (hb : Below W.heap.size W w) (g : Option Addr) (cg : Nat) (h : ERow w g hi) => rparts23 k HJK.out.1 a g bs.length c cg (2 ^ k) q bs hi HIN.out.2.2.1 (by have := HIN.out; omega) rfl HJK.out.2.2.1 rfl (by have := HIN.out; omega) w (HIN.out.1.below hb) h)
        rw [← hps] at HDP
        have lp : ltE ps := Q5.out.1
        have p128 : ps.length ≤ 128 := Q5.out.2.1
        have HV1 := hidT (fun (w : World) (hb : Below W.heap.size W w) (g : Option Addr) (cg : Nat) (hp : ERow w g ps) => HV.out w hb g cg ps hp lp p128)
        have HT1 := hidT (fun (w : World) (g1 g2 : Option Addr) (c1 c2 : Nat) (h1 : ERow w g1 ps) (h2 : ERow w g2 lo) => HTW.out w g1 g2 c1 c2 ps lp p128 h1 h2)
        have HD1 := hidT (fun (w : World) (g1 g2 : Option Addr) (c1 c2 : Nat) (h1 : ERow w g1 ps) (h2 : ERow w g2 lo) => HDV.out w g1 g2 c1 c2 ps lp p128 h1 h2)
        have HS2 := hidT (fun (w : World) (g1 g2 : Option Addr) (c1 c2 : Nat) (h1 : ERow w g1 ps) (h2 : ERow w g2 ps) => HSM.out w g1 g2 c1 c2 ps (by omega) h1 h2)
        have HVE : Hid (rgh (k : Int) ps lo = 0 → vl ps lo = vsum (2 ^ (k : Int).toNat) ps lo) := fun _ => by rw [Int.toNat_natCast]; exact vl_vsum ps lo _ pl
        rw [pl] at HV1 HT1 HD1 HS2 ⊢
        clear HRE HR6 HR5 hE0 oh hps hal pl lp p128 HV HTW HDV HSM Q5 hj' hq HLG
        generalize (2 : Nat) ^ k = N at *
        generalize rgh (k : Int) ps lo = E at *
        have Y0 := K9.out.x.c0
        have ARMSX : True := trivial
        go_upto_region 21 with (first
          | (go_at_call 17; refine (HAL.out _ _ _ K9.out.h).mono ?_; rintro e wa ⟨rfl, hba⟩; have KA : Hid (Rp W wa (.slice a bs.length c) (.slice a2 lo.length c2) (.slice a3 hi.length c3) gh gl gt gp hi lo ts ps) := K9.out.below hba; clear hba K9 HAL Y0; have Y0 := KA.out.x.c0)
          | (go_at_call 18; refine (HDP.out _ KA.out.x.d _ _ KA.out.h).mono ?_; rintro e wb ⟨gr, crr, rfl, hrb, hbb⟩; have KB : Hid (Rp W wb (.slice a bs.length c) (.slice a2 lo.length c2) (.slice a3 hi.length c3) gh gl gt gp hi lo ts ps ∧ ERow wb gr ps) := ⟨KA.out.below hbb, hrb⟩; clear hrb hbb KA HDP Y0; have Y1 := KB.out.1.x.c1)
          | (go_at_call 19; refine (HV1.out _ KB.out.1.x.d _ _ KB.out.1.p).mono ?_; rintro e wc ⟨v, rfl, hv1, hv2, hbc⟩; have KC : Hid (Rv W (wc.alloc (Obj.cells #[.int .u64 (v.1 : Int), .int .u64 (v.2 : Int)] 42)) wc.heap.size v gr gl gp ps lo ps) := ⟨El.newR wc v _, (KB.out.2.below hbc).below ((Below.refl _ _).alloc (Nat.le_refl _) _), (KB.out.1.l.below hbc).below ((Below.refl _ _).alloc (Nat.le_refl _) _), (KB.out.1.p.below hbc).below ((Below.refl _ _).alloc (Nat.le_refl _) _), (KB.out.1.x.d.trans (hbc.mono KB.out.1.x.d.size)).alloc (KB.out.1.x.d.trans (hbc.mono KB.out.1.x.d.size)).size _⟩; have QC := hidT (And.intro hv1 hv2); clear hv1 hv2 hbc KB HV1 Y1)
          | (go_at_call 14; refine (HS2.out _ _ _ _ _ KC.out.p KC.out.r).mono ?_; rintro e wd ⟨rfl, hbd⟩; have KD : Hid (Rv W wd wc.heap.size v gr gl gp ps lo ps) := KC.out.below hbd; clear hbd KC HS2)
          | (go_at_call 20; refine (HT1.out _ _ _ _ _ KD.out.r KD.out.l).mono ?_; rintro e we ⟨rfl, hbe⟩; have KE : Hid (Rv W we wc.heap.size v gr gl gp ps lo ps) := KD.out.below hbe; clear hbe KD HT1))
        clear ARMSX
        by_cases hE : E = 0
        · subst hE
          have ev : v = vl ps lo := by rw [HVE.out (by first | rfl | trivial)]; exact QC.out.1 (by first | rfl | trivial)
          rw [← ev] at HD1
          clear QC HVE ev
          have K := KE.out
          clear KE
          generalize wc.heap.size = qv at *
          go_upto_region 23 with fail
          refine wp_region_noPanic ?_
          refine wp_region_peel (S := fun w => w.cell? ⟨qv, 0, none⟩ = some (.int .u64 (v.1 : Int)) ∧ w.cell? ⟨qv, 1, none⟩ = some (.int .u64 (v.2 : Int))) 8 (by kernel_rfl) rfl (by kernel_rfl) ?_ (fun hHeld => ?_)
          · exact ⟨K.v.hi, K.v.lo⟩
          refine wpAnyH_ready (rs := [0]) (by kernel_rfl) (by simp) ?_
          refine AllReadyH.cons (o := _) rfl (fun KK hKK => ?_) AllReadyH.nil
          go_simp
          (go_at_call 9; refine (AW.out.go _).mono ?_; rintro e w' ⟨rfl, hb'⟩)
          have K'' := Rv.below (w' := w') (by first | exact K | exact K.drew) hb'
          clear K hb'
          have K := K''
          clear K''
          (try simp only [World.size_drew] at K)
          refine hKK.out _ _ ?_ (fun hHeld => ?_)
          · exact ⟨K.v.hi, K.v.lo⟩
          clear hKK KK
          try simp only [Act.put]
          refine wpAnyH_take (i := 1) (oi := _) (v := ?_) rfl (by kernel_rfl) (by kernel_rfl) (by kernel_rfl) (fun _ _ _ h => h) (Or.inl ⟨by rfl, ?_⟩) (by assumption) ?_
          rotate_left
          · ((intro w hSw; (try dsimp only at hSw); go_simp) <;> (try with_reducible rfl))
          try simp only [Act.put]
          refine wpAnyH_take (i := 2) (oi := _) (v := ?_) rfl (by kernel_rfl) (by kernel_rfl) (by kernel_rfl) (fun _ _ _ h => h) (Or.inl ⟨by rfl, ?_⟩) (by assumption) ?_
          rotate_left
          · ((intro w hSw; (try dsimp only at hSw); go_simp) <;> (try with_reducible rfl))
          try simp only [Act.put]
          refine wpAnyH_take (i := 3) (oi := _) (v := ?_) rfl (by kernel_rfl) (by kernel_rfl) (by kernel_rfl) (fun _ _ _ h => h) (Or.inl ⟨by rfl, ?_⟩) (by assumption) ?_
          rotate_left
          · ((intro w hSw; (try dsimp only at hSw); go_simp) <;> (try with_reducible rfl))
          try simp only [Act.put]
          refine wpAnyH_take (i := 4) (oi := _) (v := ?_) rfl (by kernel_rfl) (by kernel_rfl) (by kernel_rfl) (fun _ _ _ h => h) (Or.inl ⟨by rfl, ?_⟩) (by assumption) ?_
          rotate_left
          · ((intro w hSw; (try dsimp only at hSw); go_simp) <;> (try with_reducible rfl))
          try simp only [Act.put]
          refine wpAnyH_ready (rs := [5]) (by kernel_rfl) (by simp) ?_
          refine AllReadyH.cons (o := _) rfl (fun KK hKK => ?_) AllReadyH.nil
          go_simp
          (go_at_call 21; refine (HD1.out _ _ _ _ _ K.r K.l).mono ?_; rintro e w' ⟨rfl, hb'⟩)
          have K'' := Rv.below (w' := w') (by first | exact K | exact K.drew) hb'
          clear K hb'
          have K := K''
          clear K''
          (try simp only [World.size_drew] at K)
          refine hKK.out _ _ ?_ (fun hHeld => ?_)
          · exact ⟨K.v.hi, K.v.lo⟩
          clear hKK KK
          try simp only [Act.put]
          refine wpAnyH_take (i := 6) (oi := _) (v := ?_) rfl (by kernel_rfl) (by kernel_rfl) (by kernel_rfl) (fun _ _ _ h => h) (Or.inl ⟨by rfl, ?_⟩) (by assumption) ?_
          rotate_left
          · ((intro w hSw; (try dsimp only at hSw); go_simp) <;> (try with_reducible rfl))
          try simp only [Act.put]
          refine wpAnyH_take (i := 7) (oi := _) (v := ?_) rfl (by kernel_rfl) (by kernel_rfl) (by kernel_rfl) (fun _ _ _ h => h) (Or.inl ⟨by rfl, ?_⟩) (by assumption) ?_
          rotate_left
          · ((intro w hSw; (try dsimp only at hSw); go_simp) <;> (try with_reducible rfl))
          try simp only [Act.put]
          refine wpAnyH_done (by kernel_rfl) ?_ _
          refine peel_last rfl (fun KK hKK => ?_)
          clear hHeld
          go_simp
          refine hKK _ _ ?_
          refine NoPanic.normal ?_
          clear hKK KK
          go_wp2
          go_ret
          exact ⟨rfl, K.d⟩
        · obtain rfl : v = (0, 0) := QC.out.2 hE
          clear QC HVE HD1
          go_wp2_with (go_at_call 9; refine (AW.out.go _).mono ?_; rintro e w9 ⟨rfl, hb9⟩; have KF := hidT (KE.out.below hb9); clear hb9 KE; obtain ⟨f1, f0⟩ := KF.out.v)
          go_ret
          exact ⟨rfl, KF.out.d⟩
      · have hE5 := HR5.out hj hal
        have hpn : ps = [] := Q5.out.2.2.2 (by rw [hE5]; decide)
        rw [Bool.eq_false_iff.2 hal] at HAL
        rw [hE5]
        subst hpn
        clear HRE HR6 HR5 hE5 hal Q5 HV HTW HDV HSM HLG hj'
        go_wp2_with (first | (go_at_call 9; refine (AW.out.go _).mono ?_; rintro e w9 ⟨rfl, hb9⟩) | (go_at_call 17; refine (HAL.out _ _ _ K9.out.h).mono ?_; rintro e wa ⟨rfl, hba⟩; have KA : Hid (Below W.heap.size W wa) := K9.out.x.d.trans (hba.mono K9.out.x.d.size); clear hba K9))
        go_ret
        exact ⟨rfl, KA.out.trans (hb9.mono KA.out.size)⟩
    · have hE6 := HR6.out hj
      have hpn : ps = [] := Q5.out.2.2.2 (by rw [hE6]; decide)
      rw [hE6]
      subst hpn
      clear HRE HR6 HR5 hE6 Q5 HV HTW HDV HSM HLG HAL
      go_wp2_with (go_at_call 9; refine (AW.out.go _).mono ?_; rintro e w9 ⟨rfl, hb9⟩)
      go_ret
      exact ⟨rfl, K9.out.x.d.trans (hb9.mono K9.out.x.d.size)⟩
  · obtain ⟨e1, rfl, rfl⟩ := hE1.out hv
    rw [e1]
    clear e1 hE1 Q4 Q5
    generalize hvE l bs.length = E at *
    go_wp2_with (go_at_call 9; refine (AW.out.go _).mono ?_; rintro e w9 ⟨rfl, hb9⟩)
    go_ret
    exact ⟨rfl, K6.out.x.d.trans (hb9.mono K6.out.x.d.size)⟩
theorem rp_any (l : Int) (a a2 a3 : Option Addr) (c c2 c3 : Nat) (bs : List Bool) (lo hi : List (Nat × Nat)) (ll : ltE lo) (lh : ltE hi) (W : World) (ra : BRow W a bs) (rl : ERow W a2 lo) (rh : ERow W a3 hi) :
    Calls Try.prog 3 #[.int .i64 l, .agg #[.slice a bs.length c, .slice a2 lo.length c2, .slice a3 hi.length c3]] W fun e w' => e = .returned (.bool true) ∧ Below W.heap.size W w' := by
  by_cases h : bs.length ≤ 130 ∧ lo.length ≤ 6 ∧ hi.length ≤ 6 ∧ (l ≤ 5 ∨ 7 < l)
  · exact rp_main l a a2 a3 c c2 c3 bs lo hi h.1 h.2.1 h.2.2.1 h.2.2.2 ll lh W ra rl rh
  · exact rp_far l a a2 a3 _ _ _ c c2 c3 h W
end Go.Proofs.Ytbomgcmmfeahiaa
