/- RingCounts over the seat's translation: one level. -/
import Derived.Test.YtbomgcmmfeahiaaRgR
namespace Go.Proofs.Ytbomgcmmfeahiaa
open Go.RowKit
open Cb
open Rg
open Tw (pm)

set_option maxHeartbeats 20000000 in
set_option maxRecDepth 100000 in
theorem rcm1 (a a2 a3 aq : Option Addr) (c c2 c3 cq : Nat) (bs : List Bool) (lo hi qs : List (Nat × Nat)) (n1 : bs.length ≤ 32) (n3 : hi.length ≤ 6) (n5 : qs.length = 2) (lh : ltE hi) (lq : ltE qs) (oq : ofT 1 qs) (W : World) (ra : BRow W a bs) (rh : ERow W a3 hi) (rq : ERow W aq qs) :
    Calls Try.prog 7 #[.int .i64 1, .agg #[.slice a bs.length c, .slice a2 lo.length c2, .slice a3 hi.length c3], .slice aq 2 cq] W fun e w' => e = .returned (.bool true) ∧ Below W.heap.size W w' := by
  have AW := hidT awake23
  have HR := hidT (fun w (hb : Below W.heap.size W w) => ref_row aq cq qs (by omega) w (rq.below hb))
  have HA := hidT (fun (w : World) (g : Option Addr) (cp : Nat) (h : ERow w g qs) => rall15 1 g cp qs lq w h (by omega))
  rw [show (qs.all fun e => ofB 1 (e.1 : Int) (e.2 : Int)) = true from all_of.2 oq] at HA
  rw [n5] at HR HA
  have h1' : ¬ 32 < (bs.length : Int) := by omega
  have h2' : ¬ 6 < (hi.length : Int) := by omega
  by_cases hE : rpE 1 bs.length hi = 0
  · obtain ⟨k, hk, ek, hkj, hn2, oh⟩ := rp_zero hE
    obtain rfl : k = 1 := by omega
    obtain ⟨ps, hps⟩ : ∃ ps, ps = parts 2 bs (2 ^ hi.length) hi := ⟨_, rfl⟩
    have hpl : ps.length = 2 := by rw [hps, parts_len]
    have lp : ltE ps := by rw [hps]; exact lt_parts _ _ _ _
    have op : ofT 1 ps := by rw [hps]; exact of_parts (by decide) _ _ _ oh
    have HP := hidT (fun w (hb : Below W.heap.size W w) => rparts_ok 1 (by decide) a a3 bs.length c c3 hi.length 2 (2 ^ hi.length) bs hi lh rfl hkj (by decide) rfl hn2 rfl oh w (ra.below hb) (rh.below hb))
    rw [← hps] at HP
    have HS := hidT (fun (w : World) (g1 g2 : Option Addr) (c1 c2 : Nat) (h1 : ERow w g1 ps) (h2 : ERow w g2 qs) => same_dec g1 g2 c1 c2 2 ps qs hpl n5 (by decide) w h1 h2)
    clear hE hk ek hkj hn2 oh hps
    by_cases hs : ps = qs
    · rw [decide_eq_true hs] at HS
      clear hs lp op lh lq oq ra rh rq n1 n3 n5 hpl
      go_enter Try.func7, Try.ntmps7
      go_wp2_with (first
      | (go_at_call 10; first | (refine (HR.out _ K3.out.1.d).mono ?_; rintro e w4 ⟨g4, c4, rfl, hr4, hb4⟩; have K4 : Hid (Sx W w4 (.slice a bs.length c) (.slice a2 lo.length c2) (.slice a3 hi.length c3) ∧ ERow w4 (some ⟨g7, 0, none⟩) ps ∧ ERow w4 g4 qs) := ⟨K3.out.1.below hb4, K3.out.2.below hb4, hr4⟩; clear hr4 hb4 K3) | (refine (HR.out _ (by go_grown)).mono ?_; rintro e w1 ⟨g1, c1, rfl, hr1, hb1⟩; have K1 : Hid (Sx W w1 (.slice a bs.length c) (.slice a2 lo.length c2) (.slice a3 hi.length c3) ∧ ERow w1 g1 qs) := ⟨((Sx.new W _ _ _ _).below ((Below.refl _ _).alloc (Nat.le_refl _) _)).below hb1, hr1⟩; clear hr1 hb1))
      | (go_at_call 17; refine (HA.out _ _ _ K1.out.2).mono ?_; rintro e w2 ⟨rfl, hb2⟩; have K2 : Hid (Sx W w2 (.slice a bs.length c) (.slice a2 lo.length c2) (.slice a3 hi.length c3)) := K1.out.1.below hb2; clear hb2 K1; have Y0 := K2.out.c0; have Y2 := K2.out.c2)
      | (go_at_call 12; refine (HP.out _ K2.out.d).mono ?_; rintro e w3 ⟨g7, rfl, hr3, hb3⟩; have K3 : Hid (Sx W w3 (.slice a bs.length c) (.slice a2 lo.length c2) (.slice a3 hi.length c3) ∧ ERow w3 (some ⟨g7, 0, none⟩) ps) := ⟨K2.out.below hb3, hr3⟩; clear hr3 hb3 K2 Y0 Y2)
      | (go_at_call 14; refine (HS.out _ _ _ _ _ K4.out.2.1 K4.out.2.2).mono ?_; rintro e w5 ⟨rfl, hb5⟩; have K5 : Hid (Sx W w5 (.slice a bs.length c) (.slice a2 lo.length c2) (.slice a3 hi.length c3) ∧ ERow w5 (some ⟨g7, 0, none⟩) ps) := ⟨K4.out.1.below hb5, K4.out.2.1.below hb5⟩; clear hb5 K4)
      | (go_at_call 9; refine (AW.out.go _).mono ?_; rintro e w9 ⟨rfl, hb9⟩))
      go_ret
      exact ⟨rfl, K5.out.1.d.trans (hb9.mono K5.out.1.d.size)⟩
    · rw [decide_eq_false hs] at HS
      have HCT : Hid ((ns 4 fun i => b2 (al1 ps qs i)) ≤ 1) := count1 hpl n5 lp lq op oq hs
      have HIN : Hid (ltE ps ∧ ltE qs ∧ ofT 1 ps ∧ ofT 1 qs ∧ ps.length = 2 ∧ qs.length = 2 ∧ ERow W aq qs) := ⟨lp, lq, op, oq, hpl, n5, rq⟩
      clear hs lp op lh lq oq ra rh rq n1 n3 n5 hpl
      go_enter Try.func7, Try.ntmps7
      go_upto_region 7 with (first
      | (go_at_call 10; first | (refine (HR.out _ K3.out.1.d).mono ?_; rintro e w4 ⟨g4, c4, rfl, hr4, hb4⟩; have K4 : Hid (Sx W w4 (.slice a bs.length c) (.slice a2 lo.length c2) (.slice a3 hi.length c3) ∧ ERow w4 (some ⟨g7, 0, none⟩) ps ∧ ERow w4 g4 qs) := ⟨K3.out.1.below hb4, K3.out.2.below hb4, hr4⟩; clear hr4 hb4 K3) | (refine (HR.out _ (by go_grown)).mono ?_; rintro e w1 ⟨g1, c1, rfl, hr1, hb1⟩; have K1 : Hid (Sx W w1 (.slice a bs.length c) (.slice a2 lo.length c2) (.slice a3 hi.length c3) ∧ ERow w1 g1 qs) := ⟨((Sx.new W _ _ _ _).below ((Below.refl _ _).alloc (Nat.le_refl _) _)).below hb1, hr1⟩; clear hr1 hb1))
      | (go_at_call 17; refine (HA.out _ _ _ K1.out.2).mono ?_; rintro e w2 ⟨rfl, hb2⟩; have K2 : Hid (Sx W w2 (.slice a bs.length c) (.slice a2 lo.length c2) (.slice a3 hi.length c3)) := K1.out.1.below hb2; clear hb2 K1; have Y0 := K2.out.c0; have Y2 := K2.out.c2)
      | (go_at_call 12; refine (HP.out _ K2.out.d).mono ?_; rintro e w3 ⟨g7, rfl, hr3, hb3⟩; have K3 : Hid (Sx W w3 (.slice a bs.length c) (.slice a2 lo.length c2) (.slice a3 hi.length c3) ∧ ERow w3 (some ⟨g7, 0, none⟩) ps) := ⟨K2.out.below hb3, hr3⟩; clear hr3 hb3 K2 Y0 Y2)
      | (go_at_call 14; refine (HS.out _ _ _ _ _ K4.out.2.1 K4.out.2.2).mono ?_; rintro e w5 ⟨rfl, hb5⟩; have K5 : Hid (Sx W w5 (.slice a bs.length c) (.slice a2 lo.length c2) (.slice a3 hi.length c3) ∧ ERow w5 (some ⟨g7, 0, none⟩) ps) := ⟨K4.out.1.below hb5, K4.out.2.1.below hb5⟩; clear hb5 K4)
      | (go_at_call 9; refine (AW.out.go _).mono ?_; rintro e w9 ⟨rfl, hb9⟩))
      have KB : Hid (ERow (w5.alloc (Obj.cells #[.int .i64 2, .int .i64 4, .int .i64 16] 3)) (some ⟨g7, 0, none⟩) ps ∧ Below W.heap.size W (w5.alloc (Obj.cells #[.int .i64 2, .int .i64 4, .int .i64 16] 3))) := ⟨K5.out.2.below ((Below.refl _ _).alloc (Nat.le_refl _) _), K5.out.1.d.alloc K5.out.1.d.size _⟩
      clear K5 HR HA HP HS
      generalize (w5.alloc (Obj.cells #[.int .i64 2, .int .i64 4, .int .i64 16] 3)) = wB at *
      obtain ⟨i0, hi0, hz0, hz1, hz2⟩ := info_elem
      have HI : Hid (Try.prog.info? 42 = some i0 ∧ i0.zero = some (.agg #[.int .u64 0, .int .u64 0]) ∧ i0.size = 2 ∧ i0.bytes = 16) := ⟨hi0, hz0, hz1, hz2⟩
      clear hi0 hz0 hz1 hz2
      go_wp2_with fail
      go_loopw [11, 12] (fun s u wr => ∃ k m : Nat, k ≤ 4 ∧ Hid (m = ns k fun i => b2 (al1 ps qs i)) ∧ s = .int .i64 m ∧ u = .int .i64 k ∧ Hid (Below wB.heap.size wB wr)) (fun _ u _ => 4 - (intOf u).toNat)
      case atStart => exact ⟨0, 0, Nat.zero_le _, (by rfl), rfl, rfl, Below.refl _ _⟩
      case round =>
        obtain ⟨k, m, hk, HM, rfl, rfl, HD⟩ := hrel
        by_cases hlt : k < 4
        · have k1 : (k : Int) < 4 := by omega
          have k0 : (0 : Int) ≤ (k : Int) := by omega
          have hm2 : m ≤ k := by rw [HM.out]; exact ns_b2 _ _
          obtain ⟨x, hx⟩ : ∃ x, x = k % 4 := ⟨_, rfl⟩
          have hx2 : x < 4 := by omega
          have ex : (k : Int) % 4 = (x : Int) := by omega
          have wx : IntKind.u64.wrap (x : Int) = (x : Int) := by rw [IntKind.wrap_u64]; omega
          have lr : ltE [(0, x)] := by intro e he; simp at he; subst he; exact lt_lo (by omega)
          have or : ofT 1 [(0, x)] := by intro e he; simp at he; subst he; exact of_lo 1 x (by decide) (by omega)
          have HB1 := hidT (fun (w : World) (g : Option Addr) (cp : Nat) (hp : ERow w (some ⟨g7, 0, none⟩) ps) (hr : ERow w g [(0, x)]) => rbat_ok 1 (by decide) (some ⟨g7, 0, none⟩) g 2 cp 2 ps [(0, x)] HIN.out.1 lr HIN.out.2.2.2.2.1 (by decide) rfl HIN.out.2.2.1 or _ rfl w hp hr)
          have HB2 := hidT (fun (w : World) (g : Option Addr) (cp : Nat) (hq : ERow w aq qs) (hr : ERow w g [(0, x)]) => rbat_ok 1 (by decide) aq g cq cp 2 qs [(0, x)] HIN.out.2.1 lr HIN.out.2.2.2.2.2.1 (by decide) rfl HIN.out.2.2.2.1 or _ rfl w hq hr)
          have HAL : Hid (al1 ps qs k = decide (btc 2 ps [(0, x)] = btc 2 qs [(0, x)])) := by show _ = _; unfold al1; rw [show k = x by omega]
          have hz1 := lt_btc 2 ps [(0, x)]
          have hz2 := lt_btc 2 qs [(0, x)]
          have hwm : IntKind.i64.wrap ((m : Int) + 1) = ((m + 1 : Nat) : Int) := by rw [IntKind.wrap_i64]; omega
          have hB0 : wB.heap.size ≤ wr.heap.size := HD.out.size
          clear lr or hz1 hz2 hx
          generalize btc 2 ps [(0, x)] = z1 at *
          generalize btc 2 qs [(0, x)] = z2 at *
          have NXT : ∀ b : Bool, decide (z1 = z2) = b → Hid ((m + (if b = true then 1 else 0)) = ns (k + 1) fun i => b2 (al1 ps qs i)) := fun b hb => by
            show _ = ns k (fun i => b2 (al1 ps qs i)) + b2 (al1 ps qs k)
            rw [HM.out, HAL.out, hb]
            rfl
          have K0 : Hid (ERow (wr.alloc (Obj.cells #[.int .u64 0, .int .u64 (x : Int)] 42)) (some ⟨g7, 0, none⟩) ps ∧ ERow (wr.alloc (Obj.cells #[.int .u64 0, .int .u64 (x : Int)] 42)) aq qs ∧ ERow (wr.alloc (Obj.cells #[.int .u64 0, .int .u64 (x : Int)] 42)) (some ⟨wr.heap.size, 0, none⟩) [(0, x)] ∧ Below wB.heap.size wB (wr.alloc (Obj.cells #[.int .u64 0, .int .u64 (x : Int)] 42))) := ⟨(KB.out.1.below HD.out).below ((Below.refl _ _).alloc (Nat.le_refl _) _), (HIN.out.2.2.2.2.2.2.below (KB.out.2.trans (HD.out.mono KB.out.2.size))).below ((Below.refl _ _).alloc (Nat.le_refl _) _), er1 (x := (0, x)) (by simp [go_sem]) (by simp [go_sem]), HD.out.alloc HD.out.size _⟩
          by_cases hzz : z1 = z2
          · have N1 := NXT true (decide_eq_true hzz)
            rw [← hzz] at HB2
            clear NXT hzz HAL
            go_wp2_with (first
            | (go_at_call_of 22 (#[.int .i64 1, .slice (some ⟨g7, 0, none⟩) 2 2, .slice (some ⟨wr.heap.size, 0, none⟩) 1 1] : Array Value); refine (HB1.out _ _ _ K0.out.1 K0.out.2.2.1).mono ?_; rintro e w6 ⟨rfl, hb6⟩; have K6 : Hid (ERow (w6.alloc (Obj.cells #[.int .u64 (z1.1 : Int), .int .u64 (z1.2 : Int)] 42)) aq qs ∧ ERow (w6.alloc (Obj.cells #[.int .u64 (z1.1 : Int), .int .u64 (z1.2 : Int)] 42)) (some ⟨wr.heap.size, 0, none⟩) [(0, x)] ∧ El (w6.alloc (Obj.cells #[.int .u64 (z1.1 : Int), .int .u64 (z1.2 : Int)] 42)) w6.heap.size z1.1 z1.2 ∧ Below wB.heap.size wB (w6.alloc (Obj.cells #[.int .u64 (z1.1 : Int), .int .u64 (z1.2 : Int)] 42))) := ⟨(K0.out.2.1.below hb6).below ((Below.refl _ _).alloc (Nat.le_refl _) _), (K0.out.2.2.1.below hb6).below ((Below.refl _ _).alloc (Nat.le_refl _) _), El.newR w6 z1 _, (K0.out.2.2.2.trans (hb6.mono K0.out.2.2.2.size)).alloc (K0.out.2.2.2.trans (hb6.mono K0.out.2.2.2.size)).size _⟩; clear hb6 K0)
            | (go_at_call 22; refine (HB2.out _ _ _ K6.out.1 K6.out.2.1).mono ?_; rintro e w7 ⟨rfl, hb7⟩; have K7 : Hid (El (w7.alloc (Obj.cells #[.int .u64 (z1.1 : Int), .int .u64 (z1.2 : Int)] 42)) w6.heap.size z1.1 z1.2 ∧ El (w7.alloc (Obj.cells #[.int .u64 (z1.1 : Int), .int .u64 (z1.2 : Int)] 42)) w7.heap.size z1.1 z1.2 ∧ Below wB.heap.size wB (w7.alloc (Obj.cells #[.int .u64 (z1.1 : Int), .int .u64 (z1.2 : Int)] 42))) := ⟨(K6.out.2.2.1.below hb7).alloc _, El.newR w7 (z1.1, z1.2) _, (K6.out.2.2.2.trans (hb7.mono K6.out.2.2.2.size)).alloc (K6.out.2.2.2.trans (hb7.mono K6.out.2.2.2.size)).size _⟩; clear hb7 K6; obtain ⟨v1, v0⟩ := K7.out.1))
            exact ⟨⟨k + 1, m + 1, hlt, N1, by simp, by simp, K7.out.2.2⟩, by simp [intOf]; omega⟩
          · have N1 := NXT false (decide_eq_false hzz)
            clear NXT
            by_cases h1 : z1.1 = z2.1
            · have h2 : ¬ (z1.2 : Int) = (z2.2 : Int) := fun h => hzz (Prod.ext h1 (by omega))
              rw [← h1] at HB2
              clear hzz HAL h1
              go_wp2_with (first
            | (go_at_call_of 22 (#[.int .i64 1, .slice (some ⟨g7, 0, none⟩) 2 2, .slice (some ⟨wr.heap.size, 0, none⟩) 1 1] : Array Value); refine (HB1.out _ _ _ K0.out.1 K0.out.2.2.1).mono ?_; rintro e w6 ⟨rfl, hb6⟩; have K6 : Hid (ERow (w6.alloc (Obj.cells #[.int .u64 (z1.1 : Int), .int .u64 (z1.2 : Int)] 42)) aq qs ∧ ERow (w6.alloc (Obj.cells #[.int .u64 (z1.1 : Int), .int .u64 (z1.2 : Int)] 42)) (some ⟨wr.heap.size, 0, none⟩) [(0, x)] ∧ El (w6.alloc (Obj.cells #[.int .u64 (z1.1 : Int), .int .u64 (z1.2 : Int)] 42)) w6.heap.size z1.1 z1.2 ∧ Below wB.heap.size wB (w6.alloc (Obj.cells #[.int .u64 (z1.1 : Int), .int .u64 (z1.2 : Int)] 42))) := ⟨(K0.out.2.1.below hb6).below ((Below.refl _ _).alloc (Nat.le_refl _) _), (K0.out.2.2.1.below hb6).below ((Below.refl _ _).alloc (Nat.le_refl _) _), El.newR w6 z1 _, (K0.out.2.2.2.trans (hb6.mono K0.out.2.2.2.size)).alloc (K0.out.2.2.2.trans (hb6.mono K0.out.2.2.2.size)).size _⟩; clear hb6 K0)
            | (go_at_call 22; refine (HB2.out _ _ _ K6.out.1 K6.out.2.1).mono ?_; rintro e w7 ⟨rfl, hb7⟩; have K7 : Hid (El (w7.alloc (Obj.cells #[.int .u64 (z1.1 : Int), .int .u64 (z2.2 : Int)] 42)) w6.heap.size z1.1 z1.2 ∧ El (w7.alloc (Obj.cells #[.int .u64 (z1.1 : Int), .int .u64 (z2.2 : Int)] 42)) w7.heap.size z1.1 z2.2 ∧ Below wB.heap.size wB (w7.alloc (Obj.cells #[.int .u64 (z1.1 : Int), .int .u64 (z2.2 : Int)] 42))) := ⟨(K6.out.2.2.1.below hb7).alloc _, El.newR w7 (z1.1, z2.2) _, (K6.out.2.2.2.trans (hb7.mono K6.out.2.2.2.size)).alloc (K6.out.2.2.2.trans (hb7.mono K6.out.2.2.2.size)).size _⟩; clear hb7 K6; obtain ⟨v1, v0⟩ := K7.out.1))
              exact ⟨⟨k + 1, m, hlt, N1, by simp, by simp, K7.out.2.2⟩, by simp [intOf]; omega⟩
            · have h2 : ¬ (z1.1 : Int) = (z2.1 : Int) := by omega
              clear hzz h1 HAL
              go_wp2_with (first
            | (go_at_call_of 22 (#[.int .i64 1, .slice (some ⟨g7, 0, none⟩) 2 2, .slice (some ⟨wr.heap.size, 0, none⟩) 1 1] : Array Value); refine (HB1.out _ _ _ K0.out.1 K0.out.2.2.1).mono ?_; rintro e w6 ⟨rfl, hb6⟩; have K6 : Hid (ERow (w6.alloc (Obj.cells #[.int .u64 (z1.1 : Int), .int .u64 (z1.2 : Int)] 42)) aq qs ∧ ERow (w6.alloc (Obj.cells #[.int .u64 (z1.1 : Int), .int .u64 (z1.2 : Int)] 42)) (some ⟨wr.heap.size, 0, none⟩) [(0, x)] ∧ El (w6.alloc (Obj.cells #[.int .u64 (z1.1 : Int), .int .u64 (z1.2 : Int)] 42)) w6.heap.size z1.1 z1.2 ∧ Below wB.heap.size wB (w6.alloc (Obj.cells #[.int .u64 (z1.1 : Int), .int .u64 (z1.2 : Int)] 42))) := ⟨(K0.out.2.1.below hb6).below ((Below.refl _ _).alloc (Nat.le_refl _) _), (K0.out.2.2.1.below hb6).below ((Below.refl _ _).alloc (Nat.le_refl _) _), El.newR w6 z1 _, (K0.out.2.2.2.trans (hb6.mono K0.out.2.2.2.size)).alloc (K0.out.2.2.2.trans (hb6.mono K0.out.2.2.2.size)).size _⟩; clear hb6 K0)
            | (go_at_call 22; refine (HB2.out _ _ _ K6.out.1 K6.out.2.1).mono ?_; rintro e w7 ⟨rfl, hb7⟩; have K7 : Hid (El (w7.alloc (Obj.cells #[.int .u64 (z2.1 : Int), .int .u64 (z2.2 : Int)] 42)) w6.heap.size z1.1 z1.2 ∧ El (w7.alloc (Obj.cells #[.int .u64 (z2.1 : Int), .int .u64 (z2.2 : Int)] 42)) w7.heap.size z2.1 z2.2 ∧ Below wB.heap.size wB (w7.alloc (Obj.cells #[.int .u64 (z2.1 : Int), .int .u64 (z2.2 : Int)] 42))) := ⟨(K6.out.2.2.1.below hb7).alloc _, El.newR w7 (z2.1, z2.2) _, (K6.out.2.2.2.trans (hb7.mono K6.out.2.2.2.size)).alloc (K6.out.2.2.2.trans (hb7.mono K6.out.2.2.2.size)).size _⟩; clear hb7 K6; obtain ⟨v1, v0⟩ := K7.out.1))
              exact ⟨⟨k + 1, m, hlt, N1, by simp, by simp, K7.out.2.2⟩, by simp [intOf]; omega⟩
        · obtain rfl : k = 4 := by omega
          have hmb : (m : Int) ≤ 1 := by have := HCT.out; rw [← HM.out] at this; omega
          have HDD : Hid (Below W.heap.size W wr) := KB.out.2.trans (HD.out.mono KB.out.2.size)
          clear HM HCT HIN HI KB HD
          go_wp2_with (go_at_call 9; refine (AW.out.go _).mono ?_; rintro e w9 ⟨rfl, hb9⟩)
          go_ret
          exact ⟨rfl, HDD.out.trans (hb9.mono HDD.out.size)⟩
  · have HP := hidT (fun w (hb : Below W.heap.size W w) => rparts_err 1 a a3 bs.length c c3 hi lh (by omega) (by omega) _ rfl hE w (rh.below hb))
    generalize rpE 1 bs.length hi = E at *
    clear lh lq oq ra rh rq n1 n3 n5
    go_enter Try.func7, Try.ntmps7
    go_wp2_with (first
      | (go_at_call 10; first | (refine (HR.out _ K3.out.1.d).mono ?_; rintro e w4 ⟨g4, c4, rfl, hr4, hb4⟩; have K4 : Hid (Sx W w4 (.slice a bs.length c) (.slice a2 lo.length c2) (.slice a3 hi.length c3) ∧ ERow w4 (some ⟨g7, 0, none⟩) ps ∧ ERow w4 g4 qs) := ⟨K3.out.1.below hb4, K3.out.2.below hb4, hr4⟩; clear hr4 hb4 K3) | (refine (HR.out _ (by go_grown)).mono ?_; rintro e w1 ⟨g1, c1, rfl, hr1, hb1⟩; have K1 : Hid (Sx W w1 (.slice a bs.length c) (.slice a2 lo.length c2) (.slice a3 hi.length c3) ∧ ERow w1 g1 qs) := ⟨((Sx.new W _ _ _ _).below ((Below.refl _ _).alloc (Nat.le_refl _) _)).below hb1, hr1⟩; clear hr1 hb1))
      | (go_at_call 17; refine (HA.out _ _ _ K1.out.2).mono ?_; rintro e w2 ⟨rfl, hb2⟩; have K2 : Hid (Sx W w2 (.slice a bs.length c) (.slice a2 lo.length c2) (.slice a3 hi.length c3)) := K1.out.1.below hb2; clear hb2 K1; have Y0 := K2.out.c0; have Y2 := K2.out.c2)
      | (go_at_call 12; refine (HP.out _ K2.out.d).mono ?_; rintro e w3 ⟨rfl, hb3⟩; have K3 : Hid (Below W.heap.size W w3) := K2.out.d.trans (hb3.mono K2.out.d.size); clear hb3 K2 Y0 Y2)
      | (go_at_call 14; refine (HS.out _ _ _ _ _ K4.out.2.1 K4.out.2.2).mono ?_; rintro e w5 ⟨rfl, hb5⟩; have K5 : Hid (Sx W w5 (.slice a bs.length c) (.slice a2 lo.length c2) (.slice a3 hi.length c3) ∧ ERow w5 (some ⟨g7, 0, none⟩) ps) := ⟨K4.out.1.below hb5, K4.out.2.1.below hb5⟩; clear hb5 K4)
      | (go_at_call 9; refine (AW.out.go _).mono ?_; rintro e w9 ⟨rfl, hb9⟩))
    go_ret
    exact ⟨rfl, K3.out.trans (hb9.mono K3.out.size)⟩
end Go.Proofs.Ytbomgcmmfeahiaa
