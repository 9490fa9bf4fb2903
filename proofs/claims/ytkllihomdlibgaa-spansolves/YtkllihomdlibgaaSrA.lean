/- The walk of steeplelaw04.SpanSolves over the seat's translation. -/
import Derived.Test.YtkllihomdlibgaaSqZ
namespace Go.Proofs.Ytkllihomdlibgaa
open Go.RowKit
open Cb Rg Sq

/-- What the law holds: the two elements in their boxes. -/
structure Sw (W w : World) (g7 : Nat) (x y : Nat × Nat) : Prop where
  x : El w W.heap.size x.1 x.2
  y : El w g7 y.1 y.2
  d : Below W.heap.size W w
theorem Sw.below {W w w' : World} {g7 : Nat} {x y : Nat × Nat} (h : Sw W w g7 x y) (hb : Below w.heap.size w w') : Sw W w' g7 x y := ⟨h.x.below hb, h.y.below hb, h.d.trans (hb.mono h.d.size)⟩
theorem Sw.drew {W w : World} {g7 : Nat} {x y : Nat × Nat} (h : Sw W w g7 x y) : Sw W w.drew g7 x y := h.below (Below.refl _ _).drew
/-- And one of them in a third box, and what Solve gave. -/
structure Sx (W w : World) (g7 : Nat) (x y : Nat × Nat) (g9 : Nat) (z : Nat × Nat) (a : Option Addr) (ws : List Bool) : Prop where
  k : Sw W w g7 x y
  z : El w g9 z.1 z.2
  q : QRow w a ws
theorem Sx.below {W w w' : World} {g7 : Nat} {x y : Nat × Nat} {g9 : Nat} {z : Nat × Nat} {a : Option Addr} {ws : List Bool} (h : Sx W w g7 x y g9 z a ws) (hb : Below w.heap.size w w') : Sx W w' g7 x y g9 z a ws := ⟨h.k.below hb, h.z.below hb, h.q.below hb⟩
theorem Sx.drew {W w : World} {g7 : Nat} {x y : Nat × Nat} {g9 : Nat} {z : Nat × Nat} {a : Option Addr} {ws : List Bool} (h : Sx W w g7 x y g9 z a ws) : Sx W w.drew g7 x y g9 z a ws := h.below (Below.refl _ _).drew
theorem qrow_nil (w : World) : QRow w none [] := ⟨fun i hi => by simp at hi⟩
/-- The sum goes on in its box; all else lies ahead of it. -/
structure Sy (W w : World) (s : Nat × Nat) : Prop where
  s : Ew w W.heap.size s.1 s.2
  d : Below W.heap.size W w
theorem Sy.below {W w w' : World} {s : Nat × Nat} (h : Sy W w s) (hb : Below w.heap.size w w') : Sy W w' s := ⟨h.s.below hb, h.d.trans (hb.mono h.d.size)⟩
theorem Sy.drew {W w : World} {s : Nat × Nat} (h : Sy W w s) : Sy W w.drew s := h.below (Below.refl _ _).drew
theorem Sy.put {W w : World} {s : Nat × Nat} (h : Sy W w s) (t : Nat × Nat) : Sy W ((w.setCell ⟨W.heap.size, 0, none⟩ (.int .u64 (t.1 : Int))).setCell ⟨W.heap.size, 1, none⟩ (.int .u64 (t.2 : Int))) t := ⟨h.s.set _ _, below2 h.d (Nat.le_refl _) _ _⟩
theorem Sy.facts {W w : World} {b o : Nat} {s y : Nat × Nat} (h : Sy W w s) (A : W.cell? ⟨b, o, none⟩ = some (.int .u64 (y.1 : Int)) ∧ W.cell? ⟨b, o + 1, none⟩ = some (.int .u64 (y.2 : Int))) :
    w.cell? ⟨b, o, none⟩ = some (.int .u64 (y.1 : Int)) ∧ w.cell? ⟨b, o + 1, none⟩ = some (.int .u64 (y.2 : Int)) ∧ w.cell? ⟨W.heap.size, 0, none⟩ = some (.int .u64 (s.1 : Int)) ∧ w.cell? ⟨W.heap.size, 1, none⟩ = some (.int .u64 (s.2 : Int)) ∧ w.frozen? ⟨W.heap.size, 0, none⟩ = false ∧ w.frozen? ⟨W.heap.size, 1, none⟩ = false :=
  ⟨keepc h.d A.1, keepc h.d A.2, h.s.hi, h.s.lo, h.s.fhi, h.s.flo⟩
theorem Sy.start (W : World) (T : TypeId) : Sy W (W.alloc (Obj.cells #[.int .u64 0, .int .u64 0] T)) (0, 0) := ⟨⟨⟨by simp [go_sem], by simp [go_sem]⟩, by simp [go_sem], by simp [go_sem]⟩, by go_grown⟩
set_option maxHeartbeats 16000000 in
set_option maxRecDepth 100000 in
theorem sso_any (s0 : Option Addr) (cap0 : Nat) (l : List (Nat × Nat)) (hl : ltE l) (x : Nat × Nat) (hx : lt2 x) (n : Int) (hn : n < 9223372036854775808) (W : World) (h0 : ERow W s0 l) :
    Calls Try.prog 5 #[.slice s0 l.length cap0, .agg #[.int .u64 (x.1 : Int), .int .u64 (x.2 : Int)], .int .i64 n] W fun e w' => e = .returned (.bool true) ∧ Below W.heap.size W w' := by
  have HA := hidT awake04
  have B0 := hidT ((Below.refl W.heap.size W).alloc (Nat.le_refl _) (Obj.cells #[.int .u64 (x.1 : Int), .int .u64 (x.2 : Int)] 25))
  by_cases c0 : 14 < l.length
  · have k0 : (14 : Int) < (l.length : Int) := by omega
    clear c0 h0 hl
    go_enter Try.func5, Try.ntmps5
    go_wp2_with (go_at_call 9; refine (HA.out.go _).mono ?_; rintro e w4 ⟨rfl, hb4⟩; have D4 := hidT (B0.out.trans (hb4.mono (by simp))); clear hb4)
    go_ret
    exact ⟨rfl, D4.out⟩
  have k0 : ¬ (14 : Int) < (l.length : Int) := by omega
  have hN14 : l.length ≤ 14 := by omega
  have hy := lt_pv hl n
  have HRf : Hid (∀ w, Below W.heap.size W w → Calls Try.prog 11 #[.slice s0 l.length cap0] w fun e w' => ∃ a c, e = .returned (.slice a l.length c) ∧ l.length ≤ c ∧ ERow w' a l ∧ Below w.heap.size w w') := fun w hw => (sref_own s0 cap0 l (by omega) w (h0.below hw)).mono fun e w' ⟨a, c, e1, o, e3⟩ => by
    obtain ⟨a', c', e', r⟩ := own_row o
    injection e' with e' _ _; subst e'
    have hc : l.length ≤ c := by
      rcases o.2 with ⟨e, h⟩ | ⟨g, cap, cur, e, _, _, h, _⟩
      · injection e with _ _ e3; omega
      · injection e with _ _ e3; omega
    exact ⟨a, c, e1, hc, r, e3⟩
  have HP : Hid (∀ w, Below W.heap.size W w → Calls Try.prog 20 #[.slice s0 l.length cap0, .int .i64 n] w fun e w' => e = .returned (.agg #[.int .u64 ((pv l n).1 : Int), .int .u64 ((pv l n).2 : Int)]) ∧ Below w.heap.size w w') := fun w hw => spoint_all s0 cap0 n hn l hl (by omega) w (h0.below hw)
  have HRp : Hid (∀ w a c, ERow w a l → Calls Try.prog 21 #[.slice a l.length c, .int .i64 n] w fun e w' => e = .returned (.agg #[.int .u64 ((pv l n).1 : Int), .int .u64 ((pv l n).2 : Int)]) ∧ Below w.heap.size w w') := fun w a c h => rpoint_all a c n hn l hl (by omega) w h
  have HS1 : Hid (∀ z, lt2 z → in? l z = true → ∀ w, Below W.heap.size W w → Calls Try.prog 22 #[.slice s0 l.length cap0, .agg #[.int .u64 (z.1 : Int), .int .u64 (z.2 : Int)]] w fun e w' => ∃ g, e = .returned (.tuple #[.slice (some ⟨g, 0, none⟩) l.length l.length, .bool true]) ∧ QRow w' (some ⟨g, 0, none⟩) (wchs l z) ∧ Below w.heap.size w w') := fun z hz hi w hw => (solve_yes s0 cap0 l hl (by omega) z hz hi w (h0.below hw)).mono fun e w' ⟨g, e1, e2, _, e3⟩ => ⟨g, e1, e2, e3⟩
  have HS2 : Hid (∀ z, lt2 z → in? l z = true → ∀ w a c, ERow w a l → l.length ≤ c → Calls Try.prog 23 #[.slice a l.length c, .agg #[.int .u64 (z.1 : Int), .int .u64 (z.2 : Int)]] w fun e w' => ∃ a' c', e = .returned (.tuple #[.slice a' l.length c', .bool true]) ∧ QRow w' a' (wchs l z) ∧ Below w.heap.size w w') := fun z hz hi w a c h hc => rsolve_yes a c l hl (by omega) hc z hz hi w h
  have HN1 : Hid (∀ z, lt2 z → in? l z = false → ∀ w, Below W.heap.size W w → Calls Try.prog 22 #[.slice s0 l.length cap0, .agg #[.int .u64 (z.1 : Int), .int .u64 (z.2 : Int)]] w fun e w' => e = .returned (.tuple #[.slice none 0 0, .bool false]) ∧ Below w.heap.size w w') := fun z hz hi w hw => solve_no s0 cap0 l hl (by omega) z hz hi w (h0.below hw)
  have HN2 : Hid (∀ z, lt2 z → in? l z = false → ∀ w a c, ERow w a l → Calls Try.prog 23 #[.slice a l.length c, .agg #[.int .u64 (z.1 : Int), .int .u64 (z.2 : Int)]] w fun e w' => e = .returned (.tuple #[.slice none 0 0, .bool false]) ∧ Below w.heap.size w w') := fun z hz hi w a c h => rsolve_no a c l hl (by omega) z hz hi w h
  have HIy : Hid (in? l (pv l n) = true) := (in?_iff hl hy).2 (pv_sp n)
  have HLT : Hid (lt2 x ∧ lt2 (pv l n)) := ⟨hx, hy⟩
  have HU : Hid (∀ z, lt2 z → in? l z = true → ups l (ofv l z) l.length = z) := fun z hz hi => ups_all hl (by omega) hz hi
  have HWA : Hid (∀ z p, p < l.length → (wchs l z).getD p false = wch l (ofv l z) p) := fun z p hp => wchs_at l z hp
  have HWL : Hid (∀ z, (wchs l z).length = l.length) := wchs_len l
  have HUS : Hid (∀ o i, ups l o (i + 1) = xa (ups l o i) (sl (wch l o i) (el l i))) := fun o i => ups_succ l o i
  have HAD : Hid (∀ o i, Ret 24 #[.agg #[.int .u64 ((ups l o i).1 : Int), .int .u64 ((ups l o i).2 : Int)], .agg #[.int .u64 ((el l i).1 : Int), .int .u64 ((el l i).2 : Int)]] (.agg #[.int .u64 ((xa (ups l o i) (el l i)).1 : Int), .int .u64 ((xa (ups l o i) (el l i)).2 : Int)])) := fun o i w => add_any _ _ _ _ (lt_ups hl o i).1 (lt_ups hl o i).2 (ltE_el hl i).1 (ltE_el hl i).2 w
  have HC := hidT h0
  clear h0 hl c0 hx hy hn
  generalize pv l n = y at *
  generalize hN : l.length = N at *
  have HNL : Hid (l.length = N) := hN
  clear hN
  go_enter Try.func5, Try.ntmps5
  go_upto_region 4 with (go_at_call 20; refine (HP.out _ B0.out).mono ?_; rintro e w1 ⟨rfl, hb1⟩; have K1 : Hid (Below W.heap.size W w1 ∧ El w1 W.heap.size x.1 x.2) := ⟨B0.out.trans (hb1.mono B0.out.size), ⟨keepc hb1 (by simp [go_sem]), keepc hb1 (by simp [go_sem])⟩⟩; clear hb1 HP B0)
  have K : Hid (Sw W (w1.alloc (Obj.cells #[.int .u64 (y.1 : Int), .int .u64 (y.2 : Int)] 25)) w1.heap.size x y) := by
    have B1 : Below w1.heap.size w1 (w1.alloc (Obj.cells #[.int .u64 (y.1 : Int), .int .u64 (y.2 : Int)] 25)) := by go_grown
    exact ⟨K1.out.2.below B1, ⟨by simp [go_sem], by simp [go_sem]⟩, K1.out.1.trans (B1.mono K1.out.1.size)⟩
  clear K1
  generalize w1.alloc (Obj.cells #[.int .u64 (y.1 : Int), .int .u64 (y.2 : Int)] 25) = w2 at *
  generalize w1.heap.size = g7 at *
  have F := K.out.y.hi
  have G := K.out.y.lo
  go_region_held3 (fun w => w.cell? ⟨g7, 0, none⟩ = some (.int .u64 (y.1 : Int)) ∧ w.cell? ⟨g7, 1, none⟩ = some (.int .u64 (y.2 : Int))) (go_keep) (first | (go_at_call 11; refine (HRf.out _ (by first | exact K.out.d | exact K.out.drew.d)).mono ?_; rintro e w' ⟨a9, c9, rfl, hc9, hr9, hb'⟩; have KR := hidT hr9; clear hr9; have K'' := hidT (Sw.below (w' := w') (by first | exact K.out | exact K.out.drew) hb'); clear F G K hb'; have K := K''; clear K''; have F := K.out.y.hi; have G := K.out.y.lo) | (go_at_call 21; refine (HRp.out _ _ _ (by first | exact KR.out | exact KR.out.drew)).mono ?_; rintro e w' ⟨rfl, hb'⟩; have K'' := hidT (Sw.below (w' := w') (by first | exact K.out | exact K.out.drew) hb'); clear F G K hb' KR; have K := K''; clear K''; have F := K.out.y.hi; have G := K.out.y.lo))
  clear F G HRp
  go_wp2_with fail
  go_loopw [8] (fun u wr => ∃ k : Nat, k ≤ 2 ∧ u = .int .i64 k ∧ Hid (Sw W wr g7 x y)) (fun u _ => 2 - (intOf u).toNat)
  case atStart => exact ⟨0, by omega, rfl, by first | exact K | exact hidT K.out.drew⟩
  case round =>
    obtain ⟨k, hk, rfl, HK⟩ := hrel
    clear K
    by_cases hlt2 : k < 2
    · rcases k with _ | k
      · cases hin : in? l x
        · obtain ⟨x1, x0⟩ := HK.out.x
          obtain ⟨y1, y0⟩ := HK.out.y
          go_upto_region 10 with fail
          have K3 : Hid (Sw W ((wr.alloc (Obj.cells #[.int .u64 (x.1 : Int), .int .u64 (x.2 : Int), .int .u64 (y.1 : Int), .int .u64 (y.2 : Int)] 25)).alloc (Obj.cells #[.int .u64 (x.1 : Int), .int .u64 (x.2 : Int)] 25)) g7 x y ∧ El ((wr.alloc (Obj.cells #[.int .u64 (x.1 : Int), .int .u64 (x.2 : Int), .int .u64 (y.1 : Int), .int .u64 (y.2 : Int)] 25)).alloc (Obj.cells #[.int .u64 (x.1 : Int), .int .u64 (x.2 : Int)] 25)) (wr.heap.size + 1) x.1 x.2) := ⟨HK.out.below (((Below.refl _ _).alloc (Nat.le_refl _) _).alloc (by simp) _), ⟨by simp [go_sem], by simp [go_sem]⟩⟩
          clear HK x1 x0 y1 y0
          generalize (wr.alloc (Obj.cells #[.int .u64 (x.1 : Int), .int .u64 (x.2 : Int), .int .u64 (y.1 : Int), .int .u64 (y.2 : Int)] 25)).alloc (Obj.cells #[.int .u64 (x.1 : Int), .int .u64 (x.2 : Int)] 25) = w3 at *
          generalize wr.heap.size + 1 = g9 at *
          obtain ⟨z1, z0⟩ := K3.out.2
          have HZ : Hid (lt2 x ∧ in? l x = false) := ⟨HLT.out.1, hin⟩
          have H1 := hidT (HN1.out x HZ.out.1 HZ.out.2)
          have H2 := hidT (HN2.out x HZ.out.1 HZ.out.2)
          clear HS1 HS2 HN1 HN2 HU HWA HWL HIy HLT HUS HAD HC
          go_upto_region 11 with (go_at_call 22; refine (H1.out _ K3.out.1.d).mono ?_; rintro e w4 ⟨rfl, hb4⟩; have K : Hid (Sx W w4 g7 x y g9 x none []) := ⟨K3.out.1.below hb4, K3.out.2.below hb4, qrow_nil _⟩; clear hb4 K3 z1 z0 H1)
          have F := K.out.z.hi
          have G := K.out.z.lo
          go_region_held3 (fun w => w.cell? ⟨g9, 0, none⟩ = some (.int .u64 (x.1 : Int)) ∧ w.cell? ⟨g9, 1, none⟩ = some (.int .u64 (x.2 : Int))) (go_keep) (first | (go_at_call 11; refine (HRf.out _ (by first | exact K.out.k.d | exact K.out.drew.k.d)).mono ?_; rintro e w' ⟨a9, c9, rfl, hc9, hr9, hb'⟩; have KR := hidT (And.intro hr9 hc9); clear hr9 hc9; have K'' := hidT (Sx.below (w' := w') (by first | exact K.out | exact K.out.drew) hb'); clear F G K hb'; have K := K''; clear K''; have F := K.out.z.hi; have G := K.out.z.lo) | (go_at_call 23; refine (H2.out _ _ _ (by first | exact KR.out.1 | exact KR.out.1.drew)).mono ?_; rintro e w' ⟨rfl, hb'⟩; have K'' := hidT (Sx.below (w' := w') (by first | exact K.out | exact K.out.drew) hb'); clear F G K hb' KR; have K := K''; clear K''; have F := K.out.z.hi; have G := K.out.z.lo))
          clear F G H2 HRf
          go_wp2_with fail
          go_loopw [15] (fun u wr => u = .int .i64 0 ∧ Below w'.heap.size w' wr) (fun _ _ => 0)
          case atStart => exact ⟨rfl, by go_grown⟩
          case round =>
            obtain ⟨rfl, hbr⟩ := hrel
            have KE := hidT (K.out.k.below hbr)
            clear K hbr
            go_wp2_with fail
            exact ⟨⟨1, by omega, by rfl, KE⟩, by simp [intOf]⟩
        · obtain ⟨x1, x0⟩ := HK.out.x
          obtain ⟨y1, y0⟩ := HK.out.y
          go_upto_region 10 with fail
          have K3 : Hid (Sw W ((wr.alloc (Obj.cells #[.int .u64 (x.1 : Int), .int .u64 (x.2 : Int), .int .u64 (y.1 : Int), .int .u64 (y.2 : Int)] 25)).alloc (Obj.cells #[.int .u64 (x.1 : Int), .int .u64 (x.2 : Int)] 25)) g7 x y ∧ El ((wr.alloc (Obj.cells #[.int .u64 (x.1 : Int), .int .u64 (x.2 : Int), .int .u64 (y.1 : Int), .int .u64 (y.2 : Int)] 25)).alloc (Obj.cells #[.int .u64 (x.1 : Int), .int .u64 (x.2 : Int)] 25)) (wr.heap.size + 1) x.1 x.2) := ⟨HK.out.below (((Below.refl _ _).alloc (Nat.le_refl _) _).alloc (by simp) _), ⟨by simp [go_sem], by simp [go_sem]⟩⟩
          clear HK x1 x0 y1 y0
          generalize (wr.alloc (Obj.cells #[.int .u64 (x.1 : Int), .int .u64 (x.2 : Int), .int .u64 (y.1 : Int), .int .u64 (y.2 : Int)] 25)).alloc (Obj.cells #[.int .u64 (x.1 : Int), .int .u64 (x.2 : Int)] 25) = w3 at *
          generalize wr.heap.size + 1 = g9 at *
          obtain ⟨z1, z0⟩ := K3.out.2
          have HZ : Hid (lt2 x ∧ in? l x = true) := ⟨HLT.out.1, hin⟩
          have H1 := hidT (HS1.out x HZ.out.1 HZ.out.2)
          have H2 := hidT (HS2.out x HZ.out.1 HZ.out.2)
          have HU1 := hidT (HU.out x HZ.out.1 HZ.out.2)
          have HW1 := hidT (HWA.out x)
          have HL1 := hidT (HWL.out x)
          clear HS1 HS2 HN1 HN2 HU HWA HWL HIy HLT
          generalize wchs l x = ws at *
          generalize ofv l x = o at *
          go_upto_region 11 with (go_at_call 22; refine (H1.out _ K3.out.1.d).mono ?_; rintro e w4 ⟨g10, rfl, q10, hb4⟩; have K : Hid (Sx W w4 g7 x y g9 x (some ⟨g10, 0, none⟩) ws) := ⟨K3.out.1.below hb4, K3.out.2.below hb4, q10⟩; clear q10 hb4 K3 z1 z0 H1)
          have F := K.out.z.hi
          have G := K.out.z.lo
          go_region_held3 (fun w => w.cell? ⟨g9, 0, none⟩ = some (.int .u64 (x.1 : Int)) ∧ w.cell? ⟨g9, 1, none⟩ = some (.int .u64 (x.2 : Int))) (go_keep) (first | (go_at_call 11; refine (HRf.out _ (by first | exact K.out.k.d | exact K.out.drew.k.d)).mono ?_; rintro e w' ⟨a9, c9, rfl, hc9, hr9, hb'⟩; have KR := hidT (And.intro hr9 hc9); clear hr9 hc9; have K'' := hidT (Sx.below (w' := w') (by first | exact K.out | exact K.out.drew) hb'); clear F G K hb'; have K := K''; clear K''; have F := K.out.z.hi; have G := K.out.z.lo) | (go_at_call 23; refine (H2.out _ _ _ (by first | exact KR.out.1 | exact KR.out.1.drew) KR.out.2).mono ?_; rintro e w' ⟨a12, c12, rfl, hq12, hb'⟩; have KQ := hidT hq12; have K'' := hidT (Sx.below (w' := w') (by first | exact K.out | exact K.out.drew) hb'); clear F G K hb' KR hq12; have K := K''; clear K''; have F := K.out.z.hi; have G := K.out.z.lo))
          clear F G H2 HRf
          go_wp2_with fail
          have HS0 := hidT (Sy.start w' 25)
          go_loopw [15] (fun u wr => ∃ i : Nat, i ≤ N ∧ u = .int .i64 i ∧ Hid (Sy w' wr (ups l o i))) (fun u _ => N - (intOf u).toNat)
          case atStart => exact ⟨0, Nat.zero_le _, rfl, HS0⟩
          case round =>
            obtain ⟨i, hi, rfl, HS⟩ := hrel
            clear HS0
            by_cases hlt : i < N
            · obtain ⟨b10, o10, e10, _, d10⟩ := K.out.q.cells i (by rw [HL1.out]; exact hlt)
              injection e10 with e10; injection e10 with e10 e10'; subst e10 e10'
              obtain ⟨b12, o12, rfl, _, d12⟩ := KQ.out.cells i (by rw [HL1.out]; exact hlt)
              obtain ⟨bl, ol, rfl, _, f1, f0⟩ := (HC.out.below K.out.k.d).cells i (by rw [HNL.out]; exact hlt)
              rw [HW1.out i hlt] at d10 d12
              have q10 := keepc HS.out.d d10
              have q12 := keepc HS.out.d d12
              have HAc : Hid (w'.cell? ⟨bl, ol + i * 2, none⟩ = some (.int .u64 ((el l i).1 : Int)) ∧ w'.cell? ⟨bl, ol + i * 2 + 1, none⟩ = some (.int .u64 ((el l i).2 : Int))) := ⟨f1, f0⟩
              have H5 := hidT (HUS.out o i)
              have H6 := hidT (HAD.out o i)
              have i1 : (i : Int) < (N : Int) := by omega
              have i0 : (0 : Int) ≤ (i : Int) := by omega
              rw [Nat.zero_add] at q10
              clear f1 f0 d10 d12 HUS HAD HW1 KQ K HC HU1
              generalize hu : ups l o (i + 1) = t at *
              have HUT := hidT hu
              clear hu
              generalize hsu : xa (ups l o i) (el l i) = su at *
              have HSU := hidT hsu
              clear hsu
              generalize ups l o i = s at *
              generalize el l i = q at *
              generalize wch l o i = b at *
              go_upto_region 18 with fail
              go_region_held3 (fun w => w.cell? ⟨g10, i, none⟩ = some (.bool b) ∧ w.cell? ⟨b12, o12 + i, none⟩ = some (.bool b)) (go_keep) (fail)
              have KS := hidT HS.out.drew
              have q10 := keepc (Below.refl _ _).drew q10
              clear HS q12
              cases b
              · have HT : Hid (t = s) := by show _ = _; rw [H5.out]; exact xa_zero _
                go_wp2_with fail
                exact ⟨⟨i + 1, hlt, by simp, by rw [HUT.out, HT.out]; exact KS⟩, by simp [intOf]; omega⟩
              · have HT : Hid (t = su) := by show _ = _; rw [H5.out, ← HSU.out]; rfl
                clear H5
                go_upto_region 21 with fail
                have K : Sy w' wr.drew s := KS.out
                clear KS
                obtain ⟨y1, y0, s1, s0, t1, t0⟩ := K.facts HAc.out
                go_region_with (go_at_call 24; refine (H6.out.go _).mono ?_; rintro e w6 ⟨rfl, hb'⟩; have K'' := Sy.below (w' := w6) (by first | exact K | exact K.drew) hb'; clear y1 y0 s1 s0 t1 t0 K hb'; have K := K''; clear K''; obtain ⟨y1, y0, s1, s0, t1, t0⟩ := K.facts HAc.out)
                all_goals
                  go_wp2
                  exact ⟨⟨i + 1, hlt, by simp, by rw [HUT.out, HT.out]; exact K.put _⟩, by simp [intOf]; omega⟩
            · obtain rfl : i = N := by omega
              have HS' : Hid (Sy w' wr x) := by
                have h := HS.out
                rw [HU1.out] at h
                exact h
              have a1 := HS'.out.s.hi
              have a0 := HS'.out.s.lo
              have z1 := keepc HS'.out.d K.out.z.hi
              have z0 := keepc HS'.out.d K.out.z.lo
              have KE := hidT (K.out.k.below HS'.out.d)
              clear HS HS' K KQ HW1 HL1 HUS HAD HC HU1
              go_wp2_with fail
              exact ⟨⟨0 + 1, by omega, by rfl, KE⟩, by simp [intOf]⟩
      · obtain rfl : k = 0 := by omega
        obtain ⟨x1, x0⟩ := HK.out.x
        obtain ⟨y1, y0⟩ := HK.out.y
        go_upto_region 10 with fail
        have K3 : Hid (Sw W ((wr.alloc (Obj.cells #[.int .u64 (x.1 : Int), .int .u64 (x.2 : Int), .int .u64 (y.1 : Int), .int .u64 (y.2 : Int)] 25)).alloc (Obj.cells #[.int .u64 (y.1 : Int), .int .u64 (y.2 : Int)] 25)) g7 x y ∧ El ((wr.alloc (Obj.cells #[.int .u64 (x.1 : Int), .int .u64 (x.2 : Int), .int .u64 (y.1 : Int), .int .u64 (y.2 : Int)] 25)).alloc (Obj.cells #[.int .u64 (y.1 : Int), .int .u64 (y.2 : Int)] 25)) (wr.heap.size + 1) y.1 y.2) := ⟨HK.out.below (((Below.refl _ _).alloc (Nat.le_refl _) _).alloc (by simp) _), ⟨by simp [go_sem], by simp [go_sem]⟩⟩
        clear HK x1 x0 y1 y0
        generalize (wr.alloc (Obj.cells #[.int .u64 (x.1 : Int), .int .u64 (x.2 : Int), .int .u64 (y.1 : Int), .int .u64 (y.2 : Int)] 25)).alloc (Obj.cells #[.int .u64 (y.1 : Int), .int .u64 (y.2 : Int)] 25) = w3 at *
        generalize wr.heap.size + 1 = g9 at *
        obtain ⟨z1, z0⟩ := K3.out.2
        have HZ : Hid (lt2 y ∧ in? l y = true) := ⟨HLT.out.2, HIy.out⟩
        have H1 := hidT (HS1.out y HZ.out.1 HZ.out.2)
        have H2 := hidT (HS2.out y HZ.out.1 HZ.out.2)
        have HU1 := hidT (HU.out y HZ.out.1 HZ.out.2)
        have HW1 := hidT (HWA.out y)
        have HL1 := hidT (HWL.out y)
        clear HS1 HS2 HN1 HN2 HU HWA HWL HIy HLT
        generalize wchs l y = ws at *
        generalize ofv l y = o at *
        go_upto_region 11 with (go_at_call 22; refine (H1.out _ K3.out.1.d).mono ?_; rintro e w4 ⟨g10, rfl, q10, hb4⟩; have K : Hid (Sx W w4 g7 x y g9 y (some ⟨g10, 0, none⟩) ws) := ⟨K3.out.1.below hb4, K3.out.2.below hb4, q10⟩; clear q10 hb4 K3 z1 z0 H1)
        have F := K.out.z.hi
        have G := K.out.z.lo
        go_region_held3 (fun w => w.cell? ⟨g9, 0, none⟩ = some (.int .u64 (y.1 : Int)) ∧ w.cell? ⟨g9, 1, none⟩ = some (.int .u64 (y.2 : Int))) (go_keep) (first | (go_at_call 11; refine (HRf.out _ (by first | exact K.out.k.d | exact K.out.drew.k.d)).mono ?_; rintro e w' ⟨a9, c9, rfl, hc9, hr9, hb'⟩; have KR := hidT (And.intro hr9 hc9); clear hr9 hc9; have K'' := hidT (Sx.below (w' := w') (by first | exact K.out | exact K.out.drew) hb'); clear F G K hb'; have K := K''; clear K''; have F := K.out.z.hi; have G := K.out.z.lo) | (go_at_call 23; refine (H2.out _ _ _ (by first | exact KR.out.1 | exact KR.out.1.drew) KR.out.2).mono ?_; rintro e w' ⟨a12, c12, rfl, hq12, hb'⟩; have KQ := hidT hq12; have K'' := hidT (Sx.below (w' := w') (by first | exact K.out | exact K.out.drew) hb'); clear F G K hb' KR hq12; have K := K''; clear K''; have F := K.out.z.hi; have G := K.out.z.lo))
        clear F G H2 HRf
        go_wp2_with fail
        have HS0 := hidT (Sy.start w' 25)
        go_loopw [15] (fun u wr => ∃ i : Nat, i ≤ N ∧ u = .int .i64 i ∧ Hid (Sy w' wr (ups l o i))) (fun u _ => N - (intOf u).toNat)
        case atStart => exact ⟨0, Nat.zero_le _, rfl, HS0⟩
        case round =>
          obtain ⟨i, hi, rfl, HS⟩ := hrel
          clear HS0
          by_cases hlt : i < N
          · obtain ⟨b10, o10, e10, _, d10⟩ := K.out.q.cells i (by rw [HL1.out]; exact hlt)
            injection e10 with e10; injection e10 with e10 e10'; subst e10 e10'
            obtain ⟨b12, o12, rfl, _, d12⟩ := KQ.out.cells i (by rw [HL1.out]; exact hlt)
            obtain ⟨bl, ol, rfl, _, f1, f0⟩ := (HC.out.below K.out.k.d).cells i (by rw [HNL.out]; exact hlt)
            rw [HW1.out i hlt] at d10 d12
            have q10 := keepc HS.out.d d10
            have q12 := keepc HS.out.d d12
            have HAc : Hid (w'.cell? ⟨bl, ol + i * 2, none⟩ = some (.int .u64 ((el l i).1 : Int)) ∧ w'.cell? ⟨bl, ol + i * 2 + 1, none⟩ = some (.int .u64 ((el l i).2 : Int))) := ⟨f1, f0⟩
            have H5 := hidT (HUS.out o i)
            have H6 := hidT (HAD.out o i)
            have i1 : (i : Int) < (N : Int) := by omega
            have i0 : (0 : Int) ≤ (i : Int) := by omega
            rw [Nat.zero_add] at q10
            clear f1 f0 d10 d12 HUS HAD HW1 KQ K HC HU1
            generalize hu : ups l o (i + 1) = t at *
            have HUT := hidT hu
            clear hu
            generalize hsu : xa (ups l o i) (el l i) = su at *
            have HSU := hidT hsu
            clear hsu
            generalize ups l o i = s at *
            generalize el l i = q at *
            generalize wch l o i = b at *
            go_upto_region 18 with fail
            go_region_held3 (fun w => w.cell? ⟨g10, i, none⟩ = some (.bool b) ∧ w.cell? ⟨b12, o12 + i, none⟩ = some (.bool b)) (go_keep) (fail)
            have KS := hidT HS.out.drew
            have q10 := keepc (Below.refl _ _).drew q10
            clear HS q12
            cases b
            · have HT : Hid (t = s) := by show _ = _; rw [H5.out]; exact xa_zero _
              go_wp2_with fail
              exact ⟨⟨i + 1, hlt, by simp, by rw [HUT.out, HT.out]; exact KS⟩, by simp [intOf]; omega⟩
            · have HT : Hid (t = su) := by show _ = _; rw [H5.out, ← HSU.out]; rfl
              clear H5
              go_upto_region 21 with fail
              have K : Sy w' wr.drew s := KS.out
              clear KS
              obtain ⟨y1, y0, s1, s0, t1, t0⟩ := K.facts HAc.out
              go_region_with (go_at_call 24; refine (H6.out.go _).mono ?_; rintro e w6 ⟨rfl, hb'⟩; have K'' := Sy.below (w' := w6) (by first | exact K | exact K.drew) hb'; clear y1 y0 s1 s0 t1 t0 K hb'; have K := K''; clear K''; obtain ⟨y1, y0, s1, s0, t1, t0⟩ := K.facts HAc.out)
              all_goals
                go_wp2
                exact ⟨⟨i + 1, hlt, by simp, by rw [HUT.out, HT.out]; exact K.put _⟩, by simp [intOf]; omega⟩
          · obtain rfl : i = N := by omega
            have HS' : Hid (Sy w' wr y) := by
              have h := HS.out
              rw [HU1.out] at h
              exact h
            have a1 := HS'.out.s.hi
            have a0 := HS'.out.s.lo
            have z1 := keepc HS'.out.d K.out.z.hi
            have z0 := keepc HS'.out.d K.out.z.lo
            have KE := hidT (K.out.k.below HS'.out.d)
            clear HS HS' K KQ HW1 HL1 HUS HAD HC HU1
            go_wp2_with fail
            exact ⟨⟨1 + 1, by omega, by rfl, KE⟩, by simp [intOf]⟩
    · obtain rfl : k = 2 := by omega
      have D := hidT HK.out.d
      clear HK HS1 HS2 HN1 HN2 HU HWA HWL HIy HLT HUS HAD HC HRf
      go_wp2_with (go_at_call 9; refine (HA.out.go _).mono ?_; rintro e w4 ⟨rfl, hb4⟩; have D4 := hidT (D.out.trans (hb4.mono D.out.size)); clear hb4)
      go_ret
      exact ⟨rfl, D4.out⟩
end Go.Proofs.Ytkllihomdlibgaa
