/- The contract of antt.Forward of two elements over a space of two dimensions, and the walk of AnttNil, over the seat's translation. -/
import Derived.Test.YtcoocgdldoolaaaDoorCdB
import Derived.Test.YtcoocgdldoolaaaDoorSmA
namespace Go.Proofs.YtcoocgdldoolaaaDoor
open Go.RowKit

/-- What lies there while a list of two is asked about. -/
structure HstD (W w : World) (k B p q : Nat) (x y : Nat × Nat) : Prop where
  d : Below W.heap.size W w
  q1 : w.cell? ⟨q, 0, none⟩ = some (.int .u64 0)
  q0 : w.cell? ⟨q, 1, none⟩ = some (.int .u64 0)
  sp : Sp w k 2 B
  row : ERow w (some ⟨p, 0, none⟩) [x, y]
theorem HstD.below {W w w' : World} {k B p q : Nat} {x y : Nat × Nat} (h : HstD W w k B p q x y) (hb : Below w.heap.size w w') : HstD W w' k B p q x y := ⟨h.d.trans (hb.mono h.d.size), keepc hb h.q1, keepc hb h.q0, h.sp.below hb, h.row.below hb⟩
theorem HstD.drew {W w : World} {k B p q : Nat} {x y : Nat × Nat} (h : HstD W w k B p q x y) : HstD W w.drew k B p q x y := h.below (Below.refl _ _).drew
theorem HstD.facts {W w : World} {k B p q : Nat} {x y : Nat × Nat} (h : HstD W w k B p q x y) : w.cell? ⟨q, 0, none⟩ = some (.int .u64 0) ∧ w.cell? ⟨q, 1, none⟩ = some (.int .u64 0) := ⟨h.q1, h.q0⟩
set_option maxHeartbeats 2000000 in
set_option maxRecDepth 100000 in
theorem hind2D (k B : Nat) (hk : k < 8) (p cap : Nat) (x y : Nat × Nat) (hx : x.2 < 2 ^ 64) (hy : y.2 < 2 ^ 64) (ox : ofB (k : Int) (x.1 : Int) (x.2 : Int) = true) (oy : ofB (k : Int) (y.1 : Int) (y.2 : Int) = true) (W : World) (h : Sp W k 2 B)
    (hr : ERow W (some ⟨p, 0, none⟩) [x, y]) : Calls Tryd.prog 8 #[.pointer (some ⟨B, 0, none⟩), .slice (some ⟨p, 0, none⟩) 2 cap, .agg #[.int .u64 0, .int .u64 0]] W fun e w' => e = .returned (.int .i64 0) ∧ Below W.heap.size W w' := by
  have H1 : Hid (Ret 19 #[.int .u64 2] (.int .i64 1)) := ones2
  have HO : Hid (Ret 21 #[.int .i64 (k : Int), .agg #[.int .u64 0, .int .u64 0]] (.bool true)) := by
    have := of_ret (k : Int) 0 0 (Nat.two_pow_pos 64)
    rw [show ofB (k : Int) ((0 : Nat) : Int) ((0 : Nat) : Int) = true from of_zero k hk] at this
    exact this
  have HX : Hid (∀ j, j < 2 → Ret 21 #[.int .i64 (k : Int), .agg #[.int .u64 (([x, y].getD j (0, 0)).1 : Int), .int .u64 (([x, y].getD j (0, 0)).2 : Int)]] (.bool true)) := fun j hj => by
    match j, hj with
    | 0, _ => have := of_ret (k : Int) x.1 x.2 hx; rw [ox] at this; exact this
    | 1, _ => have := of_ret (k : Int) y.1 y.2 hy; rw [oy] at this; exact this
  have HL : Hid (∀ w, Sp w k 2 B → Calls Tryd.prog 16 #[.pointer (some ⟨B, 0, none⟩)] w fun e w' => e = .returned (.int .i64 (k : Int)) ∧ Below w.heap.size w w') := fun w h => splevel k 2 B w h
  have HS : Hid (Sp W k 2 B) := h
  have HR : Hid (ERow W (some ⟨p, 0, none⟩) [x, y]) := hr
  clear h hr
  go_enter Tryd.func8, Tryd.ntmps8
  go_wp2_with (first | (go_at_call 19; refine (H1.out.go _).mono ?_; rintro e w1 ⟨rfl, hb1⟩; have D1 : Below W.heap.size W w1 := ((Below.refl _ _).alloc (Nat.le_refl _) _).trans (hb1.mono (by simp)); have K1 : Hid (HstD W w1 k B p W.heap.size x y) := ⟨D1, keepc hb1 (by simp [go_sem]), keepc hb1 (by simp [go_sem]), HS.out.below D1, HR.out.below D1⟩; obtain ⟨a1, cc1, cc⟩ := K1.out.sp.c1; clear hb1 D1) | (go_at_call 20; refine (dim_any B 2 cc1 a1 _ cc).mono ?_; rintro e w2 ⟨rfl, hb2⟩; have K2 : Hid (HstD W w2 k B p W.heap.size x y) := K1.out.below hb2))
  have K := K2.out
  have F := K.facts
  clear K1 K2 hb2 cc HS HR
  generalize W.heap.size = q at *
  go_region_held3 (fun w => w.cell? ⟨q, 0, none⟩ = some (.int .u64 0) ∧ w.cell? ⟨q, 1, none⟩ = some (.int .u64 0)) (go_keep) (first | (go_at_call 16; refine (HL.out _ (by first | exact K.sp | exact K.drew.sp)).mono ?_; rintro e w' ⟨rfl, hb'⟩; have K' := HstD.below (w' := w') (by first | exact K | exact K.drew) hb'; clear F K hb'; have K := K'; clear K'; have F := K.facts) | (go_at_call 21; refine (HO.out.go _).mono ?_; rintro e w' ⟨rfl, hb'⟩; have K' := HstD.below (w' := w') (by first | exact K | exact K.drew) hb'; clear F K hb'; have K := K'; clear K'; have F := K.facts))
  have KK : Hid (HstD W w' k B p q x y) := K
  clear F K
  go_wp2_with fail
  go_loopw [34] (fun u wr => ∃ j : Nat, j ≤ 2 ∧ u = .int .i64 j ∧ HstD W wr k B p q x y) (fun u _ => 2 - (intOf u).toNat)
  case atStart => exact ⟨0, Nat.zero_le _, rfl, KK.out⟩
  case round =>
    obtain ⟨j, hj, rfl, hK⟩ := hrel
    have KK : Hid (HstD W wr k B p q x y) := hK
    clear hK
    by_cases hlt : j < 2
    · obtain ⟨p', o', e, _, d1, d0⟩ := KK.out.row.cells j hlt
      simp only [Option.some.injEq, Addr.mk.injEq] at e
      obtain ⟨rfl, rfl, _⟩ := e
      rw [Nat.zero_add] at d1 d0
      have HZ := HX.out j hlt
      generalize [x, y].getD j (0, 0) = z at HZ d1 d0
      go_wp2_with fail
      have D0 : Below wr.heap.size wr (wr.alloc (Obj.cells #[.int .u64 (z.1 : Int), .int .u64 (z.2 : Int)] 25)) := (Below.refl _ _).alloc (Nat.le_refl _) _
      have K := KK.out.below D0
      have E : El (wr.alloc (Obj.cells #[.int .u64 (z.1 : Int), .int .u64 (z.2 : Int)] 25)) wr.heap.size z.1 z.2 := ⟨by simp [go_sem], by simp [go_sem]⟩
      clear D0 KK d1 d0
      generalize wr.alloc (Obj.cells #[.int .u64 (z.1 : Int), .int .u64 (z.2 : Int)] 25) = w5 at *
      generalize wr.heap.size = b at *
      have F := And.intro E.hi E.lo
      go_region_held3 (fun w => w.cell? ⟨b, 0, none⟩ = some (.int .u64 (z.1 : Int)) ∧ w.cell? ⟨b, 1, none⟩ = some (.int .u64 (z.2 : Int))) (go_keep) (first | (go_at_call 16; refine (HL.out _ (by first | exact K.sp | exact K.drew.sp)).mono ?_; rintro e w' ⟨rfl, hb'⟩; have K' := HstD.below (w' := w') (by first | exact K | exact K.drew) hb'; have E' : El w' b z.1 z.2 := ⟨keepc hb' E.hi, keepc hb' E.lo⟩; clear F K E hb'; have K := K'; have E := E'; clear K' E'; have F := And.intro E.hi E.lo) | (go_at_call 21; refine (HZ.go _).mono ?_; rintro e w' ⟨rfl, hb'⟩; have K' := HstD.below (w' := w') (by first | exact K | exact K.drew) hb'; have E' : El w' b z.1 z.2 := ⟨keepc hb' E.hi, keepc hb' E.lo⟩; clear F K E hb'; have K := K'; have E := E'; clear K' E'; have F := And.intro E.hi E.lo))
      go_wp2
      exact ⟨⟨j + 1, hlt, by simp, K⟩, by simp [intOf]; omega⟩
    · obtain rfl : j = 2 := by omega
      go_wp2
      go_ret
      exact ⟨rfl, KK.out.d⟩

/-- What lies there while values are reckoned. -/
structure FstD (W w : World) (k B p0 : Nat) (x y : Nat × Nat) : Prop where
  d : Below W.heap.size W w
  cs : w.cell? ⟨W.heap.size, 0, none⟩ = some (.pointer (some ⟨B, 0, none⟩))
  f1 : w.cell? ⟨W.heap.size + 1, 0, none⟩ = some (.int .u64 0)
  f0 : w.cell? ⟨W.heap.size + 1, 1, none⟩ = some (.int .u64 0)
  sp : Sp w k 2 B
  row : ERow w (some ⟨p0, 0, none⟩) [x, y]
  tab : Tab w
theorem FstD.below {W w w' : World} {k B p0 : Nat} {x y : Nat × Nat} (h : FstD W w k B p0 x y) (hb : Below w.heap.size w w') : FstD W w' k B p0 x y := ⟨h.d.trans (hb.mono h.d.size), keepc hb h.cs, keepc hb h.f1, keepc hb h.f0, h.sp.below hb, h.row.below hb, h.tab.below hb⟩
set_option maxHeartbeats 4000000 in
set_option maxRecDepth 100000 in
theorem forward2D (k B : Nat) (hk : k < 8) (p0 cap : Nat) (x y : Nat × Nat) (hx : x.1 < 2 ^ 64 ∧ x.2 < 2 ^ 64) (hy : y.1 < 2 ^ 64 ∧ y.2 < 2 ^ 64) (ox : ofB (k : Int) (x.1 : Int) (x.2 : Int) = true) (oy : ofB (k : Int) (y.1 : Int) (y.2 : Int) = true) (W : World) (hT : Tab W) (h : Sp W k 2 B)
    (hr : ERow W (some ⟨p0, 0, none⟩) [x, y]) : Calls Tryd.prog 4 #[.pointer (some ⟨B, 0, none⟩), .slice (some ⟨p0, 0, none⟩) 2 cap, .agg #[.int .u64 0, .int .u64 0]] W fun e w' => ∃ p c, e = .returned (.tuple #[.slice (some ⟨p, 0, none⟩) 2 c, .int .i64 0]) ∧ ERow w' (some ⟨p, 0, none⟩) [x, (y.1 ^^^ x.1, y.2 ^^^ x.2)] ∧ Below W.heap.size W w' := by
  have HS : Hid (Sp W k 2 B) := h
  have HR : Hid (ERow W (some ⟨p0, 0, none⟩) [x, y]) := hr
  have HT : Hid (Tab W) := hT
  have hmf : ∀ (fn : Fn) (first cap : Array Value) (w : World), (Instr.makeFunc fn first cap).run Tryd.prog w = .ok (.func fn first cap) w := fun _ _ _ _ => rfl
  clear h hr hT
  go_enter Tryd.func4, Tryd.ntmps4
  go_wp2_with fail
  have D0 : Below W.heap.size W ((W.alloc (Obj.cells #[.pointer (some ⟨B, 0, none⟩)] 32)).alloc (Obj.cells #[.int .u64 0, .int .u64 0] 25)) := ((Below.refl _ _).alloc (Nat.le_refl _) _).alloc (by simp) _
  have K0 : Hid (FstD W ((W.alloc (Obj.cells #[.pointer (some ⟨B, 0, none⟩)] 32)).alloc (Obj.cells #[.int .u64 0, .int .u64 0] 25)) k B p0 x y) := ⟨D0, by simp [go_sem], by simp [go_sem], by simp [go_sem], HS.out.below D0, HR.out.below D0, HT.out.below D0⟩
  refine (hind2D k B hk p0 cap x y hx.2 hy.2 ox oy _ K0.out.sp K0.out.row).mono ?_
  rintro e w1 ⟨rfl, hb1⟩
  have K1 : Hid (FstD W w1 k B p0 x y) := K0.out.below hb1
  clear hb1 K0 D0 HR HT
  go_wp2_with fail
  refine (clone_own p0 0 cap [x, y] (by simp) w1 K1.out.row).mono ?_
  rintro e w2 ⟨v, rfl, hO, hb2⟩
  have K2 : Hid (FstD W w2 k B p0 x y) := K1.out.below hb2
  obtain ⟨p, c, rfl, hp1, hp2, v0, v1, v2, v3, vz⟩ := own_two hO
  have HV : Hid (W.heap.size ≤ w1.heap.size ∧ w1.heap.size ≤ p ∧ p < w2.heap.size ∧ w2.cell? ⟨p, 0, none⟩ = some (.int .u64 (x.1 : Nat)) ∧ w2.cell? ⟨p, 1, none⟩ = some (.int .u64 (x.2 : Nat)) ∧ w2.cell? ⟨p, 2, none⟩ = some (.int .u64 (y.1 : Nat)) ∧ w2.cell? ⟨p, 3, none⟩ = some (.int .u64 (y.2 : Nat)) ∧ ∀ i, w2.frozen? ⟨p, i, none⟩ = false) := ⟨K1.out.d.size, hp1, hp2, v0, v1, v2, v3, vz⟩
  have hbig : W.heap.size + 1 < w1.heap.size := cell_lt K1.out.f1
  clear hO hb2 hp1 hp2 v0 v1 v2 v3 vz
  go_wp2_with fail
  refine (log2_any w2 K2.out.tab).mono ?_
  rintro e w3 ⟨rfl, hb3⟩
  have K3 : Hid (FstD W w3 k B p0 x y) := K2.out.below hb3
  have HV3 : Hid (W.heap.size + 1 < p ∧ p < w3.heap.size ∧ w3.cell? ⟨p, 0, none⟩ = some (.int .u64 (x.1 : Nat)) ∧ w3.cell? ⟨p, 1, none⟩ = some (.int .u64 (x.2 : Nat)) ∧ w3.cell? ⟨p, 2, none⟩ = some (.int .u64 (y.1 : Nat)) ∧ w3.cell? ⟨p, 3, none⟩ = some (.int .u64 (y.2 : Nat)) ∧ ∀ i, i < 4 → w3.frozen? ⟨p, i, none⟩ = false) := by
    obtain ⟨h1, h2, h3, h4, h5, h6, h7, h8⟩ := HV.out
    refine ⟨by omega, Nat.lt_of_lt_of_le h3 hb3.size, keepc hb3 h4, keepc hb3 h5, keepc hb3 h6, keepc hb3 h7, fun i hi => ?_⟩
    rw [hb3.frozen (p := ⟨p, i, none⟩) h3]; exact h8 i
  have cs := K3.out.cs
  have f1 := K3.out.f1
  have f0 := K3.out.f0
  clear hb3 HV K1 K2
  go_wp2_with fail
  refine wp_loop_rounds 2 ?_
  rw [rounds_succ]
  go_wp2_with fail
  refine (factors1 k 2 B hk (by decide) (by decide) w3 K3.out.sp).mono ?_
  rintro e w4 ⟨g, rfl, hg, ⟨g1, g0⟩, hb4⟩
  obtain ⟨h1, h2, h3, h4, h5, h6, h7⟩ := HV3.out
  have hgp : g ≠ p := by omega
  have hgl : g < w4.heap.size := cell_lt g1
  have D4 : Below W.heap.size W w4 := K3.out.d.trans (hb4.mono K3.out.d.size)
  have hpW : W.heap.size ≤ p := by omega
  have HT : Hid (∀ w, Below w4.heap.size w4 w → Calls Tryd.prog 13 #[.pointer (some ⟨p, 0, none⟩), .pointer (some ⟨p, 2, none⟩), .agg #[.int .u64 0, .int .u64 0], .pointer (some ⟨W.heap.size, 0, none⟩)] w fun e w' => e = .returned (.tuple #[]) ∧ (w'.cell? ⟨p, 0, none⟩ = some (.int .u64 (x.1 : Nat)) ∧ w'.cell? ⟨p, 1, none⟩ = some (.int .u64 (x.2 : Nat)) ∧ w'.cell? ⟨p, 2, none⟩ = some (.int .u64 ((y.1 ^^^ x.1 : Nat) : Int)) ∧ w'.cell? ⟨p, 3, none⟩ = some (.int .u64 ((y.2 ^^^ x.2 : Nat) : Int))) ∧ Below p w w' ∧ ∀ k, k < w.heap.size → k ≠ p → w'.heap[k]? = w.heap[k]?) := fun w hb => by
    have hb34 : Below w3.heap.size w3 w := hb4.trans (hb.mono hb4.size)
    refine turn2 p W.heap.size B (k : Int) x y (y.1 ^^^ x.1, y.2 ^^^ x.2) w (by omega) (Nat.lt_of_lt_of_le h2 hb34.size) (keepc hb34 K3.out.cs) (keepc hb34 h3) (keepc hb34 h4) (keepc hb34 h5) (keepc hb34 h6) (fun i hi => by rw [hb34.frozen (p := ⟨p, i, none⟩) h2]; exact h7 i hi) (fun w' hb' => ?_) ?_ ?_ ?_
    · exact splevel k 2 B w' (HS.out.below ((D4.trans (hb.mono D4.size)).trans (hb'.mono hpW)))
    · have := mul_any (k : Int) y (0, 0) hy.1 hy.2 (Nat.two_pow_pos 64) (Nat.two_pow_pos 64)
      rw [mulv_zero2] at this
      exact this
    · have := add_any x.1 x.2 0 0 hx.1 hx.2 (Nat.two_pow_pos 64) (Nat.two_pow_pos 64)
      rw [Nat.xor_zero, Nat.xor_zero] at this
      exact this
    · exact add_any y.1 y.2 x.1 x.2 hy.1 hy.2 hx.1 hx.2
  clear h3 h4 h5 h6 h7 cs f1 f0 K3 HV3 hb4
  go_wp2_with fail
  refine (eachp2 p W.heap.size g c w4 hgl hgp g1 g0 (fun w' => w'.cell? ⟨p, 0, none⟩ = some (.int .u64 (x.1 : Nat)) ∧ w'.cell? ⟨p, 1, none⟩ = some (.int .u64 (x.2 : Nat)) ∧ w'.cell? ⟨p, 2, none⟩ = some (.int .u64 ((y.1 ^^^ x.1 : Nat) : Int)) ∧ w'.cell? ⟨p, 3, none⟩ = some (.int .u64 ((y.2 ^^^ x.2 : Nat) : Int))) HT).mono ?_
  rintro e w5 ⟨rfl, ⟨q0, q1, q2, q3⟩, hb5⟩
  have D5 : Hid (Below W.heap.size W w5) := D4.trans (hb5.mono hpW)
  have HE : Hid (ERow w5 (some ⟨p, 0, none⟩) [x, (y.1 ^^^ x.1, y.2 ^^^ x.2)]) := ⟨fun i hi => by
    match i, hi with
    | 0, _ => exact ⟨p, 0, rfl, cell_lt q0, q0, q1⟩
    | 1, _ => exact ⟨p, 0, rfl, cell_lt q0, q2, q3⟩⟩
  clear q0 q1 q2 q3 hb5 HT
  go_wp2_with fail
  rw [rounds_succ]
  go_wp2
  refine bodyPost_ret (v := .tuple #[.slice (some ⟨p, 0, none⟩) 2 c, .int .i64 0]) (by simp [results, Tryd.results4, go_sem]) rfl ?_
  exact ⟨p, c, rfl, HE.out, D5.out⟩
set_option maxHeartbeats 2000000 in
set_option maxRecDepth 100000 in
theorem awake7 (W : World) (hT : Tab W) : Calls Tryd.prog 6 #[] W fun e w' => e = .returned (.bool true) ∧ Below W.heap.size W w' := by
  have HT : Hid (Tab W) := hT
  have HP : Hid (∀ w, Calls Tryd.prog 18 #[.int .i64 2, .int .i64 2] w fun e w' => ∃ p : Nat, e = .returned (.tuple #[.pointer (some ⟨p, 0, none⟩), .int .i64 0]) ∧ Sp w' 2 2 p ∧ w.heap.size ≤ p ∧ Below w.heap.size w w') := fun w => plain_full 2 2 (by decide) (by decide) (by decide) w
  have HF : Hid (∀ w B b, Tab w → Sp w 2 2 B → ERow w (some ⟨b, 0, none⟩) [(0, 7), (0, 5)] → Calls Tryd.prog 4 #[.pointer (some ⟨B, 0, none⟩), .slice (some ⟨b, 0, none⟩) 2 2, .agg #[.int .u64 0, .int .u64 0]] w fun e w' => ∃ p c, e = .returned (.tuple #[.slice (some ⟨p, 0, none⟩) 2 c, .int .i64 0]) ∧ ERow w' (some ⟨p, 0, none⟩) [(0, 7), (0, 2)] ∧ Below w.heap.size w w') := fun w B b t s r =>
    forward2D 2 B (by decide) b 2 (0, 7) (0, 5) (by decide) (by decide) (by decide) (by decide) w t s r
  clear hT
  go_enter Tryd.func6, Tryd.ntmps6
  go_wp2_with fail
  refine (HP.out _).mono ?_
  rintro e w1 ⟨B, rfl, hS, _, hb1⟩
  have K1 : Hid (Sp w1 2 2 B ∧ Below W.heap.size W w1) := ⟨hS, hb1⟩
  clear hS hb1
  go_wp2_with fail
  have A2 : Below w1.heap.size w1 (w1.alloc (Obj.cells #[.int .u64 0, .int .u64 7, .int .u64 0, .int .u64 5] 25)) := (Below.refl _ _).alloc (Nat.le_refl _) _
  refine (HF.out _ B w1.heap.size (HT.out.below (K1.out.2.trans (A2.mono K1.out.2.size))) (K1.out.1.below A2) ⟨fun i hi => ?_⟩).mono ?_
  · match i, hi with
    | 0, _ => exact ⟨_, _, rfl, by simp, by simp [go_sem], by simp [go_sem]⟩
    | 1, _ => exact ⟨_, _, rfl, by simp, by simp [go_sem], by simp [go_sem]⟩
  rintro e w2 ⟨p, c, rfl, hE, hb2⟩
  have D2 : Hid (Below W.heap.size W w2) := (K1.out.2.trans (A2.mono K1.out.2.size)).trans (hb2.mono (by have := K1.out.2.size; simp; omega))
  obtain ⟨p', o', e, _, a1, a0⟩ := hE.cells 0 (by decide)
  simp only [Option.some.injEq, Addr.mk.injEq] at e
  obtain ⟨rfl, rfl, _⟩ := e
  obtain ⟨p', o', e, _, b1, b0⟩ := hE.cells 1 (by decide)
  simp only [Option.some.injEq, Addr.mk.injEq] at e
  obtain ⟨rfl, rfl, _⟩ := e
  replace a1 : w2.cell? ⟨p, 0, none⟩ = some (.int .u64 0) := a1
  replace a0 : w2.cell? ⟨p, 1, none⟩ = some (.int .u64 7) := a0
  replace b1 : w2.cell? ⟨p, 2, none⟩ = some (.int .u64 0) := b1
  replace b0 : w2.cell? ⟨p, 3, none⟩ = some (.int .u64 2) := b0
  clear hE hb2 A2 K1 HP HF HT
  go_wp2
  go_ret
  exact ⟨rfl, D2.out⟩
end Go.Proofs.YtcoocgdldoolaaaDoor
