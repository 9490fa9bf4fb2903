/- TurnSigns: the walk of the law over the seat's translation. -/
import Derived.Test.YthfebbmmhjkglaaTuL
import Derived.Test.YthfebbmmhjkglaaTuT
import Derived.Test.YthfebbmmhjkglaaSmA
namespace Go.Proofs.Ythfebbmmhjkglaa
open Go.RowKit
open Cb
open Tw (pm)

/-- A turn in its box, and what lay there. -/
structure Tc (W w : World) (k v s : Int) : Prop where
  c0 : w.cell? ⟨W.heap.size, 0, none⟩ = some (.int .i64 k)
  c1 : w.cell? ⟨W.heap.size, 1, none⟩ = some (.int .i64 v)
  c2 : w.cell? ⟨W.heap.size, 2, none⟩ = some (.int .i64 s)
/-- A turn and two points in their boxes. -/
structure Tq (W w : World) (k v s : Int) (pa ra : Option Addr) (pl pc rl rc : Nat) : Prop where
  t : Tc W w k v s
  p : w.cell? ⟨W.heap.size + 1, 0, none⟩ = some (.slice pa pl pc)
  r : w.cell? ⟨W.heap.size + 1, 1, none⟩ = some (.slice ra rl rc)
  d : Below W.heap.size W w
theorem Tq.below {W w w' : World} {k v s : Int} {pa ra : Option Addr} {pl pc rl rc : Nat} (h : Tq W w k v s pa ra pl pc rl rc) (hb : Below w.heap.size w w') : Tq W w' k v s pa ra pl pc rl rc := ⟨⟨keepc hb h.t.c0, keepc hb h.t.c1, keepc hb h.t.c2⟩, keepc hb h.p, keepc hb h.r, h.d.trans (hb.mono h.d.size)⟩
theorem Tq.drew {W w : World} {k v s : Int} {pa ra : Option Addr} {pl pc rl rc : Nat} (h : Tq W w k v s pa ra pl pc rl rc) : Tq W w.drew k v s pa ra pl pc rl rc := h.below (Below.refl _ _).drew
theorem Tq.new (W : World) (k v s : Int) (pa ra : Option Addr) (pl pc rl rc : Nat) : Tq W ((W.alloc (Obj.cells #[.int .i64 k, .int .i64 v, .int .i64 s] 23)).alloc (Obj.cells #[.slice pa pl pc, .slice ra rl rc] 38)) k v s pa ra pl pc rl rc :=
  ⟨⟨keepc ((Below.refl _ _).alloc (Nat.le_refl _) _) (by simp [go_sem]), keepc ((Below.refl _ _).alloc (Nat.le_refl _) _) (by simp [go_sem]), keepc ((Below.refl _ _).alloc (Nat.le_refl _) _) (by simp [go_sem])⟩, by simp [go_sem], by simp [go_sem], by go_grown⟩
theorem sizes5 (W : World) (T : TypeId) {k n : Nat} (hk : k ≤ 4) (hn : [1, 2, 4, 8, 16, 32, 64].getD k 0 = n) : (W.alloc (Obj.cells #[.int .i64 1, .int .i64 2, .int .i64 4, .int .i64 8, .int .i64 16] T)).cell? ⟨W.heap.size, k, none⟩ = some (.int .i64 (n : Int)) := by
  obtain rfl | rfl | rfl | rfl | rfl : k = 0 ∨ k = 1 ∨ k = 2 ∨ k = 3 ∨ k = 4 := by omega
  all_goals (subst hn; simp [go_sem])
theorem tat_err (l k v s e : Int) (a c : Option Addr) (cap cap2 : Nat) (p r : List (Nat × Nat)) (W : World) (h0 : ¬ e = 0) (HH : ∀ w b, Below W.heap.size W w → w.cell? ⟨b, 0, none⟩ = some (.slice a p.length cap) → w.cell? ⟨b, 1, none⟩ = some (.slice c r.length cap2) → Calls Try.prog 42 #[.int .i64 l, .int .i64 k, .int .i64 v, .int .i64 s, .slice (some ⟨b, 0, none⟩) 2 2] w fun e' w' => e' = .returned (.int .i64 e) ∧ Below w.heap.size w w') :
    Calls Try.prog 17 #[.int .i64 l, .int .i64 k, .int .i64 v, .int .i64 s, .slice a p.length cap, .slice c r.length cap2] W fun e' w' => e' = .returned (.tuple #[.agg #[.int .u64 0, .int .u64 0], .int .i64 e]) ∧ Below W.heap.size W w' := by
  have H := Hid.mkT HH
  have h0' : (e != 0) = true := by simp [h0]
  clear HH
  go_enter Try.func17, Try.ntmps17
  go_wp2_with (go_at_call 42; refine (H.out _ _ (by go_grown) (by simp [go_sem]) (by simp [go_sem])).mono ?_; rintro e' w1 ⟨rfl, hb1⟩; have D1 : Hid (Ew w1 W.heap.size 0 0 ∧ Below W.heap.size W w1) := ⟨Ew.below ⟨⟨by simp [go_sem], by simp [go_sem]⟩, by simp [go_sem], by simp [go_sem]⟩ hb1, (((Below.refl _ _).alloc (Nat.le_refl _) _).alloc (by simp) _).trans (hb1.mono (by simp; omega))⟩; clear hb1; obtain ⟨⟨z1, z2⟩, z3, z4⟩ := D1.out.1)
  refine bodyPost_ret (v := .tuple #[.agg #[.int .u64 0, .int .u64 0], .int .i64 e]) (by simp [results, Try.results17, go_sem, *]) rfl ⟨rfl, ?_⟩
  first | exact D1.out.2 | exact (D1.out.2.setCell (by simp) _).setCell (by simp) _
theorem trow_e (l k v s c : Int) (a : Option Addr) (cap : Nat) (p : List (Nat × Nat)) (h0 : ¬ c = 0) (W : World) (HH0 : ∀ w b, Below W.heap.size W w → w.cell? ⟨b, 0, none⟩ = some (.slice a p.length cap) → Calls Try.prog 42 #[.int .i64 l, .int .i64 k, .int .i64 v, .int .i64 s, .slice (some ⟨b, 0, none⟩) 1 1] w fun e w' => e = .returned (.int .i64 c) ∧ Below w.heap.size w w') :
    Calls Try.prog 18 #[.int .i64 l, .int .i64 k, .int .i64 v, .int .i64 s, .slice a p.length cap] W fun e w' => e = .returned (.tuple #[.slice none 0 0, .int .i64 c]) ∧ Below W.heap.size W w' := by
  have HH := Hid.mkT HH0
  have h0' : (c != 0) = true := by simp [h0]
  clear HH0
  go_enter Try.func18, Try.ntmps18
  go_wp2_with (go_at_call 42; refine (HH.out _ _ (by go_grown) (by simp [go_sem])).mono ?_; rintro e w1 ⟨rfl, hb1⟩; have D1 : Hid (Below W.heap.size W w1) := ((Below.refl _ _).alloc (Nat.le_refl _) _).trans (hb1.mono (by simp)); clear hb1)
  refine bodyPost_ret (v := .tuple #[.slice none 0 0, .int .i64 c]) (by simp [results, Try.results18, go_sem, *]) rfl ⟨rfl, D1.out⟩
/-- What the law's walk knows: both boxes, the sign's box, the points as the document has them. -/
structure Ts (W w : World) (k v s : Int) (pa ra : Option Addr) (pl pc rl rc q7 : Nat) (z : Nat × Nat) (xa' ya : Option Addr) (p r : List (Nat × Nat)) : Prop where
  b : Tq W w k v s pa ra pl pc rl rc
  z : El w q7 z.1 z.2
  x : ERow w xa' p
  y : ERow w ya r
theorem Ts.below {W w w' : World} {k v s : Int} {pa ra : Option Addr} {pl pc rl rc q7 : Nat} {z : Nat × Nat} {xa' ya : Option Addr} {p r : List (Nat × Nat)} (h : Ts W w k v s pa ra pl pc rl rc q7 z xa' ya p r) (hb : Below w.heap.size w w') : Ts W w' k v s pa ra pl pc rl rc q7 z xa' ya p r := ⟨h.b.below hb, h.z.below hb, h.x.below hb, h.y.below hb⟩
theorem Ts.drew {W w : World} {k v s : Int} {pa ra : Option Addr} {pl pc rl rc q7 : Nat} {z : Nat × Nat} {xa' ya : Option Addr} {p r : List (Nat × Nat)} (h : Ts W w k v s pa ra pl pc rl rc q7 z xa' ya p r) : Ts W w.drew k v s pa ra pl pc rl rc q7 z xa' ya p r := h.below (Below.refl _ _).drew
set_option maxRecDepth 100000 in
set_option maxHeartbeats 8000000 in
theorem ts_far (l k v s : Int) (pa ra : Option Addr) (pc rc : Nat) (p r : List (Nat × Nat)) (h : (4 < v ∧ v ≤ 6) ∨ 6 < p.length ∨ 6 < r.length) (W : World) :
    Calls Try.prog 4 #[.int .i64 l, .agg #[.int .i64 k, .int .i64 v, .int .i64 s], .agg #[.slice pa p.length pc, .slice ra r.length rc]] W fun e w' => e = .returned (.bool true) ∧ Below W.heap.size W w' := by
  have HA := Hid.mkT awake18
  have K := Hid.mkT (Tq.new W k v s pa ra p.length pc r.length rc)
  by_cases h1 : 4 < v ∧ v ≤ 6
  · obtain ⟨h1, h2⟩ := h1
    clear h
    go_enter Try.func4, Try.ntmps4
    go_wp2_with (go_at_call 9; refine (HA.out.go _).mono ?_; rintro e w1 ⟨rfl, hb1⟩)
    go_ret
    exact ⟨rfl, (K.out.below hb1).d⟩
  · by_cases h2 : 6 < p.length
    · have h2' : (6 : Int) < (p.length : Int) := by omega
      clear h h2
      by_cases h3 : 4 < v
      · have h4 : ¬ v ≤ 6 := by omega
        clear h1
        go_enter Try.func4, Try.ntmps4
        go_wp2_with (go_at_call 9; refine (HA.out.go _).mono ?_; rintro e w1 ⟨rfl, hb1⟩)
        go_ret
        exact ⟨rfl, (K.out.below hb1).d⟩
      · clear h1
        go_enter Try.func4, Try.ntmps4
        go_wp2_with (go_at_call 9; refine (HA.out.go _).mono ?_; rintro e w1 ⟨rfl, hb1⟩)
        go_ret
        exact ⟨rfl, (K.out.below hb1).d⟩
    · have h2' : ¬ (6 : Int) < (p.length : Int) := by omega
      have h5 : (6 : Int) < (r.length : Int) := by omega
      clear h h2
      by_cases h3 : 4 < v
      · have h4 : ¬ v ≤ 6 := by omega
        clear h1
        go_enter Try.func4, Try.ntmps4
        go_wp2_with (go_at_call 9; refine (HA.out.go _).mono ?_; rintro e w1 ⟨rfl, hb1⟩)
        go_ret
        exact ⟨rfl, (K.out.below hb1).d⟩
      · clear h1
        go_enter Try.func4, Try.ntmps4
        go_wp2_with (go_at_call 9; refine (HA.out.go _).mono ?_; rintro e w1 ⟨rfl, hb1⟩)
        go_ret
        exact ⟨rfl, (K.out.below hb1).d⟩
set_option maxHeartbeats 8000000 in
set_option maxRecDepth 100000 in
theorem ts_err (l k v s : Int) (pa ra : Option Addr) (pc rc : Nat) (p r : List (Nat × Nat)) (h1 : ¬ (4 < v ∧ v ≤ 6)) (h2 : ¬ 6 < p.length) (h3 : ¬ 6 < r.length) (hp : ltE p) (hr : ltE r) (W : World) (hP : ERow W pa p) (hR : ERow W ra r) (a b e : Int) (ha : my18 l k v s p = a) (hb : my18 l k v s r = b) (he : e = if a = 0 ∨ (a = 5 ∧ b = 6) then b else a) (h0 : ¬ a = 0) (HAt0 : ∀ w, Below W.heap.size W w → Calls Try.prog 17 #[.int .i64 l, .int .i64 k, .int .i64 v, .int .i64 s, .slice pa p.length pc, .slice ra r.length rc] w fun e' w' => e' = .returned (.tuple #[.agg #[.int .u64 0, .int .u64 0], .int .i64 e]) ∧ Below w.heap.size w w') (HRw0 : ∀ w, Below W.heap.size W w → Calls Try.prog 18 #[.int .i64 l, .int .i64 k, .int .i64 v, .int .i64 s, .slice pa p.length pc] w fun e' w' => e' = .returned (.tuple #[.slice none 0 0, .int .i64 a]) ∧ Below w.heap.size w w') :
    Calls Try.prog 4 #[.int .i64 l, .agg #[.int .i64 k, .int .i64 v, .int .i64 s], .agg #[.slice pa p.length pc, .slice ra r.length rc]] W fun e w' => e = .returned (.bool true) ∧ Below W.heap.size W w' := by
  have HA := Hid.mkT awake18
  have K := Hid.mkT (Tq.new W k v s pa ra p.length pc r.length rc)
  have h2' : ¬ (6 : Int) < (p.length : Int) := by omega
  have h3' : ¬ (6 : Int) < (r.length : Int) := by omega
  have HR1 : Hid (∀ w, Below W.heap.size W w → Calls Try.prog 19 #[.slice pa p.length pc] w fun e w' => ∃ a' cap', e = .returned (.slice a' p.length cap') ∧ ERow w' a' p ∧ Below w.heap.size w w') := fun w hb => ref_row pa pc p (by omega) w (hP.below hb)
  have HR2 : Hid (∀ w, Below W.heap.size W w → Calls Try.prog 19 #[.slice ra r.length rc] w fun e w' => ∃ a' cap', e = .returned (.slice a' r.length cap') ∧ ERow w' a' r ∧ Below w.heap.size w w') := fun w hb => ref_row ra rc r (by omega) w (hR.below hb)
  have HM1 : Hid (∀ w xA xc, ERow w xA p → Calls Try.prog 20 #[.int .i64 l, .int .i64 k, .int .i64 v, .int .i64 s, .slice xA p.length xc] w fun e w' => e = .returned (.int .i64 a) ∧ Below w.heap.size w w') := fun w xA xc h => by
    have := rmay18 l k v s xA xc p hp (by omega) w h
    rw [ha] at this
    exact this
  have HM2 : Hid (∀ w xA xc, ERow w xA r → Calls Try.prog 20 #[.int .i64 l, .int .i64 k, .int .i64 v, .int .i64 s, .slice xA r.length xc] w fun e w' => e = .returned (.int .i64 b) ∧ Below w.heap.size w w') := fun w xA xc h => by
    have := rmay18 l k v s xA xc r hr (by omega) w h
    rw [hb] at this
    exact this
  have HAt := Hid.mkT HAt0
  have HRw := Hid.mkT HRw0
  have a0 : (a == 0) = false := by rw [beq_eq_false_iff_ne]; exact h0
  have a0' : (a != 0) = true := by simp [h0]
  have he0 : ¬ e = 0 := by
    rw [he]
    split
    · rename_i hc
      rcases hc with hc | hc
      · exact absurd hc h0
      · omega
    · exact h0
  have e0' : (e != 0) = true := by simp [he0]
  have HE := Hid.mkT he
  have hv : 4 < v ∨ ¬ 4 < v := Classical.em _
  clear HAt0 HRw0 ha hb he hp hr hP hR he0
  rcases hv with hv | hv
  · have hv6 : ¬ v ≤ 6 := fun h => h1 ⟨hv, h⟩
    clear h1
    go_enter Try.func4, Try.ntmps4
    go_wp2_with (first
      | (go_at_call 17; refine (HAt.out _ K.out.d).mono ?_; rintro e' w1 ⟨rfl, hb1⟩; have K1 : Hid (Tq W (w1.alloc (Obj.cells #[.int .u64 0, .int .u64 0] 41)) k v s pa ra p.length pc r.length rc ∧ El (w1.alloc (Obj.cells #[.int .u64 0, .int .u64 0] 41)) w1.heap.size 0 0) := ⟨(K.out.below hb1).below ((Below.refl _ _).alloc (Nat.le_refl _) _), ⟨by simp [go_sem], by simp [go_sem]⟩⟩; clear hb1; obtain ⟨⟨c0, c1, c2⟩, c3, c4, _⟩ := K1.out.1)
      | (go_at_call 18; refine (HRw.out _ K1.out.1.d).mono ?_; rintro e' w2 ⟨rfl, hb2⟩; have K2 : Hid (Tq W w2 k v s pa ra p.length pc r.length rc ∧ El w2 w1.heap.size 0 0 ∧ ERow w2 none []) := ⟨K1.out.1.below hb2, K1.out.2.below hb2, ⟨fun i hi => by simp at hi⟩⟩; clear hb2 K1 c0 c1 c2 c3 c4))
    generalize w1.heap.size = q7 at *
    obtain ⟨c3, c4⟩ : _ ∧ _ := ⟨K2.out.1.p, K2.out.1.r⟩
    go_upto_region 5 with fail
    go_region_held3 (fun w => w.cell? ⟨W.heap.size + 1, 0, none⟩ = some (.slice pa p.length pc) ∧ w.cell? ⟨W.heap.size + 1, 1, none⟩ = some (.slice ra r.length rc)) (go_keep) (first | (go_at_call 19; refine (HR2.out _ K3.out.1.d).mono ?_; rintro e' w4 ⟨ya, yc, rfl, Y4, hb4⟩; have K4 : Hid (Ts W w4 k v s pa ra p.length pc r.length rc q7 (0, 0) xA ya p r ∧ ERow w4 none []) := ⟨⟨K3.out.1.below hb4, K3.out.2.1.below hb4, K3.out.2.2.1.below hb4, Y4⟩, K3.out.2.2.2.below hb4⟩; clear hb4 Y4 c3 c4; obtain ⟨c3, c4⟩ : _ ∧ _ := ⟨K4.out.1.b.p, K4.out.1.b.r⟩) | (go_at_call 19; refine (HR1.out _ (by first | exact K2.out.1.d | exact K2.out.1.drew.d)).mono ?_; rintro e' w3 ⟨xA, xc, rfl, X3, hb3⟩; have K3 : Hid (Tq W w3 k v s pa ra p.length pc r.length rc ∧ El w3 q7 0 0 ∧ ERow w3 xA p ∧ ERow w3 none []) := (by first | exact ⟨K2.out.1.below hb3, K2.out.2.1.below hb3, X3, K2.out.2.2.below hb3⟩ | exact ⟨K2.out.1.drew.below hb3, K2.out.2.1.drew.below hb3, X3, K2.out.2.2.drew.below hb3⟩); clear hb3 X3 c3 c4; obtain ⟨c3, c4⟩ : _ ∧ _ := ⟨K3.out.1.p, K3.out.1.r⟩))
    clear c3 c4 K2 K3 HAt HRw HR1 HR2 K
    obtain ⟨c0, c1, c2⟩ : _ ∧ _ ∧ _ := ⟨K4.out.1.b.t.c0, K4.out.1.b.t.c1, K4.out.1.b.t.c2⟩
    go_upto_region 6 with fail
    go_region_held3 (fun w => w.cell? ⟨W.heap.size, 0, none⟩ = some (.int .i64 k) ∧ w.cell? ⟨W.heap.size, 1, none⟩ = some (.int .i64 v) ∧ w.cell? ⟨W.heap.size, 2, none⟩ = some (.int .i64 s)) (go_keep) (first | (go_at_call 20; refine (HM2.out _ _ _ K5.out.1.y).mono ?_; rintro e' w6 ⟨rfl, hb6⟩; have K6 : Hid (Ts W w6 k v s pa ra p.length pc r.length rc q7 (0, 0) xA ya p r ∧ ERow w6 none []) := ⟨K5.out.1.below hb6, K5.out.2.below hb6⟩; clear hb6 c0 c1 c2; obtain ⟨c0, c1, c2⟩ : _ ∧ _ ∧ _ := ⟨K6.out.1.b.t.c0, K6.out.1.b.t.c1, K6.out.1.b.t.c2⟩) | (go_at_call 20; refine (HM1.out _ _ _ (by first | exact K4.out.1.x | exact K4.out.1.drew.x)).mono ?_; rintro e' w5 ⟨rfl, hb5⟩; have K5 : Hid (Ts W w5 k v s pa ra p.length pc r.length rc q7 (0, 0) xA ya p r ∧ ERow w5 none []) := (by first | exact ⟨K4.out.1.below hb5, K4.out.2.below hb5⟩ | exact ⟨K4.out.1.drew.below hb5, K4.out.2.drew.below hb5⟩); clear hb5 c0 c1 c2; obtain ⟨c0, c1, c2⟩ : _ ∧ _ ∧ _ := ⟨K5.out.1.b.t.c0, K5.out.1.b.t.c1, K5.out.1.b.t.c2⟩))
    clear K4 K5 HM1 HM2
    by_cases a5 : a = 5
    · by_cases b6 : b = 6
      · have g1 : (a == 5) = true := by simp [a5]
        have g2 : (b == 6) = true := by simp [b6]
        have hee : e = b := by rw [HE.out, if_pos (.inr ⟨a5, b6⟩)]
        subst hee
        clear HE a5 b6 h0
        go_wp2_with (go_at_call 9; refine (HA.out.go _).mono ?_; rintro e' w8 ⟨rfl, hb8⟩; have K8 := Hid.mkT (Ts.below (w' := w8) (by first | exact K6.out.1 | exact K6.out.1.drew) hb8); clear hb8; obtain ⟨z1, z2⟩ := K8.out.z)
        go_ret
        exact ⟨by simp, K8.out.b.d⟩
      · have g1 : (a == 5) = true := by simp [a5]
        have g2 : (b == 6) = false := by simp [b6]
        have hee : e = a := by rw [HE.out, if_neg (by omega)]
        subst hee
        clear HE a5 b6 h0
        go_wp2_with (go_at_call 9; refine (HA.out.go _).mono ?_; rintro e' w8 ⟨rfl, hb8⟩; have K8 := Hid.mkT (Ts.below (w' := w8) (by first | exact K6.out.1 | exact K6.out.1.drew) hb8); clear hb8; obtain ⟨z1, z2⟩ := K8.out.z)
        go_ret
        exact ⟨by simp, K8.out.b.d⟩
    · have g1 : (a == 5) = false := by simp [a5]
      have hee : e = a := by rw [HE.out, if_neg (by omega)]
      subst hee
      clear HE a5 h0
      go_wp2_with (go_at_call 9; refine (HA.out.go _).mono ?_; rintro e' w8 ⟨rfl, hb8⟩; have K8 := Hid.mkT (Ts.below (w' := w8) (by first | exact K6.out.1 | exact K6.out.1.drew) hb8); clear hb8; obtain ⟨z1, z2⟩ := K8.out.z)
      go_ret
      exact ⟨by simp, K8.out.b.d⟩
  · clear h1
    go_enter Try.func4, Try.ntmps4
    go_wp2_with (first
      | (go_at_call 17; refine (HAt.out _ K.out.d).mono ?_; rintro e' w1 ⟨rfl, hb1⟩; have K1 : Hid (Tq W (w1.alloc (Obj.cells #[.int .u64 0, .int .u64 0] 41)) k v s pa ra p.length pc r.length rc ∧ El (w1.alloc (Obj.cells #[.int .u64 0, .int .u64 0] 41)) w1.heap.size 0 0) := ⟨(K.out.below hb1).below ((Below.refl _ _).alloc (Nat.le_refl _) _), ⟨by simp [go_sem], by simp [go_sem]⟩⟩; clear hb1; obtain ⟨⟨c0, c1, c2⟩, c3, c4, _⟩ := K1.out.1)
      | (go_at_call 18; refine (HRw.out _ K1.out.1.d).mono ?_; rintro e' w2 ⟨rfl, hb2⟩; have K2 : Hid (Tq W w2 k v s pa ra p.length pc r.length rc ∧ El w2 w1.heap.size 0 0 ∧ ERow w2 none []) := ⟨K1.out.1.below hb2, K1.out.2.below hb2, ⟨fun i hi => by simp at hi⟩⟩; clear hb2 K1 c0 c1 c2 c3 c4))
    generalize w1.heap.size = q7 at *
    obtain ⟨c3, c4⟩ : _ ∧ _ := ⟨K2.out.1.p, K2.out.1.r⟩
    go_upto_region 5 with fail
    go_region_held3 (fun w => w.cell? ⟨W.heap.size + 1, 0, none⟩ = some (.slice pa p.length pc) ∧ w.cell? ⟨W.heap.size + 1, 1, none⟩ = some (.slice ra r.length rc)) (go_keep) (first | (go_at_call 19; refine (HR2.out _ K3.out.1.d).mono ?_; rintro e' w4 ⟨ya, yc, rfl, Y4, hb4⟩; have K4 : Hid (Ts W w4 k v s pa ra p.length pc r.length rc q7 (0, 0) xA ya p r ∧ ERow w4 none []) := ⟨⟨K3.out.1.below hb4, K3.out.2.1.below hb4, K3.out.2.2.1.below hb4, Y4⟩, K3.out.2.2.2.below hb4⟩; clear hb4 Y4 c3 c4; obtain ⟨c3, c4⟩ : _ ∧ _ := ⟨K4.out.1.b.p, K4.out.1.b.r⟩) | (go_at_call 19; refine (HR1.out _ (by first | exact K2.out.1.d | exact K2.out.1.drew.d)).mono ?_; rintro e' w3 ⟨xA, xc, rfl, X3, hb3⟩; have K3 : Hid (Tq W w3 k v s pa ra p.length pc r.length rc ∧ El w3 q7 0 0 ∧ ERow w3 xA p ∧ ERow w3 none []) := (by first | exact ⟨K2.out.1.below hb3, K2.out.2.1.below hb3, X3, K2.out.2.2.below hb3⟩ | exact ⟨K2.out.1.drew.below hb3, K2.out.2.1.drew.below hb3, X3, K2.out.2.2.drew.below hb3⟩); clear hb3 X3 c3 c4; obtain ⟨c3, c4⟩ : _ ∧ _ := ⟨K3.out.1.p, K3.out.1.r⟩))
    clear c3 c4 K2 K3 HAt HRw HR1 HR2 K
    obtain ⟨c0, c1, c2⟩ : _ ∧ _ ∧ _ := ⟨K4.out.1.b.t.c0, K4.out.1.b.t.c1, K4.out.1.b.t.c2⟩
    go_upto_region 6 with fail
    go_region_held3 (fun w => w.cell? ⟨W.heap.size, 0, none⟩ = some (.int .i64 k) ∧ w.cell? ⟨W.heap.size, 1, none⟩ = some (.int .i64 v) ∧ w.cell? ⟨W.heap.size, 2, none⟩ = some (.int .i64 s)) (go_keep) (first | (go_at_call 20; refine (HM2.out _ _ _ K5.out.1.y).mono ?_; rintro e' w6 ⟨rfl, hb6⟩; have K6 : Hid (Ts W w6 k v s pa ra p.length pc r.length rc q7 (0, 0) xA ya p r ∧ ERow w6 none []) := ⟨K5.out.1.below hb6, K5.out.2.below hb6⟩; clear hb6 c0 c1 c2; obtain ⟨c0, c1, c2⟩ : _ ∧ _ ∧ _ := ⟨K6.out.1.b.t.c0, K6.out.1.b.t.c1, K6.out.1.b.t.c2⟩) | (go_at_call 20; refine (HM1.out _ _ _ (by first | exact K4.out.1.x | exact K4.out.1.drew.x)).mono ?_; rintro e' w5 ⟨rfl, hb5⟩; have K5 : Hid (Ts W w5 k v s pa ra p.length pc r.length rc q7 (0, 0) xA ya p r ∧ ERow w5 none []) := (by first | exact ⟨K4.out.1.below hb5, K4.out.2.below hb5⟩ | exact ⟨K4.out.1.drew.below hb5, K4.out.2.drew.below hb5⟩); clear hb5 c0 c1 c2; obtain ⟨c0, c1, c2⟩ : _ ∧ _ ∧ _ := ⟨K5.out.1.b.t.c0, K5.out.1.b.t.c1, K5.out.1.b.t.c2⟩))
    clear K4 K5 HM1 HM2
    by_cases a5 : a = 5
    · by_cases b6 : b = 6
      · have g1 : (a == 5) = true := by simp [a5]
        have g2 : (b == 6) = true := by simp [b6]
        have hee : e = b := by rw [HE.out, if_pos (.inr ⟨a5, b6⟩)]
        subst hee
        clear HE a5 b6 h0
        go_wp2_with (go_at_call 9; refine (HA.out.go _).mono ?_; rintro e' w8 ⟨rfl, hb8⟩; have K8 := Hid.mkT (Ts.below (w' := w8) (by first | exact K6.out.1 | exact K6.out.1.drew) hb8); clear hb8; obtain ⟨z1, z2⟩ := K8.out.z)
        go_ret
        exact ⟨by simp, K8.out.b.d⟩
      · have g1 : (a == 5) = true := by simp [a5]
        have g2 : (b == 6) = false := by simp [b6]
        have hee : e = a := by rw [HE.out, if_neg (by omega)]
        subst hee
        clear HE a5 b6 h0
        go_wp2_with (go_at_call 9; refine (HA.out.go _).mono ?_; rintro e' w8 ⟨rfl, hb8⟩; have K8 := Hid.mkT (Ts.below (w' := w8) (by first | exact K6.out.1 | exact K6.out.1.drew) hb8); clear hb8; obtain ⟨z1, z2⟩ := K8.out.z)
        go_ret
        exact ⟨by simp, K8.out.b.d⟩
    · have g1 : (a == 5) = false := by simp [a5]
      have hee : e = a := by rw [HE.out, if_neg (by omega)]
      subst hee
      clear HE a5 h0
      go_wp2_with (go_at_call 9; refine (HA.out.go _).mono ?_; rintro e' w8 ⟨rfl, hb8⟩; have K8 := Hid.mkT (Ts.below (w' := w8) (by first | exact K6.out.1 | exact K6.out.1.drew) hb8); clear hb8; obtain ⟨z1, z2⟩ := K8.out.z)
      go_ret
      exact ⟨by simp, K8.out.b.d⟩
end Go.Proofs.Ythfebbmmhjkglaa
