/- The walk of LinpolyValues over the seat's translation. -/
import Derived.Test.YtnecjkdlmecgdaaLvP
namespace Go.Proofs.Ytnecjkdlmecgdaa
open Go.RowKit
open Cb Rg Sq Lq
open Tw (pm)

/-- The boxes of the law's arguments. -/
structure Yb (W w : World) (l : Int) (sl : Value) (x : Nat × Nat) : Prop where
  s0 : w.cell? ⟨W.heap.size, 0, none⟩ = some (.int .i64 l)
  s1 : w.cell? ⟨W.heap.size, 1, none⟩ = some sl
  x1 : w.cell? ⟨W.heap.size + 1, 0, none⟩ = some (.int .u64 (x.1 : Int))
  x0 : w.cell? ⟨W.heap.size + 1, 1, none⟩ = some (.int .u64 (x.2 : Int))
  d : Below W.heap.size W w
theorem Yb.below {W w w' : World} {l : Int} {sl : Value} {x : Nat × Nat} (h : Yb W w l sl x) (hb : Below w.heap.size w w') : Yb W w' l sl x :=
  ⟨keepc hb h.s0, keepc hb h.s1, keepc hb h.x1, keepc hb h.x0, h.d.trans (hb.mono h.d.size)⟩
theorem Yb.new (W : World) (l : Int) (a : Option Addr) (n cap : Nat) (x : Nat × Nat) : Yb W ((W.alloc (Obj.cells #[.int .i64 l, .slice a n cap] 24)).alloc (Obj.cells #[.int .u64 (x.1 : Int), .int .u64 (x.2 : Int)] 27)) l (.slice a n cap) x := ⟨by simp [go_sem], by simp [go_sem], by simp [go_sem], by simp [go_sem], by go_grown⟩
set_option maxHeartbeats 2000000 in
theorem lv_none (l : Int) (a : Option Addr) (cap : Nat) (es : List (Nat × Nat)) (hes : ltE es) (i : Int) (x : Nat × Nat) (h : ¬ Ok5 l es) (W : World) (hr : ERow W a es) :
    Calls Try.prog 4 #[.agg #[.int .i64 l, .slice a es.length cap], .int .i64 i, .agg #[.int .u64 (x.1 : Int), .int .u64 (x.2 : Int)]] W fun e w' => e = .returned (.bool true) ∧ Below W.heap.size W w' := by
  have HA := hidT awake5
  have HM := hidT (fun w (hb : Below W.heap.size W w) => made_no l a cap es hes h w (hr.below hb))
  clear h hr hes
  generalize es.length = n at *
  go_enter Try.func4, Try.ntmps4
  go_wp2_with (first
    | (go_at_call 21; refine (HM.out _ (Yb.new W l a n cap x).d).mono ?_; rintro e w1 ⟨rfl, hb1⟩; have K1 := hidT ((Yb.new W l a n cap x).below hb1); clear hb1)
    | (go_at_call 9; refine (HA.out.go _).mono ?_; rintro e w2 ⟨rfl, hb2⟩))
  go_ret
  exact ⟨rfl, K1.out.d.trans (hb2.mono K1.out.d.size)⟩
/-- What the law goes on with. -/
structure Ym (W w : World) (k : Nat) (es ts : List (Nat × Nat)) (p : Nat) (a' aT aB : Option Addr) (c cT cB : Nat) (sl : Value) (x : Nat × Nat) : Prop where
  b : Yb W w (k : Int) sl x
  s : Spa w p k es ts a' aT aB c cT cB
theorem Ym.below {W w w' : World} {k : Nat} {es ts : List (Nat × Nat)} {p : Nat} {a' aT aB : Option Addr} {c cT cB : Nat} {sl : Value} {x : Nat × Nat} (h : Ym W w k es ts p a' aT aB c cT cB sl x) (hb : Below w.heap.size w w') : Ym W w' k es ts p a' aT aB c cT cB sl x := ⟨h.b.below hb, h.s.below hb⟩
set_option linter.unusedSimpArgs false in
set_option maxHeartbeats 16000000 in
set_option maxRecDepth 100000 in
theorem lv_main (k : Nat) (hk : k < 8) (a : Option Addr) (cap : Nat) (es : List (Nat × Nat)) (hes : ltE es) (ha : a = none → es.length = 0 ∧ cap = 0) (i : Int) (x : Nat × Nat) (lx : lt2 x) (h : Ok5 (k : Int) es) (ot : ofT k es) (W : World) (hr : ERow W a es) :
    Calls Try.prog 4 #[.agg #[.int .i64 (k : Int), .slice a es.length cap], .int .i64 i, .agg #[.int .u64 (x.1 : Int), .int .u64 (x.2 : Int)]] W fun e w' => e = .returned (.bool true) ∧ Below W.heap.size W w' := by
  have HA := hidT awake5
  have HO := hidT one_any
  have HM := hidT (fun w (hb : Below W.heap.size W w) => made_ok (k : Int) k hk rfl a cap es hes ha h ot w (hr.below hb))
  have HX := hidT (rof_any (k : Int) x.1 x.2 lx.1 lx.2)
  have HR := hidT hr
  have h6 := h.2.1
  have HRf := hidT (fun w (hb : Below W.heap.size W w) => ref_row a cap es (by omega) w (hr.below hb))
  obtain ⟨A, hAA⟩ : ∃ A, A = svv k es i x := ⟨_, rfl⟩
  obtain ⟨B, hBB⟩ : ∃ B, B = snn k es i x := ⟨_, rfl⟩
  have HAA := hidT hAA
  have HBB := hidT hBB
  have HVx0 : Hid (∀ p ts a' aT aB c cT cB w, Spu k es ts c cT → Spa w p k es ts a' aT aB c cT cB → Calls Try.prog 22 #[.pointer (some ⟨p, 0, none⟩), .int .i64 i, .agg #[.int .u64 (x.1 : Int), .int .u64 (x.2 : Int)]] w fun e w' => e = .returned (.agg #[.int .u64 (A.1 : Int), .int .u64 (A.2 : Int)]) ∧ Below w.heap.size w w') := fun p ts a' aT aB c cT cB w hU hS => by
    rw [hAA]; exact sval_any hS hU i x lx
  have HVy0 : Hid (∀ p ts a' aT aB c cT cB w, Spu k es ts c cT → Spa w p k es ts a' aT aB c cT cB → Calls Try.prog 23 #[.pointer (some ⟨p, 0, none⟩), .int .i64 i, .agg #[.int .u64 (x.1 : Int), .int .u64 (x.2 : Int)]] w fun e w' => e = .returned (.agg #[.int .u64 (B.1 : Int), .int .u64 (B.2 : Int)]) ∧ Below w.heap.size w w') := fun p ts a' aT aB c cT cB w hU hS => by
    rw [hBB]; exact snorm_any hS hU i x lx
  clear h hr ha ot hAA hBB hes
  go_enter Try.func4, Try.ntmps4
  go_upto_region 4 with (go_at_call 21; refine (HM.out _ (Yb.new W (k : Int) a es.length cap x).d).mono ?_; rintro e w3 ⟨p, ts, a', aT, aB, c, cT, cB, rfl, hS, hU, hb1⟩; have K3 : Hid (Ym W w3 k es ts p a' aT aB c cT cB (.slice a es.length cap) x) := ⟨(Yb.new W (k : Int) a es.length cap x).below hb1, hS⟩; have U1 := hidT hU; obtain ⟨s0, s1, x1, x0, _⟩ := K3.out.b; clear hb1 hS hU)
  have EE4 : ∀ w, Below w3.heap.size w3 w → w.cell? ⟨W.heap.size + 1, 0, none⟩ = some (.int .u64 (x.1 : Int)) ∧ w.cell? ⟨W.heap.size + 1, 1, none⟩ = some (.int .u64 (x.2 : Int)) := fun w hb => ⟨keepc hb K3.out.b.x1, keepc hb K3.out.b.x0⟩
  have HVx := hidT (fun w (hb : Below w3.heap.size w3 w) => HVx0.out p ts a' aT aB c cT cB w U1.out (K3.out.s.below hb))
  have HVy := hidT (fun w (hb : Below w3.heap.size w3 w) => HVy0.out p ts a' aT aB c cT cB w U1.out (K3.out.s.below hb))
  clear HVx0 HVy0 HM s0 s1 x1 x0
  obtain ⟨N0, hN⟩ : ∃ N0, N0 = w3.heap.size := ⟨_, rfl⟩
  refine wp_region_noPanic ?_
  refine wp_region_held_drew (S := fun w => w.cell? ⟨W.heap.size + 1, 0, none⟩ = some (.int .u64 (x.1 : Int)) ∧ w.cell? ⟨W.heap.size + 1, 1, none⟩ = some (.int .u64 (x.2 : Int))) (by kernel_rfl) (EE4 _ (Below.refl _ _).drew) (fun hHeld => ?_)
  refine wpAnyH_take (i := 0) (oi := _) (v := ?_) rfl (by kernel_rfl) (by kernel_rfl) (by kernel_rfl) (fun _ _ _ h => h) (Or.inl ⟨by rfl, ?_⟩) (by assumption) ?_
  rotate_left
  · ((intro w hSw; (try dsimp only at hSw); go_simp) <;> (try with_reducible rfl))
  show wpAnyH _ _ _ _ _ _ _ (Act.put _ (some 16) _) _
  simp only [Act.put, List.setIfInBounds_toArray, List.set_cons_succ, List.set_cons_zero]
  refine wpAnyH_take (i := 1) (oi := _) (v := ?_) rfl (by kernel_rfl) (by kernel_rfl) (by kernel_rfl) (fun _ _ _ h => h) (Or.inl ⟨by rfl, ?_⟩) (by assumption) ?_
  rotate_left
  · ((intro w hSw; (try dsimp only at hSw); go_simp) <;> (try with_reducible rfl))
  show wpAnyH _ _ _ _ _ _ _ (Act.put _ (some 17) _) _
  simp only [Act.put, List.setIfInBounds_toArray, List.set_cons_succ, List.set_cons_zero]
  refine wpAnyH_take (i := 2) (oi := _) (v := ?_) rfl (by kernel_rfl) (by kernel_rfl) (by kernel_rfl) (fun _ _ _ h => h) (Or.inl ⟨by rfl, ?_⟩) (by assumption) ?_
  rotate_left
  · ((intro w hSw; (try dsimp only at hSw); go_simp) <;> (try with_reducible rfl))
  show wpAnyH _ _ _ _ _ _ _ (Act.put _ (some 18) _) _
  simp only [Act.put, List.setIfInBounds_toArray, List.set_cons_succ, List.set_cons_zero]
  refine wpAnyH_take (i := 4) (oi := _) (v := ?_) rfl (by kernel_rfl) (by kernel_rfl) (by kernel_rfl) (fun _ _ _ h => h) (Or.inl ⟨by rfl, ?_⟩) (by assumption) ?_
  rotate_left
  · ((intro w hSw; (try dsimp only at hSw); go_simp) <;> (try with_reducible rfl))
  show wpAnyH _ _ _ _ _ _ _ (Act.put _ (some 20) _) _
  simp only [Act.put, List.setIfInBounds_toArray, List.set_cons_succ, List.set_cons_zero]
  refine wpAnyH_take (i := 5) (oi := _) (v := ?_) rfl (by kernel_rfl) (by kernel_rfl) (by kernel_rfl) (fun _ _ _ h => h) (Or.inl ⟨by rfl, ?_⟩) (by assumption) ?_
  rotate_left
  · ((intro w hSw; (try dsimp only at hSw); go_simp) <;> (try with_reducible rfl))
  show wpAnyH _ _ _ _ _ _ _ (Act.put _ (some 21) _) _
  simp only [Act.put, List.setIfInBounds_toArray, List.set_cons_succ, List.set_cons_zero]
  refine wpAnyH_take (i := 6) (oi := _) (v := ?_) rfl (by kernel_rfl) (by kernel_rfl) (by kernel_rfl) (fun _ _ _ h => h) (Or.inl ⟨by rfl, ?_⟩) (by assumption) ?_
  rotate_left
  · ((intro w hSw; (try dsimp only at hSw); go_simp) <;> (try with_reducible rfl))
  show wpAnyH _ _ _ _ _ _ _ (Act.put _ (some 22) _) _
  simp only [Act.put, List.setIfInBounds_toArray, List.set_cons_succ, List.set_cons_zero]
  refine wpAnyH_inv (fun L ac w => ∃ (p8 p9 v19 v23 : Value) (q8 q9 : Nat), ac = { tmps := #[.agg #[.int .i64 (k : Int), .slice a es.length cap], .int .i64 i, .agg #[.int .u64 (x.1 : Int), .int .u64 (x.2 : Int)], .pointer (some ⟨W.heap.size, 0, none⟩), undef, .pointer (some ⟨W.heap.size + 1, 0, none⟩), .bool false, .pointer (some ⟨p, 0, none⟩), p8, p9, undef, .agg #[.int .i64 (k : Int), .slice a es.length cap], .pointer (some ⟨p, 0, none⟩), .pointer (some ⟨p, 0, none⟩), .bool false, undef, .pointer (some ⟨p, 0, none⟩), .int .i64 i, .agg #[.int .u64 (x.1 : Int), .int .u64 (x.2 : Int)], v19, .pointer (some ⟨p, 0, none⟩), .int .i64 i, .agg #[.int .u64 (x.1 : Int), .int .u64 (x.2 : Int)], v23, undef, undef, undef, undef, undef, undef, undef, undef, undef, undef, undef, undef, undef, undef, undef, undef, undef, undef, undef, undef, undef, undef, undef, undef, undef, undef, undef, undef, undef, undef, undef, undef, undef, undef, undef, undef, undef, undef, undef, undef, undef, undef, undef, undef, undef, undef, undef, undef, undef, undef, undef, undef, undef, undef, undef, undef, undef, undef, undef, undef, undef, undef, undef, undef, undef, undef, undef, undef, undef, undef], defers := [] } ∧ Hid (([0, 1, 2, 4, 5, 6].all fun i => L i) = true ∧ (L 3 = true → v19 = .agg #[.int .u64 (A.1 : Int), .int .u64 (A.2 : Int)]) ∧ (L 7 = true → v23 = .agg #[.int .u64 (B.1 : Int), .int .u64 (B.2 : Int)]) ∧ (Vas N0 w L [⟨8, 10, q8, p8, A⟩, ⟨9, 11, q9, p9, B⟩]) ∧ (Below N0 w3 w))) (by kernel_rfl) ?hIS ?step ?done _ _ _ _ (by rfl) (by decide) ?init
  case hIS =>
    rintro L ac w ⟨_, _, _, _, _, _, rfl, hI⟩
    obtain ⟨hP, h3, h7, hV, hB⟩ := hI.out
    exact EE4 _ (hN ▸ hB)
  case init =>
    exact ⟨undef, undef, undef, undef, 0, 0, rfl, by rfl, fun h => absurd h (by decide), fun h => absurd h (by decide), Vas.start (by simp), hN ▸ (Below.refl w3.heap.size w3).drew⟩
  case step =>
    rintro L ac w ⟨p8, p9, v19, v23, q8, q9, rfl, hI⟩
    refine (EachAt.cons (fun h _ => absurd (all_at hI.out.1 0 (by decide)) (by rw [show L 0 = false from h]; decide)) (EachAt.cons (fun h _ => absurd (all_at hI.out.1 1 (by decide)) (by rw [show L 1 = false from h]; decide)) (EachAt.cons (fun h _ => absurd (all_at hI.out.1 2 (by decide)) (by rw [show L 2 = false from h]; decide)) (EachAt.cons ?s3 (EachAt.cons (fun h _ => absurd (all_at hI.out.1 4 (by decide)) (by rw [show L 4 = false from h]; decide)) (EachAt.cons (fun h _ => absurd (all_at hI.out.1 5 (by decide)) (by rw [show L 5 = false from h]; decide)) (EachAt.cons (fun h _ => absurd (all_at hI.out.1 6 (by decide)) (by rw [show L 6 = false from h]; decide)) (EachAt.cons ?s7 (EachAt.cons ?s8 (EachAt.cons ?s9 (EachAt.cons ?s10 (EachAt.cons ?s11 EachAt.nil))))))))))))
    case s3 =>
      intro hl hw
      have D := waits hw
      replace hl : L 3 = false := hl
      clear hw
      refine wpOp_shut (o := _) rfl (fun KK hKK => ?_)
      obtain ⟨hP, h3, h7, hV, hB⟩ := hI.out
      have hz : N0 ≤ w.heap.size := hN ▸ hB.size
      clear D hl
      go_simp
      (go_at_call 22; refine (HVx.out _ (hN ▸ hB)).mono ?_; rintro e w9 ⟨rfl, hb⟩)
      exact hKK.out _ _ ⟨p8, p9, _, v23, q8, q9, rfl, all_setL 3 hP, fun _ => rfl, setL_un (show 7 ≠ 3 by decide) h7, (hV.below hb).step (by simp [nums]), hB.trans (hb.mono hz)⟩
    case s7 =>
      intro hl hw
      have D := waits hw
      replace hl : L 7 = false := hl
      clear hw
      refine wpOp_shut (o := _) rfl (fun KK hKK => ?_)
      obtain ⟨hP, h3, h7, hV, hB⟩ := hI.out
      have hz : N0 ≤ w.heap.size := hN ▸ hB.size
      clear D hl
      go_simp
      (go_at_call 23; refine (HVy.out _ (hN ▸ hB)).mono ?_; rintro e w9 ⟨rfl, hb⟩)
      exact hKK.out _ _ ⟨p8, p9, v19, _, q8, q9, rfl, all_setL 7 hP, setL_un (show 3 ≠ 7 by decide) h3, fun _ => rfl, (hV.below hb).step (by simp [nums]), hB.trans (hb.mono hz)⟩
    case s8 =>
      intro hl hw
      have D := waits hw
      replace hl : L 8 = false := hl
      clear hw
      refine wpOp_shut (o := _) rfl (fun KK hKK => ?_)
      obtain ⟨hP, h3, h7, hV, hB⟩ := hI.out
      have hz : N0 ≤ w.heap.size := hN ▸ hB.size
      clear D
      go_simp
      exact hKK.out _ _ ⟨_, p9, v19, v23, _, q9, rfl, all_setL 8 hP, setL_un (show 3 ≠ 8 by decide) h3, setL_un (show 7 ≠ 8 by decide) h7, Vas.laid (l1 := []) (l2 := [⟨9, 11, q9, p9, B⟩]) hV hl hz (by simp [nums]), hB.alloc hz _⟩
    case s9 =>
      intro hl hw
      have D := waits hw
      replace hl : L 9 = false := hl
      clear hw
      refine wpOp_shut (o := _) rfl (fun KK hKK => ?_)
      obtain ⟨hP, h3, h7, hV, hB⟩ := hI.out
      have hz : N0 ≤ w.heap.size := hN ▸ hB.size
      clear D
      go_simp
      exact hKK.out _ _ ⟨p8, _, v19, v23, q8, _, rfl, all_setL 9 hP, setL_un (show 3 ≠ 9 by decide) h3, setL_un (show 7 ≠ 9 by decide) h7, Vas.laid (l1 := [⟨8, 10, q8, p8, A⟩]) (l2 := []) hV hl hz (by simp [nums]), hB.alloc hz _⟩
    case s10 =>
      intro hl hw
      have D := waits hw
      replace hl : L 10 = false := hl
      clear hw
      refine wpOp_shut (o := _) rfl (fun KK hKK => ?_)
      obtain ⟨hP, h3, h7, hV, hB⟩ := hI.out
      have hz : N0 ≤ w.heap.size := hN ▸ hB.size
      have e9 : p8 = .pointer (some ⟨q8, 0, none⟩) := (hV.ok ⟨8, 10, q8, p8, A⟩ (by simp)).ptr (D 8 (by decide))
      obtain rfl := h3 (D 3 (by decide))
      subst e9
      obtain ⟨c, hE, _⟩ := (hV.ok ⟨8, 10, q8, .pointer (some ⟨q8, 0, none⟩), A⟩ (by simp)).room (D 8 (by decide))
      have hlow : N0 ≤ q8 := (hV.ok ⟨8, 10, q8, .pointer (some ⟨q8, 0, none⟩), A⟩ (by simp)).low (D 8 (by decide))
      obtain ⟨⟨e1, e0⟩, f1, f0⟩ := hE
      dsimp only at e1 e0 f1 f0
      have D8 := D 8 (by decide)
      have D9 := D 9 (by decide)
      clear D hl
      go_simp
      exact hKK.out _ _ ⟨_, p9, _, v23, q8, q9, rfl, all_setL 10 hP, setL_un (show 3 ≠ 10 by decide) h3, setL_un (show 7 ≠ 10 by decide) h7, Vas.fill (l1 := []) (l2 := [⟨9, 11, q9, p9, B⟩]) (x := ⟨8, 10, q8, .pointer (some ⟨q8, 0, none⟩), A⟩) hV D8 (fun y hy => by simp at hy; subst hy; assumption) (by simp [nums]), (hB.setCell hlow _).setCell hlow _⟩
    case s11 =>
      intro hl hw
      have D := waits hw
      replace hl : L 11 = false := hl
      clear hw
      refine wpOp_shut (o := _) rfl (fun KK hKK => ?_)
      obtain ⟨hP, h3, h7, hV, hB⟩ := hI.out
      have hz : N0 ≤ w.heap.size := hN ▸ hB.size
      have e9 : p9 = .pointer (some ⟨q9, 0, none⟩) := (hV.ok ⟨9, 11, q9, p9, B⟩ (by simp)).ptr (D 9 (by decide))
      obtain rfl := h7 (D 7 (by decide))
      subst e9
      obtain ⟨c, hE, _⟩ := (hV.ok ⟨9, 11, q9, .pointer (some ⟨q9, 0, none⟩), B⟩ (by simp)).room (D 9 (by decide))
      have hlow : N0 ≤ q9 := (hV.ok ⟨9, 11, q9, .pointer (some ⟨q9, 0, none⟩), B⟩ (by simp)).low (D 9 (by decide))
      obtain ⟨⟨e1, e0⟩, f1, f0⟩ := hE
      dsimp only at e1 e0 f1 f0
      have D8 := D 8 (by decide)
      have D9 := D 9 (by decide)
      clear D hl
      go_simp
      exact hKK.out _ _ ⟨p8, _, v19, _, q8, q9, rfl, all_setL 11 hP, setL_un (show 3 ≠ 11 by decide) h3, setL_un (show 7 ≠ 11 by decide) h7, Vas.fill (l1 := [⟨8, 10, q8, p8, A⟩]) (l2 := []) (x := ⟨9, 11, q9, .pointer (some ⟨q9, 0, none⟩), B⟩) hV D9 (fun y hy => by simp at hy; subst hy; assumption) (by simp [nums]), (hB.setCell hlow _).setCell hlow _⟩
  case done =>
    rintro L ac w ⟨p8, p9, v19, v23, q8, q9, rfl, hI⟩ hAll
    obtain ⟨hP, h3, h7, hV, hB⟩ := hI.out
    clear hI hP
    have ep8 : p8 = .pointer (some ⟨q8, 0, none⟩) := (hV.ok ⟨8, 10, q8, p8, A⟩ (by simp)).ptr (hAll 8 (by decide))
    have Eq8 : El w q8 A.1 A.2 := (hV.ok ⟨8, 10, q8, p8, A⟩ (by simp)).el (hAll 10 (by decide))
    have ep9 : p9 = .pointer (some ⟨q9, 0, none⟩) := (hV.ok ⟨9, 11, q9, p9, B⟩ (by simp)).ptr (hAll 9 (by decide))
    have Eq9 : El w q9 B.1 B.2 := (hV.ok ⟨9, 11, q9, p9, B⟩ (by simp)).el (hAll 11 (by decide))
    obtain rfl := h3 (hAll 3 (by decide))
    obtain rfl := h7 (hAll 7 (by decide))
    subst ep8
    subst ep9
    clear h3 h7 hV hAll hHeld
    refine NoPanic.normal ?_
    have K4 : Hid (Ym W w k es ts p a' aT aB c cT cB (.slice a es.length cap) x ∧ El w q8 A.1 A.2 ∧ El w q9 B.1 B.2) := ⟨K3.out.below (hN ▸ hB), Eq8, Eq9⟩
    obtain ⟨wm, hwm⟩ : ∃ wm, wm = w := ⟨_, rfl⟩
    subst hwm
    have HNo0 : Hid (∀ (i : Int) (z : Nat × Nat), lt2 z → ∀ w, Below wm.heap.size wm w → Calls Try.prog 23 #[.pointer (some ⟨p, 0, none⟩), .int .i64 i, .agg #[.int .u64 (z.1 : Int), .int .u64 (z.2 : Int)]] w fun e w' => e = .returned (.agg #[.int .u64 ((snn k es i z).1 : Int), .int .u64 ((snn k es i z).2 : Int)]) ∧ Below w.heap.size w w') := fun i z lz w hb => snorm_any (K4.out.1.s.below hb) U1.out i z lz
    clear EE4 Eq8 Eq9 hB HVx HVy K3
    by_cases hb1 : hsv k es.length i x = false
    · obtain rfl : A = (0, 0) := HAA.out.trans (svv_none hb1).1
      obtain rfl : B = (0, 0) := HBB.out.trans (svv_none hb1).2
      clear HAA HBB HNo0 HRf
      cases ho : ofB (k : Int) (x.1 : Int) (x.2 : Int)
      · rw [ho] at HX
        clear hb1 ho
        have EE : ∀ w, Below wm.heap.size wm w → w.cell? ⟨W.heap.size + 1, 0, none⟩ = some (.int .u64 (x.1 : Int)) ∧ w.cell? ⟨W.heap.size + 1, 1, none⟩ = some (.int .u64 (x.2 : Int)) ∧ w.cell? ⟨W.heap.size, 0, none⟩ = some (.int .i64 (k : Int)) ∧ w.cell? ⟨W.heap.size, 1, none⟩ = some (.slice a es.length cap) ∧ w.cell? ⟨q8, 0, none⟩ = some (.int .u64 0) ∧ w.cell? ⟨q8, 1, none⟩ = some (.int .u64 0) ∧ w.cell? ⟨q9, 0, none⟩ = some (.int .u64 0) ∧ w.cell? ⟨q9, 1, none⟩ = some (.int .u64 0) := fun w hb => ⟨keepc hb K4.out.1.b.x1, keepc hb K4.out.1.b.x0, keepc hb K4.out.1.b.s0, keepc hb K4.out.1.b.s1, keepc hb K4.out.2.1.hi, keepc hb K4.out.2.1.lo, keepc hb K4.out.2.2.hi, keepc hb K4.out.2.2.lo⟩
        have K : Hid (Below wm.heap.size wm wm) := Below.refl _ _
        obtain ⟨x1, x0, s0, s1, u1, u0, t1, t0⟩ := EE _ K.out
        go_wp2_with (first | (go_at_call 16; refine (HX.out.go _).mono ?_; rintro e w9 ⟨rfl, hb⟩; have K'' : Hid (Below wm.heap.size wm w9) := K.out.trans (hb.mono K.out.size); clear K hb x1 x0 s0 s1 u1 u0 t1 t0; have K := K''; clear K''; obtain ⟨x1, x0, s0, s1, u1, u0, t1, t0⟩ := EE _ K.out) | (go_at_call 9; refine (HA.out.go _).mono ?_; rintro e w9 ⟨rfl, hb⟩; have K'' : Hid (Below wm.heap.size wm w9) := K.out.trans (hb.mono K.out.size); clear K hb x1 x0 s0 s1 u1 u0 t1 t0; have K := K''; clear K''; obtain ⟨x1, x0, s0, s1, u1, u0, t1, t0⟩ := EE _ K.out))
        go_ret
        exact ⟨by rfl, K4.out.1.b.d.trans (K.out.mono K4.out.1.b.d.size)⟩
      · rw [ho] at HX
        by_cases hi0 : i < 0
        · clear hb1 ho
          have EE : ∀ w, Below wm.heap.size wm w → w.cell? ⟨W.heap.size + 1, 0, none⟩ = some (.int .u64 (x.1 : Int)) ∧ w.cell? ⟨W.heap.size + 1, 1, none⟩ = some (.int .u64 (x.2 : Int)) ∧ w.cell? ⟨W.heap.size, 0, none⟩ = some (.int .i64 (k : Int)) ∧ w.cell? ⟨W.heap.size, 1, none⟩ = some (.slice a es.length cap) ∧ w.cell? ⟨q8, 0, none⟩ = some (.int .u64 0) ∧ w.cell? ⟨q8, 1, none⟩ = some (.int .u64 0) ∧ w.cell? ⟨q9, 0, none⟩ = some (.int .u64 0) ∧ w.cell? ⟨q9, 1, none⟩ = some (.int .u64 0) := fun w hb => ⟨keepc hb K4.out.1.b.x1, keepc hb K4.out.1.b.x0, keepc hb K4.out.1.b.s0, keepc hb K4.out.1.b.s1, keepc hb K4.out.2.1.hi, keepc hb K4.out.2.1.lo, keepc hb K4.out.2.2.hi, keepc hb K4.out.2.2.lo⟩
          have K : Hid (Below wm.heap.size wm wm) := Below.refl _ _
          obtain ⟨x1, x0, s0, s1, u1, u0, t1, t0⟩ := EE _ K.out
          go_wp2_with (first | (go_at_call 16; refine (HX.out.go _).mono ?_; rintro e w9 ⟨rfl, hb⟩; have K'' : Hid (Below wm.heap.size wm w9) := K.out.trans (hb.mono K.out.size); clear K hb x1 x0 s0 s1 u1 u0 t1 t0; have K := K''; clear K''; obtain ⟨x1, x0, s0, s1, u1, u0, t1, t0⟩ := EE _ K.out) | (go_at_call 9; refine (HA.out.go _).mono ?_; rintro e w9 ⟨rfl, hb⟩; have K'' : Hid (Below wm.heap.size wm w9) := K.out.trans (hb.mono K.out.size); clear K hb x1 x0 s0 s1 u1 u0 t1 t0; have K := K''; clear K''; obtain ⟨x1, x0, s0, s1, u1, u0, t1, t0⟩ := EE _ K.out))
          go_ret
          exact ⟨by rfl, K4.out.1.b.d.trans (K.out.mono K4.out.1.b.d.size)⟩
        · have hi1 : (es.length : Int) < i := by
            refine Decidable.byContradiction fun hn => ?_
            unfold hsv at hb1
            rw [ho, decide_eq_true (by omega), decide_eq_true (by omega)] at hb1
            cases hb1
          clear hb1 ho
          have EE : ∀ w, Below wm.heap.size wm w → w.cell? ⟨W.heap.size + 1, 0, none⟩ = some (.int .u64 (x.1 : Int)) ∧ w.cell? ⟨W.heap.size + 1, 1, none⟩ = some (.int .u64 (x.2 : Int)) ∧ w.cell? ⟨W.heap.size, 0, none⟩ = some (.int .i64 (k : Int)) ∧ w.cell? ⟨W.heap.size, 1, none⟩ = some (.slice a es.length cap) ∧ w.cell? ⟨q8, 0, none⟩ = some (.int .u64 0) ∧ w.cell? ⟨q8, 1, none⟩ = some (.int .u64 0) ∧ w.cell? ⟨q9, 0, none⟩ = some (.int .u64 0) ∧ w.cell? ⟨q9, 1, none⟩ = some (.int .u64 0) := fun w hb => ⟨keepc hb K4.out.1.b.x1, keepc hb K4.out.1.b.x0, keepc hb K4.out.1.b.s0, keepc hb K4.out.1.b.s1, keepc hb K4.out.2.1.hi, keepc hb K4.out.2.1.lo, keepc hb K4.out.2.2.hi, keepc hb K4.out.2.2.lo⟩
          have K : Hid (Below wm.heap.size wm wm) := Below.refl _ _
          obtain ⟨x1, x0, s0, s1, u1, u0, t1, t0⟩ := EE _ K.out
          go_wp2_with (first | (go_at_call 16; refine (HX.out.go _).mono ?_; rintro e w9 ⟨rfl, hb⟩; have K'' : Hid (Below wm.heap.size wm w9) := K.out.trans (hb.mono K.out.size); clear K hb x1 x0 s0 s1 u1 u0 t1 t0; have K := K''; clear K''; obtain ⟨x1, x0, s0, s1, u1, u0, t1, t0⟩ := EE _ K.out) | (go_at_call 9; refine (HA.out.go _).mono ?_; rintro e w9 ⟨rfl, hb⟩; have K'' : Hid (Below wm.heap.size wm w9) := K.out.trans (hb.mono K.out.size); clear K hb x1 x0 s0 s1 u1 u0 t1 t0; have K := K''; clear K''; obtain ⟨x1, x0, s0, s1, u1, u0, t1, t0⟩ := EE _ K.out))
          go_ret
          exact ⟨by rfl, K4.out.1.b.d.trans (K.out.mono K4.out.1.b.d.size)⟩
    · obtain ⟨j, rfl, hj, ox⟩ := hsv_true (by simpa using hb1)
      rw [show ofB (k : Int) (x.1 : Int) (x.2 : Int) = true from ox] at HX
      have hi0 : ¬ (j : Int) < 0 := by omega
      have hi1 : ¬ (es.length : Int) < (j : Int) := by omega
      rw [svv_at hj ox] at HAA
      have HVr : Hid (∀ ar cr w, ERow w ar es → Calls Try.prog 24 #[.slice ar es.length cr, .int .i64 (j : Int), .agg #[.int .u64 (x.1 : Int), .int .u64 (x.2 : Int)]] w fun e w' => e = .returned (.agg #[.int .u64 (A.1 : Int), .int .u64 (A.2 : Int)]) ∧ Below w.heap.size w w') := fun ar cr w hr => by
        rw [HAA.out]; exact rvalue05 ar cr j es U1.out.lt hj (by omega) x lx w hr
      clear hb1
      by_cases hl : j = es.length
      · subst hl
        obtain rfl : B = (0, 0) := by rw [HBB.out]; exact snn_last
        clear HAA HBB HNo0
        have EE : ∀ w, Below wm.heap.size wm w → w.cell? ⟨W.heap.size + 1, 0, none⟩ = some (.int .u64 (x.1 : Int)) ∧ w.cell? ⟨W.heap.size + 1, 1, none⟩ = some (.int .u64 (x.2 : Int)) ∧ w.cell? ⟨W.heap.size, 0, none⟩ = some (.int .i64 (k : Int)) ∧ w.cell? ⟨W.heap.size, 1, none⟩ = some (.slice a es.length cap) ∧ w.cell? ⟨q8, 0, none⟩ = some (.int .u64 (A.1 : Int)) ∧ w.cell? ⟨q8, 1, none⟩ = some (.int .u64 (A.2 : Int)) ∧ w.cell? ⟨q9, 0, none⟩ = some (.int .u64 0) ∧ w.cell? ⟨q9, 1, none⟩ = some (.int .u64 0) := fun w hb => ⟨keepc hb K4.out.1.b.x1, keepc hb K4.out.1.b.x0, keepc hb K4.out.1.b.s0, keepc hb K4.out.1.b.s1, keepc hb K4.out.2.1.hi, keepc hb K4.out.2.1.lo, keepc hb K4.out.2.2.hi, keepc hb K4.out.2.2.lo⟩
        have K : Hid (Below wm.heap.size wm wm) := Below.refl _ _
        obtain ⟨x1, x0, s0, s1, u1, u0, t1, t0⟩ := EE _ K.out
        go_upto_region 8 with (first | (go_at_call 16; refine (HX.out.go _).mono ?_; rintro e w9 ⟨rfl, hb⟩; have K'' : Hid (Below wm.heap.size wm w9) := K.out.trans (hb.mono K.out.size); clear K hb x1 x0 s0 s1 u1 u0 t1 t0; have K := K''; clear K''; obtain ⟨x1, x0, s0, s1, u1, u0, t1, t0⟩ := EE _ K.out) | (go_at_call 12; refine (HRf.out _ (K4.out.1.b.d.trans (K.out.mono K4.out.1.b.d.size))).mono ?_; rintro e w9 ⟨ar, cr, rfl, hrr, hb⟩; have K'' : Hid (Below wm.heap.size wm w9) := K.out.trans (hb.mono K.out.size); have R9 := hidT hrr; obtain ⟨w9', hw9⟩ : ∃ w9', w9' = w9 := ⟨_, rfl⟩; clear hrr; clear K hb x1 x0 s0 s1 u1 u0 t1 t0; have K := K''; clear K''; obtain ⟨x1, x0, s0, s1, u1, u0, t1, t0⟩ := EE _ K.out))
        refine wp_region_noPanic ?_
        refine wp_region_held_drew (S := fun w => w.cell? ⟨W.heap.size + 1, 0, none⟩ = some (.int .u64 (x.1 : Int)) ∧ w.cell? ⟨W.heap.size + 1, 1, none⟩ = some (.int .u64 (x.2 : Int)) ∧ w.cell? ⟨W.heap.size, 0, none⟩ = some (.int .i64 (k : Int)) ∧ w.cell? ⟨W.heap.size, 1, none⟩ = some (.slice a es.length cap) ∧ w.cell? ⟨q8, 0, none⟩ = some (.int .u64 (A.1 : Int)) ∧ w.cell? ⟨q8, 1, none⟩ = some (.int .u64 (A.2 : Int)) ∧ w.cell? ⟨q9, 0, none⟩ = some (.int .u64 0) ∧ w.cell? ⟨q9, 1, none⟩ = some (.int .u64 0)) (by kernel_rfl) (EE _ K.out.drew) (fun hHeld => ?_)
        refine wpAnyH_take (i := 0) (oi := _) (v := ?_) rfl (by kernel_rfl) (by kernel_rfl) (by kernel_rfl) (fun _ _ _ h => h) (Or.inl ⟨by rfl, ?_⟩) (by assumption) ?_
        rotate_left
        · ((intro w hSw; (try dsimp only at hSw); go_simp) <;> (try with_reducible rfl))
        show wpAnyH _ _ _ _ _ _ _ (Act.put _ (some 54) _) _
        simp only [Act.put, List.setIfInBounds_toArray, List.set_cons_succ, List.set_cons_zero]
        refine wpAnyH_take (i := 1) (oi := _) (v := ?_) rfl (by kernel_rfl) (by kernel_rfl) (by kernel_rfl) (fun _ _ _ h => h) (Or.inl ⟨by rfl, ?_⟩) (by assumption) ?_
        rotate_left
        · ((intro w hSw; (try dsimp only at hSw); go_simp) <;> (try with_reducible rfl))
        show wpAnyH _ _ _ _ _ _ _ (Act.put _ (some 55) _) _
        simp only [Act.put, List.setIfInBounds_toArray, List.set_cons_succ, List.set_cons_zero]
        refine wpAnyH_take (i := 2) (oi := _) (v := ?_) rfl (by kernel_rfl) (by kernel_rfl) (by kernel_rfl) (fun _ _ _ h => h) (Or.inl ⟨by rfl, ?_⟩) (by assumption) ?_
        rotate_left
        · ((intro w hSw; (try dsimp only at hSw); go_simp) <;> (try with_reducible rfl))
        show wpAnyH _ _ _ _ _ _ _ (Act.put _ (some 56) _) _
        simp only [Act.put, List.setIfInBounds_toArray, List.set_cons_succ, List.set_cons_zero]
        refine wpAnyH_take (i := 3) (oi := _) (v := ?_) rfl (by kernel_rfl) (by kernel_rfl) (by kernel_rfl) (fun _ _ _ h => h) (Or.inl ⟨by rfl, ?_⟩) (by assumption) ?_
        rotate_left
        · ((intro w hSw; (try dsimp only at hSw); go_simp) <;> (try with_reducible rfl))
        show wpAnyH _ _ _ _ _ _ _ (Act.put _ (some 57) _) _
        simp only [Act.put, List.setIfInBounds_toArray, List.set_cons_succ, List.set_cons_zero]
        refine wpAnyH_ready (rs := [4]) (by kernel_rfl) (by simp) ?_
        refine AllReadyH.cons (o := _) rfl (fun KK hKK => ?_) AllReadyH.nil
        go_simp
        (go_at_call 24; refine (HVr.out _ _ _ (R9.out.below (by first | exact Below.refl _ _ | exact (Below.refl _ _).drew))).mono ?_; rintro e w9 ⟨rfl, hb⟩)
        have R9' := hidT ((R9.out.below (by first | exact Below.refl _ _ | exact (Below.refl _ _).drew)).below hb)
        clear R9
        have R9 := R9'
        clear R9'
        have K'' : Hid (Below wm.heap.size wm w9) := (by first | exact K.out.trans (hb.mono K.out.size) | exact K.out.drew.trans (hb.mono K.out.drew.size))
        clear K hb
        have K := K''
        clear K''
        refine hKK.out _ _ ?_ (fun hHeld => ?_)
        · exact EE _ K.out
        clear hKK KK
        try simp only [Act.put]
        refine wpAnyH_take (i := 5) (oi := _) (v := ?_) rfl (by kernel_rfl) (by kernel_rfl) (by kernel_rfl) (fun _ _ _ h => h) (Or.inl ⟨by rfl, ?_⟩) (by assumption) ?_
        rotate_left
        · ((intro w hSw; (try dsimp only at hSw); go_simp) <;> (try with_reducible rfl))
        show wpAnyH _ _ _ _ _ _ _ (Act.put _ (some 59) _) _
        simp only [Act.put, List.setIfInBounds_toArray, List.set_cons_succ, List.set_cons_zero]
        refine wpAnyH_done (by kernel_rfl) ?_ _
        refine NoPanic.normal ?_
        have K9 := hidT K.out
        obtain ⟨x1, x0, s0, s1, u1, u0, t1, t0⟩ := EE _ K9.out
        clear K
        have K := K9
        clear K9
        go_wp2_with (go_at_call 9; refine (HA.out.go _).mono ?_; rintro e w9 ⟨rfl, hb⟩; have K'' : Hid (Below wm.heap.size wm w9) := K.out.trans (hb.mono K.out.size); clear K hb x1 x0 s0 s1 u1 u0 t1 t0; have K := K''; clear K''; obtain ⟨x1, x0, s0, s1, u1, u0, t1, t0⟩ := EE _ K.out)
        go_ret
        exact ⟨by rfl, K4.out.1.b.d.trans (K.out.mono K4.out.1.b.d.size)⟩
      · have hz : ¬ (j : Int) = (es.length : Int) := by omega
        have hjl : j < es.length := by omega
        have HNr : Hid (∀ ar cr w, ERow w ar es → Calls Try.prog 25 #[.int .i64 (k : Int), .slice ar es.length cr, .int .i64 (j : Int), .agg #[.int .u64 (x.1 : Int), .int .u64 (x.2 : Int)]] w fun e w' => e = .returned (.agg #[.int .u64 (B.1 : Int), .int .u64 (B.2 : Int)]) ∧ Below w.heap.size w w') := fun ar cr w hr => by
          have := rnorm05 (k : Int) ar cr j es U1.out.lt hjl (by omega) x lx w hr
          rw [HBB.out, snn_at hk U1.out.lt U1.out.of hjl lx ox]
          exact this
        obtain ⟨g, off, rfl, _, y1', y0'⟩ := HR.out.cells j hjl
        have HY1 : Hid (W.cell? ⟨g, off + j * 2, none⟩ = some (.int .u64 ((el es j).1 : Int)) ∧ W.cell? ⟨g, off + j * 2 + 1, none⟩ = some (.int .u64 ((el es j).2 : Int))) := ⟨y1', y0'⟩
        have HNo : Hid (∀ w, Below wm.heap.size wm w → Calls Try.prog 23 #[.pointer (some ⟨p, 0, none⟩), .int .i64 (j : Int), .agg #[.int .u64 ((el es j).1 : Int), .int .u64 ((el es j).2 : Int)]] w fun e w' => e = .returned (.agg #[.int .u64 0, .int .u64 1]) ∧ Below w.heap.size w w') := fun w hb => by
          have := HNo0.out (j : Int) (el es j) (ltE_el U1.out.lt j) w hb
          rw [snn_one hk U1.out.lt U1.out.of U1.out.free hjl] at this
          exact this
        have j1 : (j : Int) < (es.length : Int) := by omega
        have j0 : (0 : Int) ≤ (j : Int) := by omega
        clear y1' y0' HNo0 HAA HBB hl hj hjl
        generalize el es j = y at *
        have EE : ∀ w, Below wm.heap.size wm w → w.cell? ⟨W.heap.size + 1, 0, none⟩ = some (.int .u64 (x.1 : Int)) ∧ w.cell? ⟨W.heap.size + 1, 1, none⟩ = some (.int .u64 (x.2 : Int)) ∧ w.cell? ⟨W.heap.size, 0, none⟩ = some (.int .i64 (k : Int)) ∧ w.cell? ⟨W.heap.size, 1, none⟩ = some (.slice (some ⟨g, off, none⟩) es.length cap) ∧ w.cell? ⟨q8, 0, none⟩ = some (.int .u64 (A.1 : Int)) ∧ w.cell? ⟨q8, 1, none⟩ = some (.int .u64 (A.2 : Int)) ∧ w.cell? ⟨q9, 0, none⟩ = some (.int .u64 (B.1 : Int)) ∧ w.cell? ⟨q9, 1, none⟩ = some (.int .u64 (B.2 : Int)) := fun w hb => ⟨keepc hb K4.out.1.b.x1, keepc hb K4.out.1.b.x0, keepc hb K4.out.1.b.s0, keepc hb K4.out.1.b.s1, keepc hb K4.out.2.1.hi, keepc hb K4.out.2.1.lo, keepc hb K4.out.2.2.hi, keepc hb K4.out.2.2.lo⟩
        have K : Hid (Below wm.heap.size wm wm) := Below.refl _ _
        obtain ⟨x1, x0, s0, s1, u1, u0, t1, t0⟩ := EE _ K.out
        go_upto_region 8 with (first | (go_at_call 16; refine (HX.out.go _).mono ?_; rintro e w9 ⟨rfl, hb⟩; have K'' : Hid (Below wm.heap.size wm w9) := K.out.trans (hb.mono K.out.size); clear K hb x1 x0 s0 s1 u1 u0 t1 t0; have K := K''; clear K''; obtain ⟨x1, x0, s0, s1, u1, u0, t1, t0⟩ := EE _ K.out) | (go_at_call 12; refine (HRf.out _ (K4.out.1.b.d.trans (K.out.mono K4.out.1.b.d.size))).mono ?_; rintro e w9 ⟨ar, cr, rfl, hrr, hb⟩; have K'' : Hid (Below wm.heap.size wm w9) := K.out.trans (hb.mono K.out.size); have R9 := hidT hrr; obtain ⟨w9', hw9⟩ : ∃ w9', w9' = w9 := ⟨_, rfl⟩; clear hrr; clear K hb x1 x0 s0 s1 u1 u0 t1 t0; have K := K''; clear K''; obtain ⟨x1, x0, s0, s1, u1, u0, t1, t0⟩ := EE _ K.out))
        refine wp_region_noPanic ?_
        refine wp_region_held_drew (S := fun w => w.cell? ⟨W.heap.size + 1, 0, none⟩ = some (.int .u64 (x.1 : Int)) ∧ w.cell? ⟨W.heap.size + 1, 1, none⟩ = some (.int .u64 (x.2 : Int)) ∧ w.cell? ⟨W.heap.size, 0, none⟩ = some (.int .i64 (k : Int)) ∧ w.cell? ⟨W.heap.size, 1, none⟩ = some (.slice (some ⟨g, off, none⟩) es.length cap) ∧ w.cell? ⟨q8, 0, none⟩ = some (.int .u64 (A.1 : Int)) ∧ w.cell? ⟨q8, 1, none⟩ = some (.int .u64 (A.2 : Int)) ∧ w.cell? ⟨q9, 0, none⟩ = some (.int .u64 (B.1 : Int)) ∧ w.cell? ⟨q9, 1, none⟩ = some (.int .u64 (B.2 : Int))) (by kernel_rfl) (EE _ K.out.drew) (fun hHeld => ?_)
        refine wpAnyH_take (i := 0) (oi := _) (v := ?_) rfl (by kernel_rfl) (by kernel_rfl) (by kernel_rfl) (fun _ _ _ h => h) (Or.inl ⟨by rfl, ?_⟩) (by assumption) ?_
        rotate_left
        · ((intro w hSw; (try dsimp only at hSw); go_simp) <;> (try with_reducible rfl))
        show wpAnyH _ _ _ _ _ _ _ (Act.put _ (some 54) _) _
        simp only [Act.put, List.setIfInBounds_toArray, List.set_cons_succ, List.set_cons_zero]
        refine wpAnyH_take (i := 1) (oi := _) (v := ?_) rfl (by kernel_rfl) (by kernel_rfl) (by kernel_rfl) (fun _ _ _ h => h) (Or.inl ⟨by rfl, ?_⟩) (by assumption) ?_
        rotate_left
        · ((intro w hSw; (try dsimp only at hSw); go_simp) <;> (try with_reducible rfl))
        show wpAnyH _ _ _ _ _ _ _ (Act.put _ (some 55) _) _
        simp only [Act.put, List.setIfInBounds_toArray, List.set_cons_succ, List.set_cons_zero]
        refine wpAnyH_take (i := 2) (oi := _) (v := ?_) rfl (by kernel_rfl) (by kernel_rfl) (by kernel_rfl) (fun _ _ _ h => h) (Or.inl ⟨by rfl, ?_⟩) (by assumption) ?_
        rotate_left
        · ((intro w hSw; (try dsimp only at hSw); go_simp) <;> (try with_reducible rfl))
        show wpAnyH _ _ _ _ _ _ _ (Act.put _ (some 56) _) _
        simp only [Act.put, List.setIfInBounds_toArray, List.set_cons_succ, List.set_cons_zero]
        refine wpAnyH_take (i := 3) (oi := _) (v := ?_) rfl (by kernel_rfl) (by kernel_rfl) (by kernel_rfl) (fun _ _ _ h => h) (Or.inl ⟨by rfl, ?_⟩) (by assumption) ?_
        rotate_left
        · ((intro w hSw; (try dsimp only at hSw); go_simp) <;> (try with_reducible rfl))
        show wpAnyH _ _ _ _ _ _ _ (Act.put _ (some 57) _) _
        simp only [Act.put, List.setIfInBounds_toArray, List.set_cons_succ, List.set_cons_zero]
        refine wpAnyH_ready (rs := [4]) (by kernel_rfl) (by simp) ?_
        refine AllReadyH.cons (o := _) rfl (fun KK hKK => ?_) AllReadyH.nil
        go_simp
        (go_at_call 24; refine (HVr.out _ _ _ (R9.out.below (by first | exact Below.refl _ _ | exact (Below.refl _ _).drew))).mono ?_; rintro e w9 ⟨rfl, hb⟩)
        have R9' := hidT ((R9.out.below (by first | exact Below.refl _ _ | exact (Below.refl _ _).drew)).below hb)
        clear R9
        have R9 := R9'
        clear R9'
        have K'' : Hid (Below wm.heap.size wm w9) := (by first | exact K.out.trans (hb.mono K.out.size) | exact K.out.drew.trans (hb.mono K.out.drew.size))
        clear K hb
        have K := K''
        clear K''
        refine hKK.out _ _ ?_ (fun hHeld => ?_)
        · exact EE _ K.out
        clear hKK KK
        try simp only [Act.put]
        refine wpAnyH_take (i := 5) (oi := _) (v := ?_) rfl (by kernel_rfl) (by kernel_rfl) (by kernel_rfl) (fun _ _ _ h => h) (Or.inl ⟨by rfl, ?_⟩) (by assumption) ?_
        rotate_left
        · ((intro w hSw; (try dsimp only at hSw); go_simp) <;> (try with_reducible rfl))
        show wpAnyH _ _ _ _ _ _ _ (Act.put _ (some 59) _) _
        simp only [Act.put, List.setIfInBounds_toArray, List.set_cons_succ, List.set_cons_zero]
        refine wpAnyH_done (by kernel_rfl) ?_ _
        refine NoPanic.normal ?_
        have K9 := hidT K.out
        obtain ⟨x1, x0, s0, s1, u1, u0, t1, t0⟩ := EE _ K9.out
        clear K
        have K := K9
        clear K9
        have E2 : ∀ w, Below wm.heap.size wm w → w.cell? ⟨W.heap.size + 1, 0, none⟩ = some (.int .u64 (x.1 : Int)) ∧ w.cell? ⟨W.heap.size + 1, 1, none⟩ = some (.int .u64 (x.2 : Int)) ∧ w.cell? ⟨W.heap.size, 0, none⟩ = some (.int .i64 (k : Int)) ∧ w.cell? ⟨W.heap.size, 1, none⟩ = some (.slice (some ⟨g, off, none⟩) es.length cap) ∧ w.cell? ⟨q8, 0, none⟩ = some (.int .u64 (A.1 : Int)) ∧ w.cell? ⟨q8, 1, none⟩ = some (.int .u64 (A.2 : Int)) ∧ w.cell? ⟨q9, 0, none⟩ = some (.int .u64 (B.1 : Int)) ∧ w.cell? ⟨q9, 1, none⟩ = some (.int .u64 (B.2 : Int)) ∧ w.cell? ⟨g, off + j * 2, none⟩ = some (.int .u64 (y.1 : Int)) ∧ w.cell? ⟨g, off + j * 2 + 1, none⟩ = some (.int .u64 (y.2 : Int)) := fun w hb => by
          obtain ⟨g1, g2, g3, g4, g5, g6, g7, g8⟩ := EE w hb
          exact ⟨g1, g2, g3, g4, g5, g6, g7, g8, keepc (K4.out.1.b.d.trans (hb.mono K4.out.1.b.d.size)) HY1.out.1, keepc (K4.out.1.b.d.trans (hb.mono K4.out.1.b.d.size)) HY1.out.2⟩
        go_upto_region 12 with fail
        refine wp_region_noPanic ?_
        refine wp_region_held_drew (S := fun w => w.cell? ⟨W.heap.size + 1, 0, none⟩ = some (.int .u64 (x.1 : Int)) ∧ w.cell? ⟨W.heap.size + 1, 1, none⟩ = some (.int .u64 (x.2 : Int)) ∧ w.cell? ⟨W.heap.size, 0, none⟩ = some (.int .i64 (k : Int)) ∧ w.cell? ⟨W.heap.size, 1, none⟩ = some (.slice (some ⟨g, off, none⟩) es.length cap) ∧ w.cell? ⟨q8, 0, none⟩ = some (.int .u64 (A.1 : Int)) ∧ w.cell? ⟨q8, 1, none⟩ = some (.int .u64 (A.2 : Int)) ∧ w.cell? ⟨q9, 0, none⟩ = some (.int .u64 (B.1 : Int)) ∧ w.cell? ⟨q9, 1, none⟩ = some (.int .u64 (B.2 : Int)) ∧ w.cell? ⟨g, off + j * 2, none⟩ = some (.int .u64 (y.1 : Int)) ∧ w.cell? ⟨g, off + j * 2 + 1, none⟩ = some (.int .u64 (y.2 : Int))) (by kernel_rfl) (E2 _ K.out.drew) (fun hHeld => ?_)
        refine wpAnyH_ready (rs := [0]) (by kernel_rfl) (by simp) ?_
        refine AllReadyH.cons (o := _) rfl (fun KK hKK => ?_) AllReadyH.nil
        go_simp
        (go_at_call 9; refine (HA.out.go _).mono ?_; rintro e w9 ⟨rfl, hb⟩)
        have R9' := hidT ((R9.out.below (by first | exact Below.refl _ _ | exact (Below.refl _ _).drew)).below hb)
        clear R9
        have R9 := R9'
        clear R9'
        have K'' : Hid (Below wm.heap.size wm w9) := (by first | exact K.out.trans (hb.mono K.out.size) | exact K.out.drew.trans (hb.mono K.out.drew.size))
        clear K hb
        have K := K''
        clear K''
        refine hKK.out _ _ ?_ (fun hHeld => ?_)
        · exact E2 _ K.out
        clear hKK KK
        try simp only [Act.put]
        refine wpAnyH_take (i := 1) (oi := _) (v := ?_) rfl (by kernel_rfl) (by kernel_rfl) (by kernel_rfl) (fun _ _ _ h => h) (Or.inl ⟨by rfl, ?_⟩) (by assumption) ?_
        rotate_left
        · ((intro w hSw; (try dsimp only at hSw); go_simp) <;> (try with_reducible rfl))
        show wpAnyH _ _ _ _ _ _ _ (Act.put _ (some 72) _) _
        simp only [Act.put, List.setIfInBounds_toArray, List.set_cons_succ, List.set_cons_zero]
        refine wpAnyH_take (i := 2) (oi := _) (v := ?_) rfl (by kernel_rfl) (by kernel_rfl) (by kernel_rfl) (fun _ _ _ h => h) (Or.inl ⟨by rfl, ?_⟩) (by assumption) ?_
        rotate_left
        · ((intro w hSw; (try dsimp only at hSw); go_simp) <;> (try with_reducible rfl))
        show wpAnyH _ _ _ _ _ _ _ (Act.put _ (some 73) _) _
        simp only [Act.put, List.setIfInBounds_toArray, List.set_cons_succ, List.set_cons_zero]
        refine wpAnyH_take (i := 3) (oi := _) (v := ?_) rfl (by kernel_rfl) (by kernel_rfl) (by kernel_rfl) (fun _ _ _ h => h) (Or.inl ⟨by rfl, ?_⟩) (by assumption) ?_
        rotate_left
        · ((intro w hSw; (try dsimp only at hSw); go_simp) <;> (try with_reducible rfl))
        show wpAnyH _ _ _ _ _ _ _ (Act.put _ (some 74) _) _
        simp only [Act.put, List.setIfInBounds_toArray, List.set_cons_succ, List.set_cons_zero]
        refine wpAnyH_take (i := 4) (oi := _) (v := ?_) rfl (by kernel_rfl) (by kernel_rfl) (by kernel_rfl) (fun _ _ _ h => h) (Or.inl ⟨by rfl, ?_⟩) (by assumption) ?_
        rotate_left
        · ((intro w hSw; (try dsimp only at hSw); go_simp) <;> (try with_reducible rfl))
        show wpAnyH _ _ _ _ _ _ _ (Act.put _ (some 75) _) _
        simp only [Act.put, List.setIfInBounds_toArray, List.set_cons_succ, List.set_cons_zero]
        refine wpAnyH_take (i := 5) (oi := _) (v := ?_) rfl (by kernel_rfl) (by kernel_rfl) (by kernel_rfl) (fun _ _ _ h => h) (Or.inl ⟨by rfl, ?_⟩) (by assumption) ?_
        rotate_left
        · ((intro w hSw; (try dsimp only at hSw); go_simp) <;> (try with_reducible rfl))
        show wpAnyH _ _ _ _ _ _ _ (Act.put _ (some 76) _) _
        simp only [Act.put, List.setIfInBounds_toArray, List.set_cons_succ, List.set_cons_zero]
        refine wpAnyH_take (i := 6) (oi := _) (v := ?_) rfl (by kernel_rfl) (by kernel_rfl) (by kernel_rfl) (fun _ _ _ h => h) (Or.inl ⟨by rfl, ?_⟩) (by assumption) ?_
        rotate_left
        · ((intro w hSw; (try dsimp only at hSw); go_simp) <;> (try with_reducible rfl))
        show wpAnyH _ _ _ _ _ _ _ (Act.put _ (some 77) _) _
        simp only [Act.put, List.setIfInBounds_toArray, List.set_cons_succ, List.set_cons_zero]
        refine wpAnyH_take (i := 7) (oi := _) (v := ?_) rfl (by kernel_rfl) (by kernel_rfl) (by kernel_rfl) (fun _ _ _ h => h) (Or.inl ⟨by rfl, ?_⟩) (by assumption) ?_
        rotate_left
        · ((intro w hSw; (try dsimp only at hSw); go_simp) <;> (try with_reducible rfl))
        show wpAnyH _ _ _ _ _ _ _ (Act.put _ (some 78) _) _
        simp only [Act.put, List.setIfInBounds_toArray, List.set_cons_succ, List.set_cons_zero]
        refine wpAnyH_ready (rs := [8]) (by kernel_rfl) (by simp) ?_
        refine AllReadyH.cons (o := _) rfl (fun KK hKK => ?_) AllReadyH.nil
        go_simp
        (go_at_call 25; refine (HNr.out _ _ _ (R9.out.below (by first | exact Below.refl _ _ | exact (Below.refl _ _).drew))).mono ?_; rintro e w9 ⟨rfl, hb⟩)
        have K'' : Hid (Below wm.heap.size wm w9) := (by first | exact K.out.trans (hb.mono K.out.size) | exact K.out.drew.trans (hb.mono K.out.drew.size))
        clear K hb
        have K := K''
        clear K''
        refine hKK.out _ _ ?_ (fun hHeld => ?_)
        · exact E2 _ K.out
        clear hKK KK
        try simp only [Act.put]
        refine wpAnyH_take (i := 9) (oi := _) (v := ?_) rfl (by kernel_rfl) (by kernel_rfl) (by kernel_rfl) (fun _ _ _ h => h) (Or.inl ⟨by rfl, ?_⟩) (by assumption) ?_
        rotate_left
        · ((intro w hSw; (try dsimp only at hSw); go_simp) <;> (try with_reducible rfl))
        show wpAnyH _ _ _ _ _ _ _ (Act.put _ (some 80) _) _
        simp only [Act.put, List.setIfInBounds_toArray, List.set_cons_succ, List.set_cons_zero]
        refine wpAnyH_take (i := 10) (oi := _) (v := ?_) rfl (by kernel_rfl) (by kernel_rfl) (by kernel_rfl) (fun _ _ _ h => h) (Or.inl ⟨by rfl, ?_⟩) (by assumption) ?_
        rotate_left
        · ((intro w hSw; (try dsimp only at hSw); go_simp) <;> (try with_reducible rfl))
        show wpAnyH _ _ _ _ _ _ _ (Act.put _ (some 81) _) _
        simp only [Act.put, List.setIfInBounds_toArray, List.set_cons_succ, List.set_cons_zero]
        refine wpAnyH_take (i := 11) (oi := _) (v := ?_) rfl (by kernel_rfl) (by kernel_rfl) (by kernel_rfl) (fun _ _ _ h => h) (Or.inl ⟨by rfl, ?_⟩) (by assumption) ?_
        rotate_left
        · ((intro w hSw; (try dsimp only at hSw); go_simp) <;> (try with_reducible rfl))
        show wpAnyH _ _ _ _ _ _ _ (Act.put _ (some 82) _) _
        simp only [Act.put, List.setIfInBounds_toArray, List.set_cons_succ, List.set_cons_zero]
        refine wpAnyH_take (i := 12) (oi := _) (v := ?_) rfl (by kernel_rfl) (by kernel_rfl) (by kernel_rfl) (fun _ _ _ h => h) (Or.inl ⟨by rfl, ?_⟩) (by assumption) ?_
        rotate_left
        · ((intro w hSw; (try dsimp only at hSw); go_simp) <;> (try with_reducible rfl))
        show wpAnyH _ _ _ _ _ _ _ (Act.put _ (some 83) _) _
        simp only [Act.put, List.setIfInBounds_toArray, List.set_cons_succ, List.set_cons_zero]
        refine wpAnyH_take (i := 13) (oi := _) (v := ?_) rfl (by kernel_rfl) (by kernel_rfl) (by kernel_rfl) (fun _ _ _ h => h) (Or.inl ⟨by rfl, ?_⟩) (by assumption) ?_
        rotate_left
        · ((intro w hSw; (try dsimp only at hSw); go_simp) <;> (try with_reducible rfl))
        show wpAnyH _ _ _ _ _ _ _ (Act.put _ (some 84) _) _
        simp only [Act.put, List.setIfInBounds_toArray, List.set_cons_succ, List.set_cons_zero]
        refine wpAnyH_take (i := 14) (oi := _) (v := ?_) rfl (by kernel_rfl) (by kernel_rfl) (by kernel_rfl) (fun _ _ _ h => h) (Or.inl ⟨by rfl, ?_⟩) (by assumption) ?_
        rotate_left
        · ((intro w hSw; (try dsimp only at hSw); go_simp) <;> (try with_reducible rfl))
        show wpAnyH _ _ _ _ _ _ _ (Act.put _ (some 85) _) _
        simp only [Act.put, List.setIfInBounds_toArray, List.set_cons_succ, List.set_cons_zero]
        refine wpAnyH_take (i := 15) (oi := _) (v := ?_) rfl (by kernel_rfl) (by kernel_rfl) (by kernel_rfl) (fun _ _ _ h => h) (Or.inl ⟨by rfl, ?_⟩) (by assumption) ?_
        rotate_left
        · ((intro w hSw; (try dsimp only at hSw); go_simp) <;> (try with_reducible rfl))
        show wpAnyH _ _ _ _ _ _ _ (Act.put _ (some 86) _) _
        simp only [Act.put, List.setIfInBounds_toArray, List.set_cons_succ, List.set_cons_zero]
        refine wpAnyH_take (i := 16) (oi := _) (v := ?_) rfl (by kernel_rfl) (by kernel_rfl) (by kernel_rfl) (fun _ _ _ h => h) (Or.inl ⟨by rfl, ?_⟩) (by assumption) ?_
        rotate_left
        · ((intro w hSw; (try dsimp only at hSw); go_simp) <;> (try with_reducible rfl))
        show wpAnyH _ _ _ _ _ _ _ (Act.put _ (some 87) _) _
        simp only [Act.put, List.setIfInBounds_toArray, List.set_cons_succ, List.set_cons_zero]
        refine wpAnyH_take (i := 17) (oi := _) (v := ?_) rfl (by kernel_rfl) (by kernel_rfl) (by kernel_rfl) (fun _ _ _ h => h) (Or.inl ⟨by rfl, ?_⟩) (by assumption) ?_
        rotate_left
        · ((intro w hSw; (try dsimp only at hSw); go_simp) <;> (try with_reducible rfl))
        show wpAnyH _ _ _ _ _ _ _ (Act.put _ (some 88) _) _
        simp only [Act.put, List.setIfInBounds_toArray, List.set_cons_succ, List.set_cons_zero]
        refine wpAnyH_take (i := 18) (oi := _) (v := ?_) rfl (by kernel_rfl) (by kernel_rfl) (by kernel_rfl) (fun _ _ _ h => h) (Or.inl ⟨by rfl, ?_⟩) (by assumption) ?_
        rotate_left
        · ((intro w hSw; (try dsimp only at hSw); go_simp) <;> (try with_reducible rfl))
        show wpAnyH _ _ _ _ _ _ _ (Act.put _ (some 89) _) _
        simp only [Act.put, List.setIfInBounds_toArray, List.set_cons_succ, List.set_cons_zero]
        refine wpAnyH_ready (rs := [19]) (by kernel_rfl) (by simp) ?_
        refine AllReadyH.cons (o := _) rfl (fun KK hKK => ?_) AllReadyH.nil
        go_simp
        (go_at_call 23; refine (HNo.out _ (by first | exact K.out | exact K.out.drew)).mono ?_; rintro e w9 ⟨rfl, hb⟩)
        have K'' : Hid (Below wm.heap.size wm w9) := (by first | exact K.out.trans (hb.mono K.out.size) | exact K.out.drew.trans (hb.mono K.out.drew.size))
        clear K hb
        have K := K''
        clear K''
        refine hKK.out _ _ ?_ (fun hHeld => ?_)
        · exact E2 _ K.out
        clear hKK KK
        try simp only [Act.put]
        refine wpAnyH_ready (rs := [20]) (by kernel_rfl) (by simp) ?_
        refine AllReadyH.cons (o := _) rfl (fun KK hKK => ?_) AllReadyH.nil
        go_simp
        (go_at_call 26; refine (HO.out _).mono ?_; rintro e w9 ⟨rfl, hb⟩)
        have K'' : Hid (Below wm.heap.size wm w9) := (by first | exact K.out.trans (hb.mono K.out.size) | exact K.out.drew.trans (hb.mono K.out.drew.size))
        clear K hb
        have K := K''
        clear K''
        refine hKK.out _ _ ?_ (fun hHeld => ?_)
        · exact E2 _ K.out
        clear hKK KK
        try simp only [Act.put]
        refine wpAnyH_take (i := 21) (oi := _) (v := ?_) rfl (by kernel_rfl) (by kernel_rfl) (by kernel_rfl) (fun _ _ _ h => h) (Or.inl ⟨by rfl, ?_⟩) (by assumption) ?_
        rotate_left
        · ((intro w hSw; (try dsimp only at hSw); go_simp) <;> (try with_reducible rfl))
        show wpAnyH _ _ _ _ _ _ _ (Act.put _ (some 92) _) _
        simp only [Act.put, List.setIfInBounds_toArray, List.set_cons_succ, List.set_cons_zero]
        refine wpAnyH_take (i := 22) (oi := _) (v := ?_) rfl (by kernel_rfl) (by kernel_rfl) (by kernel_rfl) (fun _ _ _ h => h) (Or.inl ⟨by rfl, ?_⟩) (by assumption) ?_
        rotate_left
        · ((intro w hSw; (try dsimp only at hSw); go_simp) <;> (try with_reducible rfl))
        show wpAnyH _ _ _ _ _ _ _ (Act.put _ (some 93) _) _
        simp only [Act.put, List.setIfInBounds_toArray, List.set_cons_succ, List.set_cons_zero]
        refine wpAnyH_take (i := 23) (oi := _) (v := ?_) rfl (by kernel_rfl) (by kernel_rfl) (by kernel_rfl) (fun _ _ _ h => h) (Or.inl ⟨by rfl, ?_⟩) (by assumption) ?_
        rotate_left
        · ((intro w hSw; (try dsimp only at hSw); go_simp) <;> (try with_reducible rfl))
        show wpAnyH _ _ _ _ _ _ _ (Act.put _ (some 6) _) _
        simp only [Act.put, List.setIfInBounds_toArray, List.set_cons_succ, List.set_cons_zero]
        refine wpAnyH_done (by kernel_rfl) ?_ _
        refine NoPanic.normal ?_
        go_wp2
        go_ret
        exact ⟨by rfl, K4.out.1.b.d.trans (K.out.mono K4.out.1.b.d.size)⟩
theorem lv_any (l : Int) (a : Option Addr) (cap : Nat) (es : List (Nat × Nat)) (hes : ltE es) (ha : a = none → es.length = 0 ∧ cap = 0) (i : Int) (x : Nat × Nat) (lx : lt2 x) (W : World) (hr : ERow W a es) :
    Calls Try.prog 4 #[.agg #[.int .i64 l, .slice a es.length cap], .int .i64 i, .agg #[.int .u64 (x.1 : Int), .int .u64 (x.2 : Int)]] W fun e w' => e = .returned (.bool true) ∧ Below W.heap.size W w' := by
  by_cases h : Ok5 l es
  · obtain ⟨k, hk, rfl, ot⟩ := h.lvl
    exact lv_main k hk a cap es hes ha i x lx h ot W hr
  · exact lv_none l a cap es hes i x h W hr
end Go.Proofs.Ytnecjkdlmecgdaa
