/- The walks of steeplelaw33.FrobTraces over the seat's translation. -/
import Derived.Test.YtakaconhoodigaaFrT
import Derived.Test.YtakaconhoodigaaFrQ
import Derived.Test.YtakaconhoodigaaFrG
import Derived.Test.YtakaconhoodigaaFrN
import Derived.Test.YtakaconhoodigaaIvB
import Derived.Test.YtakaconhoodigaaSmA
namespace Go.Proofs.Ytakaconhoodigaa
open Go.RowKit
open Cb
open Tw (pm)

/-- What the law has laid: the element, trace and norm, the row. -/
structure Kt (W w : World) (b7 q9 q10 : Nat) (a T U : Nat × Nat) (aa : Option Addr) (es : List (Nat × Nat)) : Prop where
  x : El w b7 a.1 a.2
  t : El w q9 T.1 T.2
  u : El w q10 U.1 U.2
  row : ERow w aa es
  d : Below W.heap.size W w
theorem Kt.below {W w w' : World} {b7 q9 q10 : Nat} {a T U : Nat × Nat} {aa : Option Addr} {es : List (Nat × Nat)} (h : Kt W w b7 q9 q10 a T U aa es) (hb : Below w.heap.size w w') : Kt W w' b7 q9 q10 a T U aa es := ⟨h.x.below hb, h.t.below hb, h.u.below hb, h.row.below hb, h.d.trans (hb.mono h.d.size)⟩
theorem Kt.drew {W w : World} {b7 q9 q10 : Nat} {a T U : Nat × Nat} {aa : Option Addr} {es : List (Nat × Nat)} (h : Kt W w b7 q9 q10 a T U aa es) : Kt W w.drew b7 q9 q10 a T U aa es := h.below (Below.refl _ _).drew
theorem Kt.facts {W w : World} {b7 q9 q10 : Nat} {a T U : Nat × Nat} {aa : Option Addr} {es : List (Nat × Nat)} (h : Kt W w b7 q9 q10 a T U aa es) : w.cell? ⟨b7, 0, none⟩ = some (.int .u64 (a.1 : Int)) ∧ w.cell? ⟨b7, 1, none⟩ = some (.int .u64 (a.2 : Int)) ∧ w.cell? ⟨q9, 0, none⟩ = some (.int .u64 (T.1 : Int)) ∧ w.cell? ⟨q9, 1, none⟩ = some (.int .u64 (T.2 : Int)) ∧ w.cell? ⟨q10, 0, none⟩ = some (.int .u64 (U.1 : Int)) ∧ w.cell? ⟨q10, 1, none⟩ = some (.int .u64 (U.2 : Int)) := ⟨h.x.hi, h.x.lo, h.t.hi, h.t.lo, h.u.hi, h.u.lo⟩
set_option maxHeartbeats 20000000 in
set_option maxRecDepth 100000 in
theorem fr_no (l t : Int) (a T U : Nat × Nat) (es : List (Nat × Nat)) (HC : Hid (∀ W, Calls Try.prog 17 #[.int .i64 l, .int .i64 t, .agg #[.int .u64 (a.1 : Int), .int .u64 (a.2 : Int)]] W fun e w' => ∃ v, e = .returned v ∧ w'.ownsRow W.heap.size 24 2 v es.length (flat es) ∧ Below W.heap.size W w'))
    (HT : Hid (Ret 18 #[.int .i64 l, .int .i64 t, .agg #[.int .u64 (a.1 : Int), .int .u64 (a.2 : Int)]] (.agg #[.int .u64 (T.1 : Int), .int .u64 (T.2 : Int)]))) (HN : Hid (Ret 19 #[.int .i64 l, .int .i64 t, .agg #[.int .u64 (a.1 : Int), .int .u64 (a.2 : Int)]] (.agg #[.int .u64 (U.1 : Int), .int .u64 (U.2 : Int)])))
    (HF : Hid (Ret 20 #[.int .i64 l, .int .i64 t, .agg #[.int .u64 (a.1 : Int), .int .u64 (a.2 : Int)]] (.bool false))) (hT0 : Hid (T = (0, 0))) (hU0 : Hid (U = (0, 0))) (he : Hid (es = [])) : Ret 4 #[.int .i64 l, .int .i64 t, .agg #[.int .u64 (a.1 : Int), .int .u64 (a.2 : Int)]] (.bool true) := by
  intro W
  have HA := hidF awake33
  go_enter Try.func4, Try.ntmps4
  go_upto_region 2 with fail
  have E0 : El ((W.alloc (Obj.cells #[.int .u64 (a.1 : Int), .int .u64 (a.2 : Int)] 24)).alloc (Obj.cells #[.int .u64 (a.1 : Int), .int .u64 (a.2 : Int)] 25)) W.heap.size a.1 a.2 := ⟨by simp [go_sem], by simp [go_sem]⟩
  have E7 : El ((W.alloc (Obj.cells #[.int .u64 (a.1 : Int), .int .u64 (a.2 : Int)] 24)).alloc (Obj.cells #[.int .u64 (a.1 : Int), .int .u64 (a.2 : Int)] 25)) (W.heap.size + 1) a.1 a.2 := ⟨by simp [go_sem], by simp [go_sem]⟩
  have hW : Below W.heap.size W ((W.alloc (Obj.cells #[.int .u64 (a.1 : Int), .int .u64 (a.2 : Int)] 24)).alloc (Obj.cells #[.int .u64 (a.1 : Int), .int .u64 (a.2 : Int)] 25)) := by go_grown
  generalize ((W.alloc (Obj.cells #[.int .u64 (a.1 : Int), .int .u64 (a.2 : Int)] 24)).alloc (Obj.cells #[.int .u64 (a.1 : Int), .int .u64 (a.2 : Int)] 25)) = w0 at *
  obtain ⟨b0, hb0⟩ : ∃ b0, b0 = W.heap.size := ⟨_, rfl⟩
  obtain ⟨b7, hb7⟩ : ∃ b7, b7 = W.heap.size + 1 := ⟨_, rfl⟩
  rw [← hb7] at E7 ⊢
  rw [← hb0] at E0 ⊢
  clear hb0 hb7
  obtain ⟨N, hN⟩ : ∃ N, N = w0.heap.size := ⟨_, rfl⟩
  refine wp_region_noPanic ?_
  refine wp_region_held_drew (S := fun w => w.cell? ⟨b0, 0, none⟩ = some (.int .u64 (a.1 : Int)) ∧ w.cell? ⟨b0, 1, none⟩ = some (.int .u64 (a.2 : Int))) (by kernel_rfl) (⟨E0.drew.hi, E0.drew.lo⟩) (fun hHeld => ?_)
  refine wpAnyH_take (i := 0) (oi := _) (v := ?_) rfl (by kernel_rfl) (by kernel_rfl) (by kernel_rfl) (fun _ _ _ h => h) (Or.inl ⟨by rfl, ?_⟩) (by assumption) ?_
  rotate_left
  · ((intro w hSw; (try dsimp only at hSw); go_simp) <;> (try with_reducible rfl))
  show wpAnyH _ _ _ _ _ _ _ (Act.put _ (some 12) _) _
  simp only [Act.put, List.setIfInBounds_toArray, List.set_cons_succ, List.set_cons_zero]
  refine wpAnyH_take (i := 1) (oi := _) (v := ?_) rfl (by kernel_rfl) (by kernel_rfl) (by kernel_rfl) (fun _ _ _ h => h) (Or.inl ⟨by rfl, ?_⟩) (by assumption) ?_
  rotate_left
  · ((intro w hSw; (try dsimp only at hSw); go_simp) <;> (try with_reducible rfl))
  show wpAnyH _ _ _ _ _ _ _ (Act.put _ (some 13) _) _
  simp only [Act.put, List.setIfInBounds_toArray, List.set_cons_succ, List.set_cons_zero]
  refine wpAnyH_take (i := 2) (oi := _) (v := ?_) rfl (by kernel_rfl) (by kernel_rfl) (by kernel_rfl) (fun _ _ _ h => h) (Or.inl ⟨by rfl, ?_⟩) (by assumption) ?_
  rotate_left
  · ((intro w hSw; (try dsimp only at hSw); go_simp) <;> (try with_reducible rfl))
  show wpAnyH _ _ _ _ _ _ _ (Act.put _ (some 14) _) _
  simp only [Act.put, List.setIfInBounds_toArray, List.set_cons_succ, List.set_cons_zero]
  refine wpAnyH_take (i := 4) (oi := _) (v := ?_) rfl (by kernel_rfl) (by kernel_rfl) (by kernel_rfl) (fun _ _ _ h => h) (Or.inl ⟨by rfl, ?_⟩) (by assumption) ?_
  rotate_left
  · ((intro w hSw; (try dsimp only at hSw); go_simp) <;> (try with_reducible rfl))
  show wpAnyH _ _ _ _ _ _ _ (Act.put _ (some 16) _) _
  simp only [Act.put, List.setIfInBounds_toArray, List.set_cons_succ, List.set_cons_zero]
  refine wpAnyH_take (i := 5) (oi := _) (v := ?_) rfl (by kernel_rfl) (by kernel_rfl) (by kernel_rfl) (fun _ _ _ h => h) (Or.inl ⟨by rfl, ?_⟩) (by assumption) ?_
  rotate_left
  · ((intro w hSw; (try dsimp only at hSw); go_simp) <;> (try with_reducible rfl))
  show wpAnyH _ _ _ _ _ _ _ (Act.put _ (some 17) _) _
  simp only [Act.put, List.setIfInBounds_toArray, List.set_cons_succ, List.set_cons_zero]
  refine wpAnyH_take (i := 6) (oi := _) (v := ?_) rfl (by kernel_rfl) (by kernel_rfl) (by kernel_rfl) (fun _ _ _ h => h) (Or.inl ⟨by rfl, ?_⟩) (by assumption) ?_
  rotate_left
  · ((intro w hSw; (try dsimp only at hSw); go_simp) <;> (try with_reducible rfl))
  show wpAnyH _ _ _ _ _ _ _ (Act.put _ (some 18) _) _
  simp only [Act.put, List.setIfInBounds_toArray, List.set_cons_succ, List.set_cons_zero]
  refine wpAnyH_take (i := 8) (oi := _) (v := ?_) rfl (by kernel_rfl) (by kernel_rfl) (by kernel_rfl) (fun _ _ _ h => h) (Or.inl ⟨by rfl, ?_⟩) (by assumption) ?_
  rotate_left
  · ((intro w hSw; (try dsimp only at hSw); go_simp) <;> (try with_reducible rfl))
  show wpAnyH _ _ _ _ _ _ _ (Act.put _ (some 20) _) _
  simp only [Act.put, List.setIfInBounds_toArray, List.set_cons_succ, List.set_cons_zero]
  refine wpAnyH_take (i := 9) (oi := _) (v := ?_) rfl (by kernel_rfl) (by kernel_rfl) (by kernel_rfl) (fun _ _ _ h => h) (Or.inl ⟨by rfl, ?_⟩) (by assumption) ?_
  rotate_left
  · ((intro w hSw; (try dsimp only at hSw); go_simp) <;> (try with_reducible rfl))
  show wpAnyH _ _ _ _ _ _ _ (Act.put _ (some 21) _) _
  simp only [Act.put, List.setIfInBounds_toArray, List.set_cons_succ, List.set_cons_zero]
  refine wpAnyH_take (i := 10) (oi := _) (v := ?_) rfl (by kernel_rfl) (by kernel_rfl) (by kernel_rfl) (fun _ _ _ h => h) (Or.inl ⟨by rfl, ?_⟩) (by assumption) ?_
  rotate_left
  · ((intro w hSw; (try dsimp only at hSw); go_simp) <;> (try with_reducible rfl))
  show wpAnyH _ _ _ _ _ _ _ (Act.put _ (some 22) _) _
  simp only [Act.put, List.setIfInBounds_toArray, List.set_cons_succ, List.set_cons_zero]
  refine wpAnyH_inv (fun L ac w => ∃ (v8 p9 p10 v15 v19 v23 : Value) (q9 q10 : Nat), ac = { tmps := #[.int .i64 l, .int .i64 t, .agg #[.int .u64 (a.1 : Int), .int .u64 (a.2 : Int)], undef, undef, .pointer (some ⟨b0, 0, none⟩), .bool false, .pointer (some ⟨b7, 0, none⟩), v8, p9, p10, .agg #[.int .u64 (a.1 : Int), .int .u64 (a.2 : Int)], .int .i64 l, .int .i64 t, .agg #[.int .u64 (a.1 : Int), .int .u64 (a.2 : Int)], v15, .int .i64 l, .int .i64 t, .agg #[.int .u64 (a.1 : Int), .int .u64 (a.2 : Int)], v19, .int .i64 l, .int .i64 t, .agg #[.int .u64 (a.1 : Int), .int .u64 (a.2 : Int)], v23, undef, undef, undef, undef, undef, undef, undef, undef, undef, undef, undef, undef, undef, undef, undef, undef, undef, undef, undef, undef, undef, undef, undef, undef, undef, undef, undef, undef, undef, undef, undef, undef, undef, undef, undef, undef, undef, undef, undef, undef, undef, undef, undef, undef, undef, undef, undef, undef, undef, undef, undef, undef, undef, undef, undef, undef], defers := [] } ∧ Hid (([0, 1, 2, 4, 5, 6, 8, 9, 10].all fun i => L i) = true ∧ (L 7 = true → v19 = .agg #[.int .u64 (T.1 : Int), .int .u64 (T.2 : Int)]) ∧ (L 11 = true → v23 = .agg #[.int .u64 (U.1 : Int), .int .u64 (U.2 : Int)]) ∧ (L 14 = true → L 3 = true ∧ v8 = v15) ∧ (RoOk w L 3 v15 es [⟨12, 15, q9, p9, T⟩, ⟨13, 16, q10, p10, U⟩]) ∧ (Vas N w L [⟨12, 15, q9, p9, T⟩, ⟨13, 16, q10, p10, U⟩]) ∧ (Below N w0 w))) (by kernel_rfl) ?hIS ?step ?done _ _ _ _ (by rfl) (by decide) ?init
  case hIS =>
    rintro L ac w ⟨_, _, _, _, _, _, _, _, rfl, hI⟩
    obtain ⟨hP, hT, hU, h8, hR, hV, hB⟩ := hI.out
    exact ⟨(E0.below (hN ▸ hB)).hi, (E0.below (hN ▸ hB)).lo⟩
  case init =>
    exact ⟨undef, undef, undef, undef, undef, undef, 0, 0, rfl, by rfl, fun h => absurd h (by decide), fun h => absurd h (by decide), fun h => absurd h (by decide), RoOk.start (by rfl), Vas.start (by simp), hN ▸ (Below.refl w0.heap.size w0).drew⟩
  case step =>
    rintro L ac w ⟨v8, p9, p10, v15, v19, v23, q9, q10, rfl, hI⟩
    refine (EachAt.cons (fun h _ => absurd (all_at hI.out.1 0 (by decide)) (by rw [show L 0 = false from h]; decide)) (EachAt.cons (fun h _ => absurd (all_at hI.out.1 1 (by decide)) (by rw [show L 1 = false from h]; decide)) (EachAt.cons (fun h _ => absurd (all_at hI.out.1 2 (by decide)) (by rw [show L 2 = false from h]; decide)) (EachAt.cons ?s3 (EachAt.cons (fun h _ => absurd (all_at hI.out.1 4 (by decide)) (by rw [show L 4 = false from h]; decide)) (EachAt.cons (fun h _ => absurd (all_at hI.out.1 5 (by decide)) (by rw [show L 5 = false from h]; decide)) (EachAt.cons (fun h _ => absurd (all_at hI.out.1 6 (by decide)) (by rw [show L 6 = false from h]; decide)) (EachAt.cons ?s7 (EachAt.cons (fun h _ => absurd (all_at hI.out.1 8 (by decide)) (by rw [show L 8 = false from h]; decide)) (EachAt.cons (fun h _ => absurd (all_at hI.out.1 9 (by decide)) (by rw [show L 9 = false from h]; decide)) (EachAt.cons (fun h _ => absurd (all_at hI.out.1 10 (by decide)) (by rw [show L 10 = false from h]; decide)) (EachAt.cons ?s11 (EachAt.cons ?s12 (EachAt.cons ?s13 (EachAt.cons ?s14 (EachAt.cons ?s15 (EachAt.cons ?s16 EachAt.nil)))))))))))))))))
    case s3 =>
      intro hl hw
      have D := waits hw
      replace hl : L 3 = false := hl
      clear hw
      refine wpOp_shut (o := _) rfl (fun KK hKK => ?_)
      obtain ⟨hP, hT, hU, h8, hR, hV, hB⟩ := hI.out
      have hz : N ≤ w.heap.size := hN ▸ hB.size
      clear D
      go_simp
      (go_at_call 17; refine (HC.out _).mono ?_; rintro e w9 ⟨v, rfl, hown, hb⟩)
      exact hKK.out _ _ ⟨v8, p9, p10, v, v19, v23, q9, q10, rfl, all_setL 3 hP, setL_un (by decide) hT, setL_un (by decide) hU, (fun e => (by have h := (setL_un (show 14 ≠ 3 by decide) h8 e).1; rw [hl] at h; cases h)), RoOk.call hV (by simp [nums]) hown, (hV.below hb).step (by simp [nums]), hB.trans (hb.mono hz)⟩
    case s7 =>
      intro hl hw
      have D := waits hw
      replace hl : L 7 = false := hl
      clear hw
      refine wpOp_shut (o := _) rfl (fun KK hKK => ?_)
      obtain ⟨hP, hT, hU, h8, hR, hV, hB⟩ := hI.out
      have hz : N ≤ w.heap.size := hN ▸ hB.size
      clear D hl
      go_simp
      (go_at_call 18; refine (HT.out.go _).mono ?_; rintro e w9 ⟨rfl, hb⟩)
      exact hKK.out _ _ ⟨v8, p9, p10, v15, _, v23, q9, q10, rfl, all_setL 7 hP, fun _ => rfl, setL_un (by decide) hU, fun e => ⟨setL_true (setL_un (show 14 ≠ 7 by decide) h8 e).1, (setL_un (show 14 ≠ 7 by decide) h8 e).2⟩, (hR.below hb).step (by simp [nums]) (by decide), (hV.below hb).step (by simp [nums]), hB.trans (hb.mono hz)⟩
    case s11 =>
      intro hl hw
      have D := waits hw
      replace hl : L 11 = false := hl
      clear hw
      refine wpOp_shut (o := _) rfl (fun KK hKK => ?_)
      obtain ⟨hP, hT, hU, h8, hR, hV, hB⟩ := hI.out
      have hz : N ≤ w.heap.size := hN ▸ hB.size
      clear D hl
      go_simp
      (go_at_call 19; refine (HN.out.go _).mono ?_; rintro e w9 ⟨rfl, hb⟩)
      exact hKK.out _ _ ⟨v8, p9, p10, v15, v19, _, q9, q10, rfl, all_setL 11 hP, setL_un (by decide) hT, fun _ => rfl, fun e => ⟨setL_true (setL_un (show 14 ≠ 11 by decide) h8 e).1, (setL_un (show 14 ≠ 11 by decide) h8 e).2⟩, (hR.below hb).step (by simp [nums]) (by decide), (hV.below hb).step (by simp [nums]), hB.trans (hb.mono hz)⟩
    case s12 =>
      intro hl hw
      have D := waits hw
      replace hl : L 12 = false := hl
      clear hw
      refine wpOp_shut (o := _) rfl (fun KK hKK => ?_)
      obtain ⟨hP, hT, hU, h8, hR, hV, hB⟩ := hI.out
      have hz : N ≤ w.heap.size := hN ▸ hB.size
      clear D
      go_simp
      exact hKK.out _ _ ⟨v8, _, p10, v15, v19, v23, _, q10, rfl, all_setL 12 hP, setL_un (by decide) hT, setL_un (by decide) hU, fun e => ⟨setL_true (setL_un (show 14 ≠ 12 by decide) h8 e).1, (setL_un (show 14 ≠ 12 by decide) h8 e).2⟩, RoOk.laid (l1 := []) hR (show 12 ≠ 3 by decide) (by simp [nums]), Vas.laid (l1 := []) hV hl hz (by simp [nums]), hB.alloc hz _⟩
    case s13 =>
      intro hl hw
      have D := waits hw
      replace hl : L 13 = false := hl
      clear hw
      refine wpOp_shut (o := _) rfl (fun KK hKK => ?_)
      obtain ⟨hP, hT, hU, h8, hR, hV, hB⟩ := hI.out
      have hz : N ≤ w.heap.size := hN ▸ hB.size
      clear D
      go_simp
      exact hKK.out _ _ ⟨v8, p9, _, v15, v19, v23, q9, _, rfl, all_setL 13 hP, setL_un (by decide) hT, setL_un (by decide) hU, fun e => ⟨setL_true (setL_un (show 14 ≠ 13 by decide) h8 e).1, (setL_un (show 14 ≠ 13 by decide) h8 e).2⟩, RoOk.laid (l1 := [⟨12, 15, q9, p9, T⟩]) (l2 := []) hR (show 13 ≠ 3 by decide) (by simp [nums]), Vas.laid (l1 := [⟨12, 15, q9, p9, T⟩]) (l2 := []) hV hl hz (by simp [nums]), hB.alloc hz _⟩
    case s14 =>
      intro hl hw
      have D := waits hw
      replace hl : L 14 = false := hl
      clear hw
      refine wpOp_shut (o := _) rfl (fun KK hKK => ?_)
      obtain ⟨hP, hT, hU, h8, hR, hV, hB⟩ := hI.out
      have hz : N ≤ w.heap.size := hN ▸ hB.size
      have D3 := D 3 (by decide)
      clear D hl
      go_simp
      exact hKK.out _ _ ⟨_, p9, p10, v15, v19, v23, q9, q10, rfl, all_setL 14 hP, setL_un (by decide) hT, setL_un (by decide) hU, fun _ => ⟨setL_true D3, rfl⟩, hR.step (by simp [nums]) (by decide), hV.step (by simp [nums]), hB⟩
    case s15 =>
      intro hl hw
      have D := waits hw
      replace hl : L 15 = false := hl
      clear hw
      refine wpOp_shut (o := _) rfl (fun KK hKK => ?_)
      obtain ⟨hP, hT, hU, h8, hR, hV, hB⟩ := hI.out
      have hz : N ≤ w.heap.size := hN ▸ hB.size
      have e9 : p9 = .pointer (some ⟨q9, 0, none⟩) := (hV.ok ⟨12, 15, q9, p9, T⟩ (by simp)).ptr (D 12 (by decide))
      obtain rfl := hT (D 7 (by decide))
      subst e9
      obtain ⟨c, hE, _⟩ := (hV.ok ⟨12, 15, q9, .pointer (some ⟨q9, 0, none⟩), T⟩ (by simp)).room (D 12 (by decide))
      have hlow : N ≤ q9 := (hV.ok ⟨12, 15, q9, .pointer (some ⟨q9, 0, none⟩), T⟩ (by simp)).low (D 12 (by decide))
      obtain ⟨⟨e1, e0⟩, f1, f0⟩ := hE
      dsimp only at e1 e0 f1 f0
      have D12 := D 12 (by decide)
      have D13 := D 13 (by decide)
      clear D hl
      go_simp
      exact hKK.out _ _ ⟨v8, _, p10, v15, _, v23, q9, q10, rfl, all_setL 15 hP, setL_un (by decide) hT, setL_un (by decide) hU, fun e => ⟨setL_true (setL_un (show 14 ≠ 15 by decide) h8 e).1, (setL_un (show 14 ≠ 15 by decide) h8 e).2⟩, RoOk.fill (x := ⟨12, 15, q9, .pointer (some ⟨q9, 0, none⟩), T⟩) hR (by simp) D12 (show 15 ≠ 3 by decide) (by simp), Vas.fill (l1 := []) (x := ⟨12, 15, q9, .pointer (some ⟨q9, 0, none⟩), T⟩) hV D12 (by simpa using D13) (by simp [nums]), (hB.setCell hlow _).setCell hlow _⟩
    case s16 =>
      intro hl hw
      have D := waits hw
      replace hl : L 16 = false := hl
      clear hw
      refine wpOp_shut (o := _) rfl (fun KK hKK => ?_)
      obtain ⟨hP, hT, hU, h8, hR, hV, hB⟩ := hI.out
      have hz : N ≤ w.heap.size := hN ▸ hB.size
      have e10 : p10 = .pointer (some ⟨q10, 0, none⟩) := (hV.ok ⟨13, 16, q10, p10, U⟩ (by simp)).ptr (D 13 (by decide))
      obtain rfl := hU (D 11 (by decide))
      subst e10
      obtain ⟨c, hE, _⟩ := (hV.ok ⟨13, 16, q10, .pointer (some ⟨q10, 0, none⟩), U⟩ (by simp)).room (D 13 (by decide))
      have hlow : N ≤ q10 := (hV.ok ⟨13, 16, q10, .pointer (some ⟨q10, 0, none⟩), U⟩ (by simp)).low (D 13 (by decide))
      obtain ⟨⟨e1, e0⟩, f1, f0⟩ := hE
      dsimp only at e1 e0 f1 f0
      have D12 := D 12 (by decide)
      have D13 := D 13 (by decide)
      clear D hl
      go_simp
      exact hKK.out _ _ ⟨v8, p9, _, v15, v19, _, q9, q10, rfl, all_setL 16 hP, setL_un (by decide) hT, setL_un (by decide) hU, fun e => ⟨setL_true (setL_un (show 14 ≠ 16 by decide) h8 e).1, (setL_un (show 14 ≠ 16 by decide) h8 e).2⟩, RoOk.fill (x := ⟨13, 16, q10, .pointer (some ⟨q10, 0, none⟩), U⟩) hR (by simp) D13 (show 16 ≠ 3 by decide) (by simp), Vas.fill (l1 := [⟨12, 15, q9, p9, T⟩]) (l2 := []) (x := ⟨13, 16, q10, .pointer (some ⟨q10, 0, none⟩), U⟩) hV D13 (by simpa using D12) (by simp [nums]), (hB.setCell hlow _).setCell hlow _⟩
  case done =>
    rintro L ac w ⟨v8, p9, p10, v15, v19, v23, q9, q10, rfl, hI⟩ hAll
    obtain ⟨hP, hT, hU, h8, hR, hV, hB⟩ := hI.out
    clear hI hP
    have e9 : p9 = .pointer (some ⟨q9, 0, none⟩) := (hV.ok ⟨12, 15, q9, p9, T⟩ (by simp)).ptr (hAll 12 (by decide))
    have e10 : p10 = .pointer (some ⟨q10, 0, none⟩) := (hV.ok ⟨13, 16, q10, p10, U⟩ (by simp)).ptr (hAll 13 (by decide))
    have E9 : El w q9 T.1 T.2 := (hV.ok ⟨12, 15, q9, p9, T⟩ (by simp)).el (hAll 15 (by decide))
    have E10 : El w q10 U.1 U.2 := (hV.ok ⟨13, 16, q10, p10, U⟩ (by simp)).el (hAll 16 (by decide))
    obtain ⟨aa, cap, e15, hrow, _⟩ := hR.row (hAll 3 (by decide))
    have e8 := (h8 (hAll 14 (by decide))).2
    subst e15
    subst e8
    obtain rfl := hT (hAll 7 (by decide))
    obtain rfl := hU (hAll 11 (by decide))
    subst e9
    subst e10
    have K : Kt W w b7 q9 q10 a T U aa es := ⟨E7.below (hN ▸ hB), E9, E10, hrow, hW.trans (hB.mono (hN ▸ hW.size))⟩
    clear hT hU h8 hR hV hB E9 E10 hrow hAll hHeld E0 E7 hW HC HT HN
    refine NoPanic.normal ?_
    have F := K.facts
    obtain rfl := hT0.out
    obtain rfl := hU0.out
    obtain rfl := he.out
    go_wp2_with (first | (go_at_call 20; refine (HF.out.go _).mono ?_; rintro e w' ⟨rfl, hb'⟩; have K'' := Kt.below (w' := w') (by first | exact K | exact K.drew) hb'; clear F K hb'; have K := K''; clear K''; have F := K.facts) | (go_at_call 12; refine (HA.out.go _).mono ?_; rintro e w' ⟨rfl, hb'⟩; have K'' := Kt.below (w' := w') (by first | exact K | exact K.drew) hb'; clear F K hb'; have K := K''; clear K''; have F := K.facts))
    go_ret
    exact ⟨by rfl, K.d⟩
set_option maxHeartbeats 20000000 in
set_option maxRecDepth 100000 in
theorem fr_ok (l t : Int) (a T U : Nat × Nat) (es : List (Nat × Nat)) (hn : es.length ≤ 100000) (HC : Hid (∀ W, Calls Try.prog 17 #[.int .i64 l, .int .i64 t, .agg #[.int .u64 (a.1 : Int), .int .u64 (a.2 : Int)]] W fun e w' => ∃ v, e = .returned v ∧ w'.ownsRow W.heap.size 24 2 v es.length (flat es) ∧ Below W.heap.size W w'))
    (HT : Hid (Ret 18 #[.int .i64 l, .int .i64 t, .agg #[.int .u64 (a.1 : Int), .int .u64 (a.2 : Int)]] (.agg #[.int .u64 (T.1 : Int), .int .u64 (T.2 : Int)]))) (HN : Hid (Ret 19 #[.int .i64 l, .int .i64 t, .agg #[.int .u64 (a.1 : Int), .int .u64 (a.2 : Int)]] (.agg #[.int .u64 (U.1 : Int), .int .u64 (U.2 : Int)])))
    (HF : Hid (Ret 20 #[.int .i64 l, .int .i64 t, .agg #[.int .u64 (a.1 : Int), .int .u64 (a.2 : Int)]] (.bool true)))
    (HRC : Hid (∀ W, Calls Try.prog 22 #[.int .i64 l, .int .i64 t, .agg #[.int .u64 (a.1 : Int), .int .u64 (a.2 : Int)]] W fun e w' => ∃ v, e = .returned v ∧ w'.ownsRow W.heap.size 25 2 v es.length (flat es) ∧ Below W.heap.size W w'))
    (HRT : Hid (Ret 23 #[.int .i64 l, .int .i64 t, .agg #[.int .u64 (a.1 : Int), .int .u64 (a.2 : Int)]] (.agg #[.int .u64 (T.1 : Int), .int .u64 (T.2 : Int)]))) (HRN : Hid (Ret 24 #[.int .i64 l, .int .i64 t, .agg #[.int .u64 (a.1 : Int), .int .u64 (a.2 : Int)]] (.agg #[.int .u64 (U.1 : Int), .int .u64 (U.2 : Int)])))
    (HV1 : Hid (Ret 15 #[.int .i64 t, .agg #[.int .u64 (T.1 : Int), .int .u64 (T.2 : Int)]] (.bool true))) (HV2 : Hid (Ret 15 #[.int .i64 t, .agg #[.int .u64 (U.1 : Int), .int .u64 (U.2 : Int)]] (.bool true))) : Ret 4 #[.int .i64 l, .int .i64 t, .agg #[.int .u64 (a.1 : Int), .int .u64 (a.2 : Int)]] (.bool true) := by
  intro W
  have HA := hidF awake33
  go_enter Try.func4, Try.ntmps4
  go_upto_region 2 with fail
  have E0 : El ((W.alloc (Obj.cells #[.int .u64 (a.1 : Int), .int .u64 (a.2 : Int)] 24)).alloc (Obj.cells #[.int .u64 (a.1 : Int), .int .u64 (a.2 : Int)] 25)) W.heap.size a.1 a.2 := ⟨by simp [go_sem], by simp [go_sem]⟩
  have E7 : El ((W.alloc (Obj.cells #[.int .u64 (a.1 : Int), .int .u64 (a.2 : Int)] 24)).alloc (Obj.cells #[.int .u64 (a.1 : Int), .int .u64 (a.2 : Int)] 25)) (W.heap.size + 1) a.1 a.2 := ⟨by simp [go_sem], by simp [go_sem]⟩
  have hW : Below W.heap.size W ((W.alloc (Obj.cells #[.int .u64 (a.1 : Int), .int .u64 (a.2 : Int)] 24)).alloc (Obj.cells #[.int .u64 (a.1 : Int), .int .u64 (a.2 : Int)] 25)) := by go_grown
  generalize ((W.alloc (Obj.cells #[.int .u64 (a.1 : Int), .int .u64 (a.2 : Int)] 24)).alloc (Obj.cells #[.int .u64 (a.1 : Int), .int .u64 (a.2 : Int)] 25)) = w0 at *
  obtain ⟨b0, hb0⟩ : ∃ b0, b0 = W.heap.size := ⟨_, rfl⟩
  obtain ⟨b7, hb7⟩ : ∃ b7, b7 = W.heap.size + 1 := ⟨_, rfl⟩
  rw [← hb7] at E7 ⊢
  rw [← hb0] at E0 ⊢
  clear hb0 hb7
  obtain ⟨N, hN⟩ : ∃ N, N = w0.heap.size := ⟨_, rfl⟩
  refine wp_region_noPanic ?_
  refine wp_region_held_drew (S := fun w => w.cell? ⟨b0, 0, none⟩ = some (.int .u64 (a.1 : Int)) ∧ w.cell? ⟨b0, 1, none⟩ = some (.int .u64 (a.2 : Int))) (by kernel_rfl) (⟨E0.drew.hi, E0.drew.lo⟩) (fun hHeld => ?_)
  refine wpAnyH_take (i := 0) (oi := _) (v := ?_) rfl (by kernel_rfl) (by kernel_rfl) (by kernel_rfl) (fun _ _ _ h => h) (Or.inl ⟨by rfl, ?_⟩) (by assumption) ?_
  rotate_left
  · ((intro w hSw; (try dsimp only at hSw); go_simp) <;> (try with_reducible rfl))
  show wpAnyH _ _ _ _ _ _ _ (Act.put _ (some 12) _) _
  simp only [Act.put, List.setIfInBounds_toArray, List.set_cons_succ, List.set_cons_zero]
  refine wpAnyH_take (i := 1) (oi := _) (v := ?_) rfl (by kernel_rfl) (by kernel_rfl) (by kernel_rfl) (fun _ _ _ h => h) (Or.inl ⟨by rfl, ?_⟩) (by assumption) ?_
  rotate_left
  · ((intro w hSw; (try dsimp only at hSw); go_simp) <;> (try with_reducible rfl))
  show wpAnyH _ _ _ _ _ _ _ (Act.put _ (some 13) _) _
  simp only [Act.put, List.setIfInBounds_toArray, List.set_cons_succ, List.set_cons_zero]
  refine wpAnyH_take (i := 2) (oi := _) (v := ?_) rfl (by kernel_rfl) (by kernel_rfl) (by kernel_rfl) (fun _ _ _ h => h) (Or.inl ⟨by rfl, ?_⟩) (by assumption) ?_
  rotate_left
  · ((intro w hSw; (try dsimp only at hSw); go_simp) <;> (try with_reducible rfl))
  show wpAnyH _ _ _ _ _ _ _ (Act.put _ (some 14) _) _
  simp only [Act.put, List.setIfInBounds_toArray, List.set_cons_succ, List.set_cons_zero]
  refine wpAnyH_take (i := 4) (oi := _) (v := ?_) rfl (by kernel_rfl) (by kernel_rfl) (by kernel_rfl) (fun _ _ _ h => h) (Or.inl ⟨by rfl, ?_⟩) (by assumption) ?_
  rotate_left
  · ((intro w hSw; (try dsimp only at hSw); go_simp) <;> (try with_reducible rfl))
  show wpAnyH _ _ _ _ _ _ _ (Act.put _ (some 16) _) _
  simp only [Act.put, List.setIfInBounds_toArray, List.set_cons_succ, List.set_cons_zero]
  refine wpAnyH_take (i := 5) (oi := _) (v := ?_) rfl (by kernel_rfl) (by kernel_rfl) (by kernel_rfl) (fun _ _ _ h => h) (Or.inl ⟨by rfl, ?_⟩) (by assumption) ?_
  rotate_left
  · ((intro w hSw; (try dsimp only at hSw); go_simp) <;> (try with_reducible rfl))
  show wpAnyH _ _ _ _ _ _ _ (Act.put _ (some 17) _) _
  simp only [Act.put, List.setIfInBounds_toArray, List.set_cons_succ, List.set_cons_zero]
  refine wpAnyH_take (i := 6) (oi := _) (v := ?_) rfl (by kernel_rfl) (by kernel_rfl) (by kernel_rfl) (fun _ _ _ h => h) (Or.inl ⟨by rfl, ?_⟩) (by assumption) ?_
  rotate_left
  · ((intro w hSw; (try dsimp only at hSw); go_simp) <;> (try with_reducible rfl))
  show wpAnyH _ _ _ _ _ _ _ (Act.put _ (some 18) _) _
  simp only [Act.put, List.setIfInBounds_toArray, List.set_cons_succ, List.set_cons_zero]
  refine wpAnyH_take (i := 8) (oi := _) (v := ?_) rfl (by kernel_rfl) (by kernel_rfl) (by kernel_rfl) (fun _ _ _ h => h) (Or.inl ⟨by rfl, ?_⟩) (by assumption) ?_
  rotate_left
  · ((intro w hSw; (try dsimp only at hSw); go_simp) <;> (try with_reducible rfl))
  show wpAnyH _ _ _ _ _ _ _ (Act.put _ (some 20) _) _
  simp only [Act.put, List.setIfInBounds_toArray, List.set_cons_succ, List.set_cons_zero]
  refine wpAnyH_take (i := 9) (oi := _) (v := ?_) rfl (by kernel_rfl) (by kernel_rfl) (by kernel_rfl) (fun _ _ _ h => h) (Or.inl ⟨by rfl, ?_⟩) (by assumption) ?_
  rotate_left
  · ((intro w hSw; (try dsimp only at hSw); go_simp) <;> (try with_reducible rfl))
  show wpAnyH _ _ _ _ _ _ _ (Act.put _ (some 21) _) _
  simp only [Act.put, List.setIfInBounds_toArray, List.set_cons_succ, List.set_cons_zero]
  refine wpAnyH_take (i := 10) (oi := _) (v := ?_) rfl (by kernel_rfl) (by kernel_rfl) (by kernel_rfl) (fun _ _ _ h => h) (Or.inl ⟨by rfl, ?_⟩) (by assumption) ?_
  rotate_left
  · ((intro w hSw; (try dsimp only at hSw); go_simp) <;> (try with_reducible rfl))
  show wpAnyH _ _ _ _ _ _ _ (Act.put _ (some 22) _) _
  simp only [Act.put, List.setIfInBounds_toArray, List.set_cons_succ, List.set_cons_zero]
  refine wpAnyH_inv (fun L ac w => ∃ (v8 p9 p10 v15 v19 v23 : Value) (q9 q10 : Nat), ac = { tmps := #[.int .i64 l, .int .i64 t, .agg #[.int .u64 (a.1 : Int), .int .u64 (a.2 : Int)], undef, undef, .pointer (some ⟨b0, 0, none⟩), .bool false, .pointer (some ⟨b7, 0, none⟩), v8, p9, p10, .agg #[.int .u64 (a.1 : Int), .int .u64 (a.2 : Int)], .int .i64 l, .int .i64 t, .agg #[.int .u64 (a.1 : Int), .int .u64 (a.2 : Int)], v15, .int .i64 l, .int .i64 t, .agg #[.int .u64 (a.1 : Int), .int .u64 (a.2 : Int)], v19, .int .i64 l, .int .i64 t, .agg #[.int .u64 (a.1 : Int), .int .u64 (a.2 : Int)], v23, undef, undef, undef, undef, undef, undef, undef, undef, undef, undef, undef, undef, undef, undef, undef, undef, undef, undef, undef, undef, undef, undef, undef, undef, undef, undef, undef, undef, undef, undef, undef, undef, undef, undef, undef, undef, undef, undef, undef, undef, undef, undef, undef, undef, undef, undef, undef, undef, undef, undef, undef, undef, undef, undef, undef, undef], defers := [] } ∧ Hid (([0, 1, 2, 4, 5, 6, 8, 9, 10].all fun i => L i) = true ∧ (L 7 = true → v19 = .agg #[.int .u64 (T.1 : Int), .int .u64 (T.2 : Int)]) ∧ (L 11 = true → v23 = .agg #[.int .u64 (U.1 : Int), .int .u64 (U.2 : Int)]) ∧ (L 14 = true → L 3 = true ∧ v8 = v15) ∧ (RoOk w L 3 v15 es [⟨12, 15, q9, p9, T⟩, ⟨13, 16, q10, p10, U⟩]) ∧ (Vas N w L [⟨12, 15, q9, p9, T⟩, ⟨13, 16, q10, p10, U⟩]) ∧ (Below N w0 w))) (by kernel_rfl) ?hIS ?step ?done _ _ _ _ (by rfl) (by decide) ?init
  case hIS =>
    rintro L ac w ⟨_, _, _, _, _, _, _, _, rfl, hI⟩
    obtain ⟨hP, hT, hU, h8, hR, hV, hB⟩ := hI.out
    exact ⟨(E0.below (hN ▸ hB)).hi, (E0.below (hN ▸ hB)).lo⟩
  case init =>
    exact ⟨undef, undef, undef, undef, undef, undef, 0, 0, rfl, by rfl, fun h => absurd h (by decide), fun h => absurd h (by decide), fun h => absurd h (by decide), RoOk.start (by rfl), Vas.start (by simp), hN ▸ (Below.refl w0.heap.size w0).drew⟩
  case step =>
    rintro L ac w ⟨v8, p9, p10, v15, v19, v23, q9, q10, rfl, hI⟩
    refine (EachAt.cons (fun h _ => absurd (all_at hI.out.1 0 (by decide)) (by rw [show L 0 = false from h]; decide)) (EachAt.cons (fun h _ => absurd (all_at hI.out.1 1 (by decide)) (by rw [show L 1 = false from h]; decide)) (EachAt.cons (fun h _ => absurd (all_at hI.out.1 2 (by decide)) (by rw [show L 2 = false from h]; decide)) (EachAt.cons ?s3 (EachAt.cons (fun h _ => absurd (all_at hI.out.1 4 (by decide)) (by rw [show L 4 = false from h]; decide)) (EachAt.cons (fun h _ => absurd (all_at hI.out.1 5 (by decide)) (by rw [show L 5 = false from h]; decide)) (EachAt.cons (fun h _ => absurd (all_at hI.out.1 6 (by decide)) (by rw [show L 6 = false from h]; decide)) (EachAt.cons ?s7 (EachAt.cons (fun h _ => absurd (all_at hI.out.1 8 (by decide)) (by rw [show L 8 = false from h]; decide)) (EachAt.cons (fun h _ => absurd (all_at hI.out.1 9 (by decide)) (by rw [show L 9 = false from h]; decide)) (EachAt.cons (fun h _ => absurd (all_at hI.out.1 10 (by decide)) (by rw [show L 10 = false from h]; decide)) (EachAt.cons ?s11 (EachAt.cons ?s12 (EachAt.cons ?s13 (EachAt.cons ?s14 (EachAt.cons ?s15 (EachAt.cons ?s16 EachAt.nil)))))))))))))))))
    case s3 =>
      intro hl hw
      have D := waits hw
      replace hl : L 3 = false := hl
      clear hw
      refine wpOp_shut (o := _) rfl (fun KK hKK => ?_)
      obtain ⟨hP, hT, hU, h8, hR, hV, hB⟩ := hI.out
      have hz : N ≤ w.heap.size := hN ▸ hB.size
      clear D
      go_simp
      (go_at_call 17; refine (HC.out _).mono ?_; rintro e w9 ⟨v, rfl, hown, hb⟩)
      exact hKK.out _ _ ⟨v8, p9, p10, v, v19, v23, q9, q10, rfl, all_setL 3 hP, setL_un (by decide) hT, setL_un (by decide) hU, (fun e => (by have h := (setL_un (show 14 ≠ 3 by decide) h8 e).1; rw [hl] at h; cases h)), RoOk.call hV (by simp [nums]) hown, (hV.below hb).step (by simp [nums]), hB.trans (hb.mono hz)⟩
    case s7 =>
      intro hl hw
      have D := waits hw
      replace hl : L 7 = false := hl
      clear hw
      refine wpOp_shut (o := _) rfl (fun KK hKK => ?_)
      obtain ⟨hP, hT, hU, h8, hR, hV, hB⟩ := hI.out
      have hz : N ≤ w.heap.size := hN ▸ hB.size
      clear D hl
      go_simp
      (go_at_call 18; refine (HT.out.go _).mono ?_; rintro e w9 ⟨rfl, hb⟩)
      exact hKK.out _ _ ⟨v8, p9, p10, v15, _, v23, q9, q10, rfl, all_setL 7 hP, fun _ => rfl, setL_un (by decide) hU, fun e => ⟨setL_true (setL_un (show 14 ≠ 7 by decide) h8 e).1, (setL_un (show 14 ≠ 7 by decide) h8 e).2⟩, (hR.below hb).step (by simp [nums]) (by decide), (hV.below hb).step (by simp [nums]), hB.trans (hb.mono hz)⟩
    case s11 =>
      intro hl hw
      have D := waits hw
      replace hl : L 11 = false := hl
      clear hw
      refine wpOp_shut (o := _) rfl (fun KK hKK => ?_)
      obtain ⟨hP, hT, hU, h8, hR, hV, hB⟩ := hI.out
      have hz : N ≤ w.heap.size := hN ▸ hB.size
      clear D hl
      go_simp
      (go_at_call 19; refine (HN.out.go _).mono ?_; rintro e w9 ⟨rfl, hb⟩)
      exact hKK.out _ _ ⟨v8, p9, p10, v15, v19, _, q9, q10, rfl, all_setL 11 hP, setL_un (by decide) hT, fun _ => rfl, fun e => ⟨setL_true (setL_un (show 14 ≠ 11 by decide) h8 e).1, (setL_un (show 14 ≠ 11 by decide) h8 e).2⟩, (hR.below hb).step (by simp [nums]) (by decide), (hV.below hb).step (by simp [nums]), hB.trans (hb.mono hz)⟩
    case s12 =>
      intro hl hw
      have D := waits hw
      replace hl : L 12 = false := hl
      clear hw
      refine wpOp_shut (o := _) rfl (fun KK hKK => ?_)
      obtain ⟨hP, hT, hU, h8, hR, hV, hB⟩ := hI.out
      have hz : N ≤ w.heap.size := hN ▸ hB.size
      clear D
      go_simp
      exact hKK.out _ _ ⟨v8, _, p10, v15, v19, v23, _, q10, rfl, all_setL 12 hP, setL_un (by decide) hT, setL_un (by decide) hU, fun e => ⟨setL_true (setL_un (show 14 ≠ 12 by decide) h8 e).1, (setL_un (show 14 ≠ 12 by decide) h8 e).2⟩, RoOk.laid (l1 := []) hR (show 12 ≠ 3 by decide) (by simp [nums]), Vas.laid (l1 := []) hV hl hz (by simp [nums]), hB.alloc hz _⟩
    case s13 =>
      intro hl hw
      have D := waits hw
      replace hl : L 13 = false := hl
      clear hw
      refine wpOp_shut (o := _) rfl (fun KK hKK => ?_)
      obtain ⟨hP, hT, hU, h8, hR, hV, hB⟩ := hI.out
      have hz : N ≤ w.heap.size := hN ▸ hB.size
      clear D
      go_simp
      exact hKK.out _ _ ⟨v8, p9, _, v15, v19, v23, q9, _, rfl, all_setL 13 hP, setL_un (by decide) hT, setL_un (by decide) hU, fun e => ⟨setL_true (setL_un (show 14 ≠ 13 by decide) h8 e).1, (setL_un (show 14 ≠ 13 by decide) h8 e).2⟩, RoOk.laid (l1 := [⟨12, 15, q9, p9, T⟩]) (l2 := []) hR (show 13 ≠ 3 by decide) (by simp [nums]), Vas.laid (l1 := [⟨12, 15, q9, p9, T⟩]) (l2 := []) hV hl hz (by simp [nums]), hB.alloc hz _⟩
    case s14 =>
      intro hl hw
      have D := waits hw
      replace hl : L 14 = false := hl
      clear hw
      refine wpOp_shut (o := _) rfl (fun KK hKK => ?_)
      obtain ⟨hP, hT, hU, h8, hR, hV, hB⟩ := hI.out
      have hz : N ≤ w.heap.size := hN ▸ hB.size
      have D3 := D 3 (by decide)
      clear D hl
      go_simp
      exact hKK.out _ _ ⟨_, p9, p10, v15, v19, v23, q9, q10, rfl, all_setL 14 hP, setL_un (by decide) hT, setL_un (by decide) hU, fun _ => ⟨setL_true D3, rfl⟩, hR.step (by simp [nums]) (by decide), hV.step (by simp [nums]), hB⟩
    case s15 =>
      intro hl hw
      have D := waits hw
      replace hl : L 15 = false := hl
      clear hw
      refine wpOp_shut (o := _) rfl (fun KK hKK => ?_)
      obtain ⟨hP, hT, hU, h8, hR, hV, hB⟩ := hI.out
      have hz : N ≤ w.heap.size := hN ▸ hB.size
      have e9 : p9 = .pointer (some ⟨q9, 0, none⟩) := (hV.ok ⟨12, 15, q9, p9, T⟩ (by simp)).ptr (D 12 (by decide))
      obtain rfl := hT (D 7 (by decide))
      subst e9
      obtain ⟨c, hE, _⟩ := (hV.ok ⟨12, 15, q9, .pointer (some ⟨q9, 0, none⟩), T⟩ (by simp)).room (D 12 (by decide))
      have hlow : N ≤ q9 := (hV.ok ⟨12, 15, q9, .pointer (some ⟨q9, 0, none⟩), T⟩ (by simp)).low (D 12 (by decide))
      obtain ⟨⟨e1, e0⟩, f1, f0⟩ := hE
      dsimp only at e1 e0 f1 f0
      have D12 := D 12 (by decide)
      have D13 := D 13 (by decide)
      clear D hl
      go_simp
      exact hKK.out _ _ ⟨v8, _, p10, v15, _, v23, q9, q10, rfl, all_setL 15 hP, setL_un (by decide) hT, setL_un (by decide) hU, fun e => ⟨setL_true (setL_un (show 14 ≠ 15 by decide) h8 e).1, (setL_un (show 14 ≠ 15 by decide) h8 e).2⟩, RoOk.fill (x := ⟨12, 15, q9, .pointer (some ⟨q9, 0, none⟩), T⟩) hR (by simp) D12 (show 15 ≠ 3 by decide) (by simp), Vas.fill (l1 := []) (x := ⟨12, 15, q9, .pointer (some ⟨q9, 0, none⟩), T⟩) hV D12 (by simpa using D13) (by simp [nums]), (hB.setCell hlow _).setCell hlow _⟩
    case s16 =>
      intro hl hw
      have D := waits hw
      replace hl : L 16 = false := hl
      clear hw
      refine wpOp_shut (o := _) rfl (fun KK hKK => ?_)
      obtain ⟨hP, hT, hU, h8, hR, hV, hB⟩ := hI.out
      have hz : N ≤ w.heap.size := hN ▸ hB.size
      have e10 : p10 = .pointer (some ⟨q10, 0, none⟩) := (hV.ok ⟨13, 16, q10, p10, U⟩ (by simp)).ptr (D 13 (by decide))
      obtain rfl := hU (D 11 (by decide))
      subst e10
      obtain ⟨c, hE, _⟩ := (hV.ok ⟨13, 16, q10, .pointer (some ⟨q10, 0, none⟩), U⟩ (by simp)).room (D 13 (by decide))
      have hlow : N ≤ q10 := (hV.ok ⟨13, 16, q10, .pointer (some ⟨q10, 0, none⟩), U⟩ (by simp)).low (D 13 (by decide))
      obtain ⟨⟨e1, e0⟩, f1, f0⟩ := hE
      dsimp only at e1 e0 f1 f0
      have D12 := D 12 (by decide)
      have D13 := D 13 (by decide)
      clear D hl
      go_simp
      exact hKK.out _ _ ⟨v8, p9, _, v15, v19, _, q9, q10, rfl, all_setL 16 hP, setL_un (by decide) hT, setL_un (by decide) hU, fun e => ⟨setL_true (setL_un (show 14 ≠ 16 by decide) h8 e).1, (setL_un (show 14 ≠ 16 by decide) h8 e).2⟩, RoOk.fill (x := ⟨13, 16, q10, .pointer (some ⟨q10, 0, none⟩), U⟩) hR (by simp) D13 (show 16 ≠ 3 by decide) (by simp), Vas.fill (l1 := [⟨12, 15, q9, p9, T⟩]) (l2 := []) (x := ⟨13, 16, q10, .pointer (some ⟨q10, 0, none⟩), U⟩) hV D13 (by simpa using D12) (by simp [nums]), (hB.setCell hlow _).setCell hlow _⟩
  case done =>
    rintro L ac w ⟨v8, p9, p10, v15, v19, v23, q9, q10, rfl, hI⟩ hAll
    obtain ⟨hP, hT, hU, h8, hR, hV, hB⟩ := hI.out
    clear hI hP
    have e9 : p9 = .pointer (some ⟨q9, 0, none⟩) := (hV.ok ⟨12, 15, q9, p9, T⟩ (by simp)).ptr (hAll 12 (by decide))
    have e10 : p10 = .pointer (some ⟨q10, 0, none⟩) := (hV.ok ⟨13, 16, q10, p10, U⟩ (by simp)).ptr (hAll 13 (by decide))
    have E9 : El w q9 T.1 T.2 := (hV.ok ⟨12, 15, q9, p9, T⟩ (by simp)).el (hAll 15 (by decide))
    have E10 : El w q10 U.1 U.2 := (hV.ok ⟨13, 16, q10, p10, U⟩ (by simp)).el (hAll 16 (by decide))
    obtain ⟨aa, cap, e15, hrow, _⟩ := hR.row (hAll 3 (by decide))
    have e8 := (h8 (hAll 14 (by decide))).2
    subst e15
    subst e8
    obtain rfl := hT (hAll 7 (by decide))
    obtain rfl := hU (hAll 11 (by decide))
    subst e9
    subst e10
    have K : Kt W w b7 q9 q10 a T U aa es := ⟨E7.below (hN ▸ hB), E9, E10, hrow, hW.trans (hB.mono (hN ▸ hW.size))⟩
    clear hT hU h8 hR hV hB E9 E10 hrow hAll hHeld E0 E7 hW HC HT HN
    refine NoPanic.normal ?_
    have F := K.facts
    go_upto_region 5 with (go_at_call 20; refine (HF.out.go _).mono ?_; rintro e w' ⟨rfl, hb'⟩; have K'' := Kt.below (w' := w') (by first | exact K | exact K.drew) hb'; clear F K hb'; have K := K''; clear K''; have F := K.facts)
    go_region_held3 (fun w => w.cell? ⟨b7, 0, none⟩ = some (.int .u64 (a.1 : Int)) ∧ w.cell? ⟨b7, 1, none⟩ = some (.int .u64 (a.2 : Int)) ∧ w.cell? ⟨q9, 0, none⟩ = some (.int .u64 (T.1 : Int)) ∧ w.cell? ⟨q9, 1, none⟩ = some (.int .u64 (T.2 : Int)) ∧ w.cell? ⟨q10, 0, none⟩ = some (.int .u64 (U.1 : Int)) ∧ w.cell? ⟨q10, 1, none⟩ = some (.int .u64 (U.2 : Int))) (first | (go_keep; done) | (exact ⟨by simp [go_sem, F], by simp [go_sem, F], by simp [go_sem, F], by simp [go_sem, F], by simp [go_sem, F], by simp [go_sem, F]⟩)) (first | (go_at_call 12; refine (HA.out.go _).mono ?_; rintro e w' ⟨rfl, hb'⟩; have K'' := Kt.below (w' := w') (by first | exact K | exact K.drew) hb'; clear F K hb'; have K := K''; clear K''; have F := K.facts) | (go_at_call 22; refine (HRC.out _).mono ?_; rintro e w' ⟨v', rfl, hown', hb'⟩; obtain ⟨a2, cap2, rfl, R2⟩ := own_row hown'; clear hown'; have K'' := Kt.below (w' := w') (by first | exact K | exact K.drew) hb'; clear F K hb'; have K := K''; clear K''; have F := K.facts) | (go_at_call 21; refine (same_rows aa a2 cap cap2 es hn _ K.row R2).mono ?_; rintro e w' ⟨rfl, hb'⟩; clear R2; have K'' := Kt.below (w' := w') (by first | exact K | exact K.drew) hb'; clear F K hb'; have K := K''; clear K''; have F := K.facts) | (go_at_call 23; refine (HRT.out.go _).mono ?_; rintro e w' ⟨rfl, hb'⟩; have K'' := Kt.below (w' := w') (by first | exact K | exact K.drew) hb'; clear F K hb'; have K := K''; clear K''; have F := K.facts) | (go_at_call 24; refine (HRN.out.go _).mono ?_; rintro e w' ⟨rfl, hb'⟩; have K'' := Kt.below (w' := w') (by first | exact K | exact K.drew) hb'; clear F K hb'; have K := K''; clear K''; have F := K.facts) | (go_at_call_of 15 (#[.int .i64 t, .agg #[.int .u64 (T.1 : Int), .int .u64 (T.2 : Int)]] : Array Value); refine (HV1.out.go _).mono ?_; rintro e w' ⟨rfl, hb'⟩; have K'' := Kt.below (w' := w') (by first | exact K | exact K.drew) hb'; clear F K hb'; have K := K''; clear K''; have F := K.facts) | (go_at_call_of 15 (#[.int .i64 t, .agg #[.int .u64 (U.1 : Int), .int .u64 (U.2 : Int)]] : Array Value); refine (HV2.out.go _).mono ?_; rintro e w' ⟨rfl, hb'⟩; have K'' := Kt.below (w' := w') (by first | exact K | exact K.drew) hb'; clear F K hb'; have K := K''; clear K''; have F := K.facts))
    all_goals go_wp2
    all_goals go_ret
    all_goals exact ⟨by rfl, by first | exact K.d | exact K.d.drew⟩
end Go.Proofs.Ytakaconhoodigaa
