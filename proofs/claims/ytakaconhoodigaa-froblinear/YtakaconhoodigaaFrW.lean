/- The walk of steeplelaw33.FrobLinear over the seat's translation. -/
import Derived.Test.YtakaconhoodigaaFrQ
import Derived.Test.YtakaconhoodigaaFrG
import Derived.Test.YtakaconhoodigaaFrN
import Derived.Test.YtakaconhoodigaaIvB
namespace Go.Proofs.Ytakaconhoodigaa
open Go.RowKit
open Cb
open Tw (pm)

/-- What the law has laid: three elements and a trace. -/
structure Kl (W w : World) (q9 q10 q11 q12 : Nat) (A B C T : Nat × Nat) : Prop where
  a : w.cell? ⟨q9, 0, none⟩ = some (.int .u64 (A.1 : Int)) ∧ w.cell? ⟨q9, 1, none⟩ = some (.int .u64 (A.2 : Int))
  b : w.cell? ⟨q10, 0, none⟩ = some (.int .u64 (B.1 : Int)) ∧ w.cell? ⟨q10, 1, none⟩ = some (.int .u64 (B.2 : Int))
  c : w.cell? ⟨q11, 0, none⟩ = some (.int .u64 (C.1 : Int)) ∧ w.cell? ⟨q11, 1, none⟩ = some (.int .u64 (C.2 : Int))
  t : El w q12 T.1 T.2
  d : Below W.heap.size W w
theorem Kl.below {W w w' : World} {q9 q10 q11 q12 : Nat} {A B C T : Nat × Nat} (h : Kl W w q9 q10 q11 q12 A B C T) (hb : Below w.heap.size w w') : Kl W w' q9 q10 q11 q12 A B C T := ⟨⟨keepc hb h.a.1, keepc hb h.a.2⟩, ⟨keepc hb h.b.1, keepc hb h.b.2⟩, ⟨keepc hb h.c.1, keepc hb h.c.2⟩, h.t.below hb, h.d.trans (hb.mono h.d.size)⟩
theorem Kl.drew {W w : World} {q9 q10 q11 q12 : Nat} {A B C T : Nat × Nat} (h : Kl W w q9 q10 q11 q12 A B C T) : Kl W w.drew q9 q10 q11 q12 A B C T := h.below (Below.refl _ _).drew
theorem Kl.facts {W w : World} {q9 q10 q11 q12 : Nat} {A B C T : Nat × Nat} (h : Kl W w q9 q10 q11 q12 A B C T) : w.cell? ⟨q9, 0, none⟩ = some (.int .u64 (A.1 : Int)) ∧ w.cell? ⟨q9, 1, none⟩ = some (.int .u64 (A.2 : Int)) ∧ w.cell? ⟨q10, 0, none⟩ = some (.int .u64 (B.1 : Int)) ∧ w.cell? ⟨q10, 1, none⟩ = some (.int .u64 (B.2 : Int)) ∧ w.cell? ⟨q11, 0, none⟩ = some (.int .u64 (C.1 : Int)) ∧ w.cell? ⟨q11, 1, none⟩ = some (.int .u64 (C.2 : Int)) ∧ w.cell? ⟨q12, 0, none⟩ = some (.int .u64 (T.1 : Int)) ∧ w.cell? ⟨q12, 1, none⟩ = some (.int .u64 (T.2 : Int)) := ⟨h.a.1, h.a.2, h.b.1, h.b.2, h.c.1, h.c.2, h.t.hi, h.t.lo⟩
set_option maxHeartbeats 40000000 in
set_option maxRecDepth 100000 in
theorem fl_core (l y t1 : Int) (k j : Nat) (hk : k < 8) (hj : j ≤ k) (fk : (wrap64 (l.tmod 8 + 8)).tmod 8 = (k : Int)) (f1 : y.tmod ((k : Int) + 1) = t1) (g1 : -8 ≤ t1) (g2 : t1 ≤ 8) (f2 : (t1 + (k : Int) + 1).tmod ((k : Int) + 1) = (j : Int))
    (a b c A B C P S T TA M TB AB N9 NA NB : Nat × Nat)
    (H1 : Hid (Ret 25 #[.int .i64 (k : Int), .agg #[.int .u64 (a.1 : Int), .int .u64 (a.2 : Int)]] (.agg #[.int .u64 (A.1 : Int), .int .u64 (A.2 : Int)])))
    (H2 : Hid (Ret 25 #[.int .i64 (k : Int), .agg #[.int .u64 (b.1 : Int), .int .u64 (b.2 : Int)]] (.agg #[.int .u64 (B.1 : Int), .int .u64 (B.2 : Int)])))
    (H3 : Hid (Ret 25 #[.int .i64 (j : Int), .agg #[.int .u64 (c.1 : Int), .int .u64 (c.2 : Int)]] (.agg #[.int .u64 (C.1 : Int), .int .u64 (C.2 : Int)])))
    (H4 : Hid (Ret 27 #[.int .i64 (k : Int), .agg #[.int .u64 (C.1 : Int), .int .u64 (C.2 : Int)], .agg #[.int .u64 (A.1 : Int), .int .u64 (A.2 : Int)]] (.agg #[.int .u64 (P.1 : Int), .int .u64 (P.2 : Int)])))
    (H5 : Hid (Ret 26 #[.agg #[.int .u64 (P.1 : Int), .int .u64 (P.2 : Int)], .agg #[.int .u64 (B.1 : Int), .int .u64 (B.2 : Int)]] (.agg #[.int .u64 (S.1 : Int), .int .u64 (S.2 : Int)])))
    (H6 : Hid (Ret 18 #[.int .i64 (k : Int), .int .i64 (j : Int), .agg #[.int .u64 (S.1 : Int), .int .u64 (S.2 : Int)]] (.agg #[.int .u64 (T.1 : Int), .int .u64 (T.2 : Int)])))
    (H7 : Hid (Ret 18 #[.int .i64 (k : Int), .int .i64 (j : Int), .agg #[.int .u64 (A.1 : Int), .int .u64 (A.2 : Int)]] (.agg #[.int .u64 (TA.1 : Int), .int .u64 (TA.2 : Int)])))
    (H8 : Hid (Ret 27 #[.int .i64 (j : Int), .agg #[.int .u64 (C.1 : Int), .int .u64 (C.2 : Int)], .agg #[.int .u64 (TA.1 : Int), .int .u64 (TA.2 : Int)]] (.agg #[.int .u64 (M.1 : Int), .int .u64 (M.2 : Int)])))
    (H9 : Hid (Ret 18 #[.int .i64 (k : Int), .int .i64 (j : Int), .agg #[.int .u64 (B.1 : Int), .int .u64 (B.2 : Int)]] (.agg #[.int .u64 (TB.1 : Int), .int .u64 (TB.2 : Int)])))
    (HA : Hid (Ret 26 #[.agg #[.int .u64 (M.1 : Int), .int .u64 (M.2 : Int)], .agg #[.int .u64 (TB.1 : Int), .int .u64 (TB.2 : Int)]] (.agg #[.int .u64 (T.1 : Int), .int .u64 (T.2 : Int)])))
    (HB : Hid (Ret 27 #[.int .i64 (k : Int), .agg #[.int .u64 (A.1 : Int), .int .u64 (A.2 : Int)], .agg #[.int .u64 (B.1 : Int), .int .u64 (B.2 : Int)]] (.agg #[.int .u64 (AB.1 : Int), .int .u64 (AB.2 : Int)])))
    (HC : Hid (Ret 19 #[.int .i64 (k : Int), .int .i64 (j : Int), .agg #[.int .u64 (AB.1 : Int), .int .u64 (AB.2 : Int)]] (.agg #[.int .u64 (N9.1 : Int), .int .u64 (N9.2 : Int)])))
    (HD : Hid (Ret 19 #[.int .i64 (k : Int), .int .i64 (j : Int), .agg #[.int .u64 (A.1 : Int), .int .u64 (A.2 : Int)]] (.agg #[.int .u64 (NA.1 : Int), .int .u64 (NA.2 : Int)])))
    (HE : Hid (Ret 19 #[.int .i64 (k : Int), .int .i64 (j : Int), .agg #[.int .u64 (B.1 : Int), .int .u64 (B.2 : Int)]] (.agg #[.int .u64 (NB.1 : Int), .int .u64 (NB.2 : Int)])))
    (HF : Hid (Ret 27 #[.int .i64 (j : Int), .agg #[.int .u64 (NA.1 : Int), .int .u64 (NA.2 : Int)], .agg #[.int .u64 (NB.1 : Int), .int .u64 (NB.2 : Int)]] (.agg #[.int .u64 (N9.1 : Int), .int .u64 (N9.2 : Int)]))) :
    Ret 5 #[.int .i64 l, .int .i64 y, .agg #[.int .u64 (a.1 : Int), .int .u64 (a.2 : Int), .int .u64 (b.1 : Int), .int .u64 (b.2 : Int), .int .u64 (c.1 : Int), .int .u64 (c.2 : Int)]] (.bool true) := by
  intro W
  have HW := hidF awake33
  have z1 : ¬ (k : Int) + 1 = 0 := by omega
  go_enter Try.func5, Try.ntmps5
  go_upto_region 3 with fail
  have E5 : ∀ w, Below (W.alloc (Obj.cells #[.int .u64 (a.1 : Int), .int .u64 (a.2 : Int), .int .u64 (b.1 : Int), .int .u64 (b.2 : Int), .int .u64 (c.1 : Int), .int .u64 (c.2 : Int)] 45)).heap.size (W.alloc (Obj.cells #[.int .u64 (a.1 : Int), .int .u64 (a.2 : Int), .int .u64 (b.1 : Int), .int .u64 (b.2 : Int), .int .u64 (c.1 : Int), .int .u64 (c.2 : Int)] 45)) w → w.cell? ⟨W.heap.size, 0, none⟩ = some (.int .u64 (a.1 : Int)) ∧ w.cell? ⟨W.heap.size, 1, none⟩ = some (.int .u64 (a.2 : Int)) ∧ w.cell? ⟨W.heap.size, 2, none⟩ = some (.int .u64 (b.1 : Int)) ∧ w.cell? ⟨W.heap.size, 3, none⟩ = some (.int .u64 (b.2 : Int)) ∧ w.cell? ⟨W.heap.size, 4, none⟩ = some (.int .u64 (c.1 : Int)) ∧ w.cell? ⟨W.heap.size, 5, none⟩ = some (.int .u64 (c.2 : Int)) := fun w h => ⟨keepc h (by simp [go_sem]), keepc h (by simp [go_sem]), keepc h (by simp [go_sem]), keepc h (by simp [go_sem]), keepc h (by simp [go_sem]), keepc h (by simp [go_sem])⟩
  have HB0 : Below W.heap.size W (W.alloc (Obj.cells #[.int .u64 (a.1 : Int), .int .u64 (a.2 : Int), .int .u64 (b.1 : Int), .int .u64 (b.2 : Int), .int .u64 (c.1 : Int), .int .u64 (c.2 : Int)] 45)) := by go_grown
  generalize (W.alloc (Obj.cells #[.int .u64 (a.1 : Int), .int .u64 (a.2 : Int), .int .u64 (b.1 : Int), .int .u64 (b.2 : Int), .int .u64 (c.1 : Int), .int .u64 (c.2 : Int)] 45)) = w0 at *
  obtain ⟨b5, hb5⟩ : ∃ b5, b5 = W.heap.size := ⟨_, rfl⟩
  rw [← hb5] at E5 ⊢
  clear hb5 f1 f2 fk g1 g2 z1
  obtain ⟨N, hN⟩ : ∃ N, N = w0.heap.size := ⟨_, rfl⟩
  refine wp_region_noPanic ?_
  refine wp_region_held_drew (S := fun w => w.cell? ⟨b5, 0, none⟩ = some (.int .u64 (a.1 : Int)) ∧ w.cell? ⟨b5, 1, none⟩ = some (.int .u64 (a.2 : Int)) ∧ w.cell? ⟨b5, 2, none⟩ = some (.int .u64 (b.1 : Int)) ∧ w.cell? ⟨b5, 3, none⟩ = some (.int .u64 (b.2 : Int)) ∧ w.cell? ⟨b5, 4, none⟩ = some (.int .u64 (c.1 : Int)) ∧ w.cell? ⟨b5, 5, none⟩ = some (.int .u64 (c.2 : Int))) (by kernel_rfl) (E5 _ (Below.refl _ _).drew) (fun hHeld => ?_)
  refine wpAnyH_take (i := 0) (oi := _) (v := ?_) rfl (by kernel_rfl) (by kernel_rfl) (by kernel_rfl) (fun _ _ _ h => h) (Or.inl ⟨by rfl, ?_⟩) (by assumption) ?_
  rotate_left
  · ((intro w hSw; (try dsimp only at hSw); go_simp) <;> (try with_reducible rfl))
  show wpAnyH _ _ _ _ _ _ _ (Act.put _ (some 27) _) _
  simp only [Act.put, List.setIfInBounds_toArray, List.set_cons_succ, List.set_cons_zero]
  refine wpAnyH_take (i := 1) (oi := _) (v := ?_) rfl (by kernel_rfl) (by kernel_rfl) (by kernel_rfl) (fun _ _ _ h => h) (Or.inl ⟨by rfl, ?_⟩) (by assumption) ?_
  rotate_left
  · ((intro w hSw; (try dsimp only at hSw); go_simp) <;> (try with_reducible rfl))
  show wpAnyH _ _ _ _ _ _ _ (Act.put _ (some 28) _) _
  simp only [Act.put, List.setIfInBounds_toArray, List.set_cons_succ, List.set_cons_zero]
  refine wpAnyH_take (i := 2) (oi := _) (v := ?_) rfl (by kernel_rfl) (by kernel_rfl) (by kernel_rfl) (fun _ _ _ h => h) (Or.inl ⟨by rfl, ?_⟩) (by assumption) ?_
  rotate_left
  · ((intro w hSw; (try dsimp only at hSw); go_simp) <;> (try with_reducible rfl))
  show wpAnyH _ _ _ _ _ _ _ (Act.put _ (some 29) _) _
  simp only [Act.put, List.setIfInBounds_toArray, List.set_cons_succ, List.set_cons_zero]
  refine wpAnyH_take (i := 4) (oi := _) (v := ?_) rfl (by kernel_rfl) (by kernel_rfl) (by kernel_rfl) (fun _ _ _ h => h) (Or.inl ⟨by rfl, ?_⟩) (by assumption) ?_
  rotate_left
  · ((intro w hSw; (try dsimp only at hSw); go_simp) <;> (try with_reducible rfl))
  show wpAnyH _ _ _ _ _ _ _ (Act.put _ (some 31) _) _
  simp only [Act.put, List.setIfInBounds_toArray, List.set_cons_succ, List.set_cons_zero]
  refine wpAnyH_take (i := 5) (oi := _) (v := ?_) rfl (by kernel_rfl) (by kernel_rfl) (by kernel_rfl) (fun _ _ _ h => h) (Or.inl ⟨by rfl, ?_⟩) (by assumption) ?_
  rotate_left
  · ((intro w hSw; (try dsimp only at hSw); go_simp) <;> (try with_reducible rfl))
  show wpAnyH _ _ _ _ _ _ _ (Act.put _ (some 32) _) _
  simp only [Act.put, List.setIfInBounds_toArray, List.set_cons_succ, List.set_cons_zero]
  refine wpAnyH_take (i := 6) (oi := _) (v := ?_) rfl (by kernel_rfl) (by kernel_rfl) (by kernel_rfl) (fun _ _ _ h => h) (Or.inl ⟨by rfl, ?_⟩) (by assumption) ?_
  rotate_left
  · ((intro w hSw; (try dsimp only at hSw); go_simp) <;> (try with_reducible rfl))
  show wpAnyH _ _ _ _ _ _ _ (Act.put _ (some 33) _) _
  simp only [Act.put, List.setIfInBounds_toArray, List.set_cons_succ, List.set_cons_zero]
  refine wpAnyH_take (i := 8) (oi := _) (v := ?_) rfl (by kernel_rfl) (by kernel_rfl) (by kernel_rfl) (fun _ _ _ h => h) (Or.inl ⟨by rfl, ?_⟩) (by assumption) ?_
  rotate_left
  · ((intro w hSw; (try dsimp only at hSw); go_simp) <;> (try with_reducible rfl))
  show wpAnyH _ _ _ _ _ _ _ (Act.put _ (some 35) _) _
  simp only [Act.put, List.setIfInBounds_toArray, List.set_cons_succ, List.set_cons_zero]
  refine wpAnyH_take (i := 9) (oi := _) (v := ?_) rfl (by kernel_rfl) (by kernel_rfl) (by kernel_rfl) (fun _ _ _ h => h) (Or.inl ⟨by rfl, ?_⟩) (by assumption) ?_
  rotate_left
  · ((intro w hSw; (try dsimp only at hSw); go_simp) <;> (try with_reducible rfl))
  show wpAnyH _ _ _ _ _ _ _ (Act.put _ (some 36) _) _
  simp only [Act.put, List.setIfInBounds_toArray, List.set_cons_succ, List.set_cons_zero]
  refine wpAnyH_take (i := 10) (oi := _) (v := ?_) rfl (by kernel_rfl) (by kernel_rfl) (by kernel_rfl) (fun _ _ _ h => h) (Or.inl ⟨by rfl, ?_⟩) (by assumption) ?_
  rotate_left
  · ((intro w hSw; (try dsimp only at hSw); go_simp) <;> (try with_reducible rfl))
  show wpAnyH _ _ _ _ _ _ _ (Act.put _ (some 37) _) _
  simp only [Act.put, List.setIfInBounds_toArray, List.set_cons_succ, List.set_cons_zero]
  refine wpAnyH_inv (fun L ac w => ∃ (p9 p10 p11 v30 v34 v38 : Value) (q9 q10 q11 : Nat), ac = { tmps := #[.int .i64 l, .int .i64 y, .agg #[.int .u64 (a.1 : Int), .int .u64 (a.2 : Int), .int .u64 (b.1 : Int), .int .u64 (b.2 : Int), .int .u64 (c.1 : Int), .int .u64 (c.2 : Int)], undef, undef, .pointer (some ⟨b5, 0, none⟩), .bool false, .int .i64 (k : Int), .int .i64 (j : Int), p9, p10, p11, undef, .int .i64 l, .int .i64 (l.tmod 8), .int .i64 (wrap64 (l.tmod 8 + 8)), .int .i64 (k : Int), .int .i64 y, .int .i64 (k : Int), .int .i64 ((k : Int) + 1), .int .i64 t1, .int .i64 (k : Int), .int .i64 (t1 + (k : Int)), .int .i64 (t1 + (k : Int) + 1), .int .i64 (k : Int), .int .i64 ((k : Int) + 1), .int .i64 (j : Int), .int .i64 (k : Int), .pointer (some ⟨b5, 0, none⟩), .agg #[.int .u64 (a.1 : Int), .int .u64 (a.2 : Int)], v30, .int .i64 (k : Int), .pointer (some ⟨b5, 2, none⟩), .agg #[.int .u64 (b.1 : Int), .int .u64 (b.2 : Int)], v34, .int .i64 (j : Int), .pointer (some ⟨b5, 4, none⟩), .agg #[.int .u64 (c.1 : Int), .int .u64 (c.2 : Int)], v38, undef, undef, undef, undef, undef, undef, undef, undef, undef, undef, undef, undef, undef, undef, undef, undef, undef, undef, undef, undef, undef, undef, undef, undef, undef, undef, undef, undef, undef, undef, undef, undef, undef, undef, undef, undef, undef, undef, undef, undef, undef, undef, undef, undef, undef, undef], defers := [] } ∧ Hid (([0, 1, 2, 4, 5, 6, 8, 9, 10].all fun i => L i) = true ∧ (L 3 = true → v30 = .agg #[.int .u64 (A.1 : Int), .int .u64 (A.2 : Int)]) ∧ (L 7 = true → v34 = .agg #[.int .u64 (B.1 : Int), .int .u64 (B.2 : Int)]) ∧ (L 11 = true → v38 = .agg #[.int .u64 (C.1 : Int), .int .u64 (C.2 : Int)]) ∧ (Vas N w L [⟨12, 15, q9, p9, A⟩, ⟨13, 16, q10, p10, B⟩, ⟨14, 17, q11, p11, C⟩]) ∧ (Below N w0 w))) (by kernel_rfl) ?hIS ?step ?done _ _ _ _ (by rfl) (by decide) ?init
  case hIS =>
    rintro L ac w ⟨_, _, _, _, _, _, _, _, _, rfl, hI⟩
    obtain ⟨hP, h3, h7, h11, hV, hB⟩ := hI.out
    exact E5 _ (hN ▸ hB)
  case init =>
    exact ⟨undef, undef, undef, undef, undef, undef, 0, 0, 0, rfl, by rfl, fun h => absurd h (by decide), fun h => absurd h (by decide), fun h => absurd h (by decide), Vas.start (by simp), hN ▸ (Below.refl w0.heap.size w0).drew⟩
  case step =>
    rintro L ac w ⟨p9, p10, p11, v30, v34, v38, q9, q10, q11, rfl, hI⟩
    refine (EachAt.cons (fun h _ => absurd (all_at hI.out.1 0 (by decide)) (by rw [show L 0 = false from h]; decide)) (EachAt.cons (fun h _ => absurd (all_at hI.out.1 1 (by decide)) (by rw [show L 1 = false from h]; decide)) (EachAt.cons (fun h _ => absurd (all_at hI.out.1 2 (by decide)) (by rw [show L 2 = false from h]; decide)) (EachAt.cons ?s3 (EachAt.cons (fun h _ => absurd (all_at hI.out.1 4 (by decide)) (by rw [show L 4 = false from h]; decide)) (EachAt.cons (fun h _ => absurd (all_at hI.out.1 5 (by decide)) (by rw [show L 5 = false from h]; decide)) (EachAt.cons (fun h _ => absurd (all_at hI.out.1 6 (by decide)) (by rw [show L 6 = false from h]; decide)) (EachAt.cons ?s7 (EachAt.cons (fun h _ => absurd (all_at hI.out.1 8 (by decide)) (by rw [show L 8 = false from h]; decide)) (EachAt.cons (fun h _ => absurd (all_at hI.out.1 9 (by decide)) (by rw [show L 9 = false from h]; decide)) (EachAt.cons (fun h _ => absurd (all_at hI.out.1 10 (by decide)) (by rw [show L 10 = false from h]; decide)) (EachAt.cons ?s11 (EachAt.cons ?s12 (EachAt.cons ?s13 (EachAt.cons ?s14 (EachAt.cons ?s15 (EachAt.cons ?s16 (EachAt.cons ?s17 EachAt.nil))))))))))))))))))
    case s3 =>
      intro hl hw
      have D := waits hw
      replace hl : L 3 = false := hl
      clear hw
      refine wpOp_shut (o := _) rfl (fun KK hKK => ?_)
      obtain ⟨hP, h3, h7, h11, hV, hB⟩ := hI.out
      have hz : N ≤ w.heap.size := hN ▸ hB.size
      clear D hl
      go_simp
      (go_at_call_of 25 (#[.int .i64 (k : Int), .agg #[.int .u64 (a.1 : Int), .int .u64 (a.2 : Int)]] : Array Value); refine (H1.out.go _).mono ?_; rintro e w9 ⟨rfl, hb⟩)
      exact hKK.out _ _ ⟨p9, p10, p11, _, v34, v38, q9, q10, q11, rfl, all_setL 3 hP, fun _ => rfl, setL_un (show 7 ≠ 3 by decide) h7, setL_un (show 11 ≠ 3 by decide) h11, (hV.below hb).step (by simp [nums]), hB.trans (hb.mono hz)⟩
    case s7 =>
      intro hl hw
      have D := waits hw
      replace hl : L 7 = false := hl
      clear hw
      refine wpOp_shut (o := _) rfl (fun KK hKK => ?_)
      obtain ⟨hP, h3, h7, h11, hV, hB⟩ := hI.out
      have hz : N ≤ w.heap.size := hN ▸ hB.size
      clear D hl
      go_simp
      (go_at_call_of 25 (#[.int .i64 (k : Int), .agg #[.int .u64 (b.1 : Int), .int .u64 (b.2 : Int)]] : Array Value); refine (H2.out.go _).mono ?_; rintro e w9 ⟨rfl, hb⟩)
      exact hKK.out _ _ ⟨p9, p10, p11, v30, _, v38, q9, q10, q11, rfl, all_setL 7 hP, setL_un (show 3 ≠ 7 by decide) h3, fun _ => rfl, setL_un (show 11 ≠ 7 by decide) h11, (hV.below hb).step (by simp [nums]), hB.trans (hb.mono hz)⟩
    case s11 =>
      intro hl hw
      have D := waits hw
      replace hl : L 11 = false := hl
      clear hw
      refine wpOp_shut (o := _) rfl (fun KK hKK => ?_)
      obtain ⟨hP, h3, h7, h11, hV, hB⟩ := hI.out
      have hz : N ≤ w.heap.size := hN ▸ hB.size
      clear D hl
      go_simp
      (go_at_call_of 25 (#[.int .i64 (j : Int), .agg #[.int .u64 (c.1 : Int), .int .u64 (c.2 : Int)]] : Array Value); refine (H3.out.go _).mono ?_; rintro e w9 ⟨rfl, hb⟩)
      exact hKK.out _ _ ⟨p9, p10, p11, v30, v34, _, q9, q10, q11, rfl, all_setL 11 hP, setL_un (show 3 ≠ 11 by decide) h3, setL_un (show 7 ≠ 11 by decide) h7, fun _ => rfl, (hV.below hb).step (by simp [nums]), hB.trans (hb.mono hz)⟩
    case s12 =>
      intro hl hw
      have D := waits hw
      replace hl : L 12 = false := hl
      clear hw
      refine wpOp_shut (o := _) rfl (fun KK hKK => ?_)
      obtain ⟨hP, h3, h7, h11, hV, hB⟩ := hI.out
      have hz : N ≤ w.heap.size := hN ▸ hB.size
      clear D
      go_simp
      exact hKK.out _ _ ⟨_, p10, p11, v30, v34, v38, _, q10, q11, rfl, all_setL 12 hP, setL_un (show 3 ≠ 12 by decide) h3, setL_un (show 7 ≠ 12 by decide) h7, setL_un (show 11 ≠ 12 by decide) h11, Vas.laid (l1 := []) (l2 := [⟨13, 16, q10, p10, B⟩, ⟨14, 17, q11, p11, C⟩]) hV hl hz (by simp [nums]), hB.alloc hz _⟩
    case s13 =>
      intro hl hw
      have D := waits hw
      replace hl : L 13 = false := hl
      clear hw
      refine wpOp_shut (o := _) rfl (fun KK hKK => ?_)
      obtain ⟨hP, h3, h7, h11, hV, hB⟩ := hI.out
      have hz : N ≤ w.heap.size := hN ▸ hB.size
      clear D
      go_simp
      exact hKK.out _ _ ⟨p9, _, p11, v30, v34, v38, q9, _, q11, rfl, all_setL 13 hP, setL_un (show 3 ≠ 13 by decide) h3, setL_un (show 7 ≠ 13 by decide) h7, setL_un (show 11 ≠ 13 by decide) h11, Vas.laid (l1 := [⟨12, 15, q9, p9, A⟩]) (l2 := [⟨14, 17, q11, p11, C⟩]) hV hl hz (by simp [nums]), hB.alloc hz _⟩
    case s14 =>
      intro hl hw
      have D := waits hw
      replace hl : L 14 = false := hl
      clear hw
      refine wpOp_shut (o := _) rfl (fun KK hKK => ?_)
      obtain ⟨hP, h3, h7, h11, hV, hB⟩ := hI.out
      have hz : N ≤ w.heap.size := hN ▸ hB.size
      clear D
      go_simp
      exact hKK.out _ _ ⟨p9, p10, _, v30, v34, v38, q9, q10, _, rfl, all_setL 14 hP, setL_un (show 3 ≠ 14 by decide) h3, setL_un (show 7 ≠ 14 by decide) h7, setL_un (show 11 ≠ 14 by decide) h11, Vas.laid (l1 := [⟨12, 15, q9, p9, A⟩, ⟨13, 16, q10, p10, B⟩]) (l2 := []) hV hl hz (by simp [nums]), hB.alloc hz _⟩
    case s15 =>
      intro hl hw
      have D := waits hw
      replace hl : L 15 = false := hl
      clear hw
      refine wpOp_shut (o := _) rfl (fun KK hKK => ?_)
      obtain ⟨hP, h3, h7, h11, hV, hB⟩ := hI.out
      have hz : N ≤ w.heap.size := hN ▸ hB.size
      have e9 : p9 = .pointer (some ⟨q9, 0, none⟩) := (hV.ok ⟨12, 15, q9, p9, A⟩ (by simp)).ptr (D 12 (by decide))
      obtain rfl := h3 (D 3 (by decide))
      subst e9
      obtain ⟨c, hE, _⟩ := (hV.ok ⟨12, 15, q9, .pointer (some ⟨q9, 0, none⟩), A⟩ (by simp)).room (D 12 (by decide))
      have hlow : N ≤ q9 := (hV.ok ⟨12, 15, q9, .pointer (some ⟨q9, 0, none⟩), A⟩ (by simp)).low (D 12 (by decide))
      obtain ⟨⟨e1, e0⟩, f1, f0⟩ := hE
      dsimp only at e1 e0 f1 f0
      have D12 := D 12 (by decide)
      have D13 := D 13 (by decide)
      have D14 := D 14 (by decide)
      clear D hl
      go_simp
      exact hKK.out _ _ ⟨_, p10, p11, _, v34, v38, q9, q10, q11, rfl, all_setL 15 hP, setL_un (show 3 ≠ 15 by decide) h3, setL_un (show 7 ≠ 15 by decide) h7, setL_un (show 11 ≠ 15 by decide) h11, Vas.fill (l1 := []) (l2 := [⟨13, 16, q10, p10, B⟩, ⟨14, 17, q11, p11, C⟩]) (x := ⟨12, 15, q9, .pointer (some ⟨q9, 0, none⟩), A⟩) hV D12 (fun y hy => by simp at hy; rcases hy with rfl | rfl <;> assumption) (by simp [nums]), (hB.setCell hlow _).setCell hlow _⟩
    case s16 =>
      intro hl hw
      have D := waits hw
      replace hl : L 16 = false := hl
      clear hw
      refine wpOp_shut (o := _) rfl (fun KK hKK => ?_)
      obtain ⟨hP, h3, h7, h11, hV, hB⟩ := hI.out
      have hz : N ≤ w.heap.size := hN ▸ hB.size
      have e9 : p10 = .pointer (some ⟨q10, 0, none⟩) := (hV.ok ⟨13, 16, q10, p10, B⟩ (by simp)).ptr (D 13 (by decide))
      obtain rfl := h7 (D 7 (by decide))
      subst e9
      obtain ⟨c, hE, _⟩ := (hV.ok ⟨13, 16, q10, .pointer (some ⟨q10, 0, none⟩), B⟩ (by simp)).room (D 13 (by decide))
      have hlow : N ≤ q10 := (hV.ok ⟨13, 16, q10, .pointer (some ⟨q10, 0, none⟩), B⟩ (by simp)).low (D 13 (by decide))
      obtain ⟨⟨e1, e0⟩, f1, f0⟩ := hE
      dsimp only at e1 e0 f1 f0
      have D12 := D 12 (by decide)
      have D13 := D 13 (by decide)
      have D14 := D 14 (by decide)
      clear D hl
      go_simp
      exact hKK.out _ _ ⟨p9, _, p11, v30, _, v38, q9, q10, q11, rfl, all_setL 16 hP, setL_un (show 3 ≠ 16 by decide) h3, setL_un (show 7 ≠ 16 by decide) h7, setL_un (show 11 ≠ 16 by decide) h11, Vas.fill (l1 := [⟨12, 15, q9, p9, A⟩]) (l2 := [⟨14, 17, q11, p11, C⟩]) (x := ⟨13, 16, q10, .pointer (some ⟨q10, 0, none⟩), B⟩) hV D13 (fun y hy => by rcases hy with hy | hy <;> simp at hy <;> (first | (obtain rfl := hy) | (rcases hy with rfl | rfl)) <;> assumption) (by simp [nums]), (hB.setCell hlow _).setCell hlow _⟩
    case s17 =>
      intro hl hw
      have D := waits hw
      replace hl : L 17 = false := hl
      clear hw
      refine wpOp_shut (o := _) rfl (fun KK hKK => ?_)
      obtain ⟨hP, h3, h7, h11, hV, hB⟩ := hI.out
      have hz : N ≤ w.heap.size := hN ▸ hB.size
      have e9 : p11 = .pointer (some ⟨q11, 0, none⟩) := (hV.ok ⟨14, 17, q11, p11, C⟩ (by simp)).ptr (D 14 (by decide))
      obtain rfl := h11 (D 11 (by decide))
      subst e9
      obtain ⟨c, hE, _⟩ := (hV.ok ⟨14, 17, q11, .pointer (some ⟨q11, 0, none⟩), C⟩ (by simp)).room (D 14 (by decide))
      have hlow : N ≤ q11 := (hV.ok ⟨14, 17, q11, .pointer (some ⟨q11, 0, none⟩), C⟩ (by simp)).low (D 14 (by decide))
      obtain ⟨⟨e1, e0⟩, f1, f0⟩ := hE
      dsimp only at e1 e0 f1 f0
      have D12 := D 12 (by decide)
      have D13 := D 13 (by decide)
      have D14 := D 14 (by decide)
      clear D hl
      go_simp
      exact hKK.out _ _ ⟨p9, p10, _, v30, v34, _, q9, q10, q11, rfl, all_setL 17 hP, setL_un (show 3 ≠ 17 by decide) h3, setL_un (show 7 ≠ 17 by decide) h7, setL_un (show 11 ≠ 17 by decide) h11, Vas.fill (l1 := [⟨12, 15, q9, p9, A⟩, ⟨13, 16, q10, p10, B⟩]) (l2 := []) (x := ⟨14, 17, q11, .pointer (some ⟨q11, 0, none⟩), C⟩) hV D14 (fun y hy => by simp at hy; rcases hy with rfl | rfl <;> assumption) (by simp [nums]), (hB.setCell hlow _).setCell hlow _⟩
  case done =>
    rintro L ac w ⟨p9, p10, p11, v30, v34, v38, q9, q10, q11, rfl, hI⟩ hAll
    obtain ⟨hP, h3, h7, h11, hV, hB⟩ := hI.out
    clear hI hP
    have ep9 : p9 = .pointer (some ⟨q9, 0, none⟩) := (hV.ok ⟨12, 15, q9, p9, A⟩ (by simp)).ptr (hAll 12 (by decide))
    have Eq9 : El w q9 A.1 A.2 := (hV.ok ⟨12, 15, q9, p9, A⟩ (by simp)).el (hAll 15 (by decide))
    have ep10 : p10 = .pointer (some ⟨q10, 0, none⟩) := (hV.ok ⟨13, 16, q10, p10, B⟩ (by simp)).ptr (hAll 13 (by decide))
    have Eq10 : El w q10 B.1 B.2 := (hV.ok ⟨13, 16, q10, p10, B⟩ (by simp)).el (hAll 16 (by decide))
    have ep11 : p11 = .pointer (some ⟨q11, 0, none⟩) := (hV.ok ⟨14, 17, q11, p11, C⟩ (by simp)).ptr (hAll 14 (by decide))
    have Eq11 : El w q11 C.1 C.2 := (hV.ok ⟨14, 17, q11, p11, C⟩ (by simp)).el (hAll 17 (by decide))
    obtain rfl := h3 (hAll 3 (by decide))
    obtain rfl := h7 (hAll 7 (by decide))
    obtain rfl := h11 (hAll 11 (by decide))
    subst ep9
    subst ep10
    subst ep11
    clear h3 h7 h11 hV hAll hHeld
    have hW := HB0.trans (hB.mono (hN ▸ HB0.size))
    clear hB E5 HB0 H1 H2 H3 hN
    clear N w0
    refine NoPanic.normal ?_
    go_upto_region 4 with fail
    obtain ⟨w0, rfl⟩ : ∃ w0, w0 = w := ⟨_, rfl⟩
    have E5 : ∀ w, Below w0.heap.size w0 w → (w.cell? ⟨q9, 0, none⟩ = some (.int .u64 (A.1 : Int)) ∧ w.cell? ⟨q9, 1, none⟩ = some (.int .u64 (A.2 : Int))) ∧ (w.cell? ⟨q10, 0, none⟩ = some (.int .u64 (B.1 : Int)) ∧ w.cell? ⟨q10, 1, none⟩ = some (.int .u64 (B.2 : Int))) ∧ w.cell? ⟨q11, 0, none⟩ = some (.int .u64 (C.1 : Int)) ∧ w.cell? ⟨q11, 1, none⟩ = some (.int .u64 (C.2 : Int)) := fun w h => ⟨⟨(Eq9.below h).hi, (Eq9.below h).lo⟩, ⟨(Eq10.below h).hi, (Eq10.below h).lo⟩, (Eq11.below h).hi, (Eq11.below h).lo⟩
    have HB0 := hW
    clear Eq9 Eq10 Eq11 hW
    obtain ⟨N, hN⟩ : ∃ N, N = w0.heap.size := ⟨_, rfl⟩
    refine wp_region_noPanic ?_
    refine wp_region_held_drew (S := fun w => (w.cell? ⟨q9, 0, none⟩ = some (.int .u64 (A.1 : Int)) ∧ w.cell? ⟨q9, 1, none⟩ = some (.int .u64 (A.2 : Int))) ∧ (w.cell? ⟨q10, 0, none⟩ = some (.int .u64 (B.1 : Int)) ∧ w.cell? ⟨q10, 1, none⟩ = some (.int .u64 (B.2 : Int))) ∧ w.cell? ⟨q11, 0, none⟩ = some (.int .u64 (C.1 : Int)) ∧ w.cell? ⟨q11, 1, none⟩ = some (.int .u64 (C.2 : Int))) (by kernel_rfl) (E5 _ (Below.refl _ _).drew) (fun hHeld => ?_)
    refine wpAnyH_take (i := 0) (oi := _) (v := ?_) rfl (by kernel_rfl) (by kernel_rfl) (by kernel_rfl) (fun _ _ _ h => h) (Or.inl ⟨by rfl, ?_⟩) (by assumption) ?_
    rotate_left
    · ((intro w hSw; (try dsimp only at hSw); go_simp) <;> (try with_reducible rfl))
    show wpAnyH _ _ _ _ _ _ _ (Act.put _ (some 39) _) _
    simp only [Act.put, List.setIfInBounds_toArray, List.set_cons_succ, List.set_cons_zero]
    refine wpAnyH_take (i := 1) (oi := _) (v := ?_) rfl (by kernel_rfl) (by kernel_rfl) (by kernel_rfl) (fun _ _ _ h => h) (Or.inl ⟨by rfl, ?_⟩) (by assumption) ?_
    rotate_left
    · ((intro w hSw; (try dsimp only at hSw); go_simp) <;> (try with_reducible rfl))
    show wpAnyH _ _ _ _ _ _ _ (Act.put _ (some 40) _) _
    simp only [Act.put, List.setIfInBounds_toArray, List.set_cons_succ, List.set_cons_zero]
    refine wpAnyH_take (i := 2) (oi := _) (v := ?_) rfl (by kernel_rfl) (by kernel_rfl) (by kernel_rfl) (fun _ _ _ h => h) (Or.inl ⟨by rfl, ?_⟩) (by assumption) ?_
    rotate_left
    · ((intro w hSw; (try dsimp only at hSw); go_simp) <;> (try with_reducible rfl))
    show wpAnyH _ _ _ _ _ _ _ (Act.put _ (some 41) _) _
    simp only [Act.put, List.setIfInBounds_toArray, List.set_cons_succ, List.set_cons_zero]
    refine wpAnyH_take (i := 3) (oi := _) (v := ?_) rfl (by kernel_rfl) (by kernel_rfl) (by kernel_rfl) (fun _ _ _ h => h) (Or.inl ⟨by rfl, ?_⟩) (by assumption) ?_
    rotate_left
    · ((intro w hSw; (try dsimp only at hSw); go_simp) <;> (try with_reducible rfl))
    show wpAnyH _ _ _ _ _ _ _ (Act.put _ (some 42) _) _
    simp only [Act.put, List.setIfInBounds_toArray, List.set_cons_succ, List.set_cons_zero]
    refine wpAnyH_take (i := 4) (oi := _) (v := ?_) rfl (by kernel_rfl) (by kernel_rfl) (by kernel_rfl) (fun _ _ _ h => h) (Or.inl ⟨by rfl, ?_⟩) (by assumption) ?_
    rotate_left
    · ((intro w hSw; (try dsimp only at hSw); go_simp) <;> (try with_reducible rfl))
    show wpAnyH _ _ _ _ _ _ _ (Act.put _ (some 43) _) _
    simp only [Act.put, List.setIfInBounds_toArray, List.set_cons_succ, List.set_cons_zero]
    refine wpAnyH_take (i := 6) (oi := _) (v := ?_) rfl (by kernel_rfl) (by kernel_rfl) (by kernel_rfl) (fun _ _ _ h => h) (Or.inl ⟨by rfl, ?_⟩) (by assumption) ?_
    rotate_left
    · ((intro w hSw; (try dsimp only at hSw); go_simp) <;> (try with_reducible rfl))
    show wpAnyH _ _ _ _ _ _ _ (Act.put _ (some 45) _) _
    simp only [Act.put, List.setIfInBounds_toArray, List.set_cons_succ, List.set_cons_zero]
    refine wpAnyH_inv (fun L ac w => ∃ (p12 v44 v46 v47 : Value) (q12 : Nat), ac = { tmps := #[.int .i64 l, .int .i64 y, .agg #[.int .u64 (a.1 : Int), .int .u64 (a.2 : Int), .int .u64 (b.1 : Int), .int .u64 (b.2 : Int), .int .u64 (c.1 : Int), .int .u64 (c.2 : Int)], undef, undef, .pointer (some ⟨b5, 0, none⟩), .bool false, .int .i64 (k : Int), .int .i64 (j : Int), .pointer (some ⟨q9, 0, none⟩), .pointer (some ⟨q10, 0, none⟩), .pointer (some ⟨q11, 0, none⟩), p12, .int .i64 l, .int .i64 (l.tmod 8), .int .i64 (wrap64 (l.tmod 8 + 8)), .int .i64 (k : Int), .int .i64 y, .int .i64 (k : Int), .int .i64 ((k : Int) + 1), .int .i64 t1, .int .i64 (k : Int), .int .i64 (t1 + (k : Int)), .int .i64 (t1 + (k : Int) + 1), .int .i64 (k : Int), .int .i64 ((k : Int) + 1), .int .i64 (j : Int), .int .i64 (k : Int), .pointer (some ⟨b5, 0, none⟩), .agg #[.int .u64 (a.1 : Int), .int .u64 (a.2 : Int)], .agg #[.int .u64 (A.1 : Int), .int .u64 (A.2 : Int)], .int .i64 (k : Int), .pointer (some ⟨b5, 2, none⟩), .agg #[.int .u64 (b.1 : Int), .int .u64 (b.2 : Int)], .agg #[.int .u64 (B.1 : Int), .int .u64 (B.2 : Int)], .int .i64 (j : Int), .pointer (some ⟨b5, 4, none⟩), .agg #[.int .u64 (c.1 : Int), .int .u64 (c.2 : Int)], .agg #[.int .u64 (C.1 : Int), .int .u64 (C.2 : Int)], .int .i64 (k : Int), .int .i64 (j : Int), .int .i64 (k : Int), .agg #[.int .u64 (C.1 : Int), .int .u64 (C.2 : Int)], .agg #[.int .u64 (A.1 : Int), .int .u64 (A.2 : Int)], v44, .agg #[.int .u64 (B.1 : Int), .int .u64 (B.2 : Int)], v46, v47, undef, undef, undef, undef, undef, undef, undef, undef, undef, undef, undef, undef, undef, undef, undef, undef, undef, undef, undef, undef, undef, undef, undef, undef, undef, undef, undef, undef, undef, undef, undef, undef, undef, undef, undef, undef, undef], defers := [] } ∧ Hid (([0, 1, 2, 3, 4, 6].all fun i => L i) = true ∧ (L 5 = true → v44 = .agg #[.int .u64 (P.1 : Int), .int .u64 (P.2 : Int)]) ∧ (L 7 = true → v46 = .agg #[.int .u64 (S.1 : Int), .int .u64 (S.2 : Int)]) ∧ (L 8 = true → v47 = .agg #[.int .u64 (T.1 : Int), .int .u64 (T.2 : Int)]) ∧ (Vas N w L [⟨9, 10, q12, p12, T⟩]) ∧ (Below N w0 w))) (by kernel_rfl) ?hIS ?step ?done _ _ _ _ (by rfl) (by decide) ?init
    case hIS =>
      rintro L ac w ⟨_, _, _, _, _, rfl, hI⟩
      obtain ⟨hP, h5, h7, h8, hV, hB⟩ := hI.out
      exact E5 _ (hN ▸ hB)
    case init =>
      exact ⟨undef, undef, undef, undef, 0, rfl, by rfl, fun h => absurd h (by decide), fun h => absurd h (by decide), fun h => absurd h (by decide), Vas.start (by simp), hN ▸ (Below.refl w0.heap.size w0).drew⟩
    case step =>
      rintro L ac w ⟨p12, v44, v46, v47, q12, rfl, hI⟩
      refine (EachAt.cons (fun h _ => absurd (all_at hI.out.1 0 (by decide)) (by rw [show L 0 = false from h]; decide)) (EachAt.cons (fun h _ => absurd (all_at hI.out.1 1 (by decide)) (by rw [show L 1 = false from h]; decide)) (EachAt.cons (fun h _ => absurd (all_at hI.out.1 2 (by decide)) (by rw [show L 2 = false from h]; decide)) (EachAt.cons (fun h _ => absurd (all_at hI.out.1 3 (by decide)) (by rw [show L 3 = false from h]; decide)) (EachAt.cons (fun h _ => absurd (all_at hI.out.1 4 (by decide)) (by rw [show L 4 = false from h]; decide)) (EachAt.cons ?s5 (EachAt.cons (fun h _ => absurd (all_at hI.out.1 6 (by decide)) (by rw [show L 6 = false from h]; decide)) (EachAt.cons ?s7 (EachAt.cons ?s8 (EachAt.cons ?s9 (EachAt.cons ?s10 EachAt.nil)))))))))))
      case s5 =>
        intro hl hw
        have D := waits hw
        replace hl : L 5 = false := hl
        clear hw
        refine wpOp_shut (o := _) rfl (fun KK hKK => ?_)
        obtain ⟨hP, h5, h7, h8, hV, hB⟩ := hI.out
        have hz : N ≤ w.heap.size := hN ▸ hB.size
        clear D hl
        go_simp
        (go_at_call_of 27 (#[.int .i64 (k : Int), .agg #[.int .u64 (C.1 : Int), .int .u64 (C.2 : Int)], .agg #[.int .u64 (A.1 : Int), .int .u64 (A.2 : Int)]] : Array Value); refine (H4.out.go _).mono ?_; rintro e w9 ⟨rfl, hb⟩)
        exact hKK.out _ _ ⟨p12, _, v46, v47, q12, rfl, all_setL 5 hP, fun _ => rfl, setL_un (show 7 ≠ 5 by decide) h7, setL_un (show 8 ≠ 5 by decide) h8, (hV.below hb).step (by simp [nums]), hB.trans (hb.mono hz)⟩
      case s7 =>
        intro hl hw
        have D := waits hw
        replace hl : L 7 = false := hl
        clear hw
        refine wpOp_shut (o := _) rfl (fun KK hKK => ?_)
        obtain ⟨hP, h5, h7, h8, hV, hB⟩ := hI.out
        have hz : N ≤ w.heap.size := hN ▸ hB.size
        obtain rfl := h5 (D 5 (by decide))
        clear D hl
        go_simp
        (go_at_call_of 26 (#[.agg #[.int .u64 (P.1 : Int), .int .u64 (P.2 : Int)], .agg #[.int .u64 (B.1 : Int), .int .u64 (B.2 : Int)]] : Array Value); refine (H5.out.go _).mono ?_; rintro e w9 ⟨rfl, hb⟩)
        exact hKK.out _ _ ⟨p12, _, _, v47, q12, rfl, all_setL 7 hP, setL_un (show 5 ≠ 7 by decide) h5, fun _ => rfl, setL_un (show 8 ≠ 7 by decide) h8, (hV.below hb).step (by simp [nums]), hB.trans (hb.mono hz)⟩
      case s8 =>
        intro hl hw
        have D := waits hw
        replace hl : L 8 = false := hl
        clear hw
        refine wpOp_shut (o := _) rfl (fun KK hKK => ?_)
        obtain ⟨hP, h5, h7, h8, hV, hB⟩ := hI.out
        have hz : N ≤ w.heap.size := hN ▸ hB.size
        obtain rfl := h7 (D 7 (by decide))
        clear D hl
        go_simp
        (go_at_call_of 18 (#[.int .i64 (k : Int), .int .i64 (j : Int), .agg #[.int .u64 (S.1 : Int), .int .u64 (S.2 : Int)]] : Array Value); refine (H6.out.go _).mono ?_; rintro e w9 ⟨rfl, hb⟩)
        exact hKK.out _ _ ⟨p12, v44, _, _, q12, rfl, all_setL 8 hP, setL_un (show 5 ≠ 8 by decide) h5, setL_un (show 7 ≠ 8 by decide) h7, fun _ => rfl, (hV.below hb).step (by simp [nums]), hB.trans (hb.mono hz)⟩
      case s9 =>
        intro hl hw
        have D := waits hw
        replace hl : L 9 = false := hl
        clear hw
        refine wpOp_shut (o := _) rfl (fun KK hKK => ?_)
        obtain ⟨hP, h5, h7, h8, hV, hB⟩ := hI.out
        have hz : N ≤ w.heap.size := hN ▸ hB.size
        clear D
        go_simp
        exact hKK.out _ _ ⟨_, v44, v46, v47, _, rfl, all_setL 9 hP, setL_un (show 5 ≠ 9 by decide) h5, setL_un (show 7 ≠ 9 by decide) h7, setL_un (show 8 ≠ 9 by decide) h8, Vas.laid (l1 := []) (l2 := []) hV hl hz (by simp [nums]), hB.alloc hz _⟩
      case s10 =>
        intro hl hw
        have D := waits hw
        replace hl : L 10 = false := hl
        clear hw
        refine wpOp_shut (o := _) rfl (fun KK hKK => ?_)
        obtain ⟨hP, h5, h7, h8, hV, hB⟩ := hI.out
        have hz : N ≤ w.heap.size := hN ▸ hB.size
        have e9 : p12 = .pointer (some ⟨q12, 0, none⟩) := (hV.ok ⟨9, 10, q12, p12, T⟩ (by simp)).ptr (D 9 (by decide))
        obtain rfl := h8 (D 8 (by decide))
        subst e9
        obtain ⟨c, hE, _⟩ := (hV.ok ⟨9, 10, q12, .pointer (some ⟨q12, 0, none⟩), T⟩ (by simp)).room (D 9 (by decide))
        have hlow : N ≤ q12 := (hV.ok ⟨9, 10, q12, .pointer (some ⟨q12, 0, none⟩), T⟩ (by simp)).low (D 9 (by decide))
        obtain ⟨⟨e1, e0⟩, f1, f0⟩ := hE
        dsimp only at e1 e0 f1 f0
        have D9 := D 9 (by decide)
        clear D hl
        go_simp
        exact hKK.out _ _ ⟨_, v44, v46, _, q12, rfl, all_setL 10 hP, setL_un (show 5 ≠ 10 by decide) h5, setL_un (show 7 ≠ 10 by decide) h7, setL_un (show 8 ≠ 10 by decide) h8, Vas.fill (l1 := []) (l2 := []) (x := ⟨9, 10, q12, .pointer (some ⟨q12, 0, none⟩), T⟩) hV D9 (fun y hy => by simp at hy) (by simp [nums]), (hB.setCell hlow _).setCell hlow _⟩
    case done =>
      rintro L ac w ⟨p12, v44, v46, v47, q12, rfl, hI⟩ hAll
      obtain ⟨hP, h5, h7, h8, hV, hB⟩ := hI.out
      clear hI hP
      have ep12 : p12 = .pointer (some ⟨q12, 0, none⟩) := (hV.ok ⟨9, 10, q12, p12, T⟩ (by simp)).ptr (hAll 9 (by decide))
      have Eq12 : El w q12 T.1 T.2 := (hV.ok ⟨9, 10, q12, p12, T⟩ (by simp)).el (hAll 10 (by decide))
      obtain rfl := h5 (hAll 5 (by decide))
      obtain rfl := h7 (hAll 7 (by decide))
      obtain rfl := h8 (hAll 8 (by decide))
      subst ep12
      clear h5 h7 h8 hV hAll hHeld
      have K : Kl W w q9 q10 q11 q12 A B C T := ⟨(E5 w (hN ▸ hB)).1, (E5 w (hN ▸ hB)).2.1, (E5 w (hN ▸ hB)).2.2, Eq12, HB0.trans (hB.mono (hN ▸ HB0.size))⟩
      clear hB E5 HB0 Eq12 H4 H5 H6
      refine NoPanic.normal ?_
      have F := K.facts
      go_upto_region 5 with fail
      go_region_held3 (fun w => w.cell? ⟨q9, 0, none⟩ = some (.int .u64 (A.1 : Int)) ∧ w.cell? ⟨q9, 1, none⟩ = some (.int .u64 (A.2 : Int)) ∧ w.cell? ⟨q10, 0, none⟩ = some (.int .u64 (B.1 : Int)) ∧ w.cell? ⟨q10, 1, none⟩ = some (.int .u64 (B.2 : Int)) ∧ w.cell? ⟨q11, 0, none⟩ = some (.int .u64 (C.1 : Int)) ∧ w.cell? ⟨q11, 1, none⟩ = some (.int .u64 (C.2 : Int)) ∧ w.cell? ⟨q12, 0, none⟩ = some (.int .u64 (T.1 : Int)) ∧ w.cell? ⟨q12, 1, none⟩ = some (.int .u64 (T.2 : Int))) (first | (go_keep; done) | (exact ⟨by simp [go_sem, F], by simp [go_sem, F], by simp [go_sem, F], by simp [go_sem, F], by simp [go_sem, F], by simp [go_sem, F], by simp [go_sem, F], by simp [go_sem, F]⟩)) (first | (go_at_call 12; refine (HW.out.go _).mono ?_; rintro e w' ⟨rfl, hb'⟩; have K'' := Kl.below (w' := w') (by first | exact K | exact K.drew) hb'; clear F K hb'; have K := K''; clear K''; have F := K.facts) | (go_at_call_of 18 (#[.int .i64 (k : Int), .int .i64 (j : Int), .agg #[.int .u64 (A.1 : Int), .int .u64 (A.2 : Int)]] : Array Value); refine (H7.out.go _).mono ?_; rintro e w' ⟨rfl, hb'⟩; have K'' := Kl.below (w' := w') (by first | exact K | exact K.drew) hb'; clear F K hb'; have K := K''; clear K''; have F := K.facts) | (go_at_call_of 27 (#[.int .i64 (j : Int), .agg #[.int .u64 (C.1 : Int), .int .u64 (C.2 : Int)], .agg #[.int .u64 (TA.1 : Int), .int .u64 (TA.2 : Int)]] : Array Value); refine (H8.out.go _).mono ?_; rintro e w' ⟨rfl, hb'⟩; have K'' := Kl.below (w' := w') (by first | exact K | exact K.drew) hb'; clear F K hb'; have K := K''; clear K''; have F := K.facts) | (go_at_call_of 18 (#[.int .i64 (k : Int), .int .i64 (j : Int), .agg #[.int .u64 (B.1 : Int), .int .u64 (B.2 : Int)]] : Array Value); refine (H9.out.go _).mono ?_; rintro e w' ⟨rfl, hb'⟩; have K'' := Kl.below (w' := w') (by first | exact K | exact K.drew) hb'; clear F K hb'; have K := K''; clear K''; have F := K.facts) | (go_at_call_of 26 (#[.agg #[.int .u64 (M.1 : Int), .int .u64 (M.2 : Int)], .agg #[.int .u64 (TB.1 : Int), .int .u64 (TB.2 : Int)]] : Array Value); refine (HA.out.go _).mono ?_; rintro e w' ⟨rfl, hb'⟩; have K'' := Kl.below (w' := w') (by first | exact K | exact K.drew) hb'; clear F K hb'; have K := K''; clear K''; have F := K.facts) | (go_at_call_of 27 (#[.int .i64 (k : Int), .agg #[.int .u64 (A.1 : Int), .int .u64 (A.2 : Int)], .agg #[.int .u64 (B.1 : Int), .int .u64 (B.2 : Int)]] : Array Value); refine (HB.out.go _).mono ?_; rintro e w' ⟨rfl, hb'⟩; have K'' := Kl.below (w' := w') (by first | exact K | exact K.drew) hb'; clear F K hb'; have K := K''; clear K''; have F := K.facts) | (go_at_call_of 19 (#[.int .i64 (k : Int), .int .i64 (j : Int), .agg #[.int .u64 (AB.1 : Int), .int .u64 (AB.2 : Int)]] : Array Value); refine (HC.out.go _).mono ?_; rintro e w' ⟨rfl, hb'⟩; have K'' := Kl.below (w' := w') (by first | exact K | exact K.drew) hb'; clear F K hb'; have K := K''; clear K''; have F := K.facts) | (go_at_call_of 19 (#[.int .i64 (k : Int), .int .i64 (j : Int), .agg #[.int .u64 (A.1 : Int), .int .u64 (A.2 : Int)]] : Array Value); refine (HD.out.go _).mono ?_; rintro e w' ⟨rfl, hb'⟩; have K'' := Kl.below (w' := w') (by first | exact K | exact K.drew) hb'; clear F K hb'; have K := K''; clear K''; have F := K.facts) | (go_at_call_of 19 (#[.int .i64 (k : Int), .int .i64 (j : Int), .agg #[.int .u64 (B.1 : Int), .int .u64 (B.2 : Int)]] : Array Value); refine (HE.out.go _).mono ?_; rintro e w' ⟨rfl, hb'⟩; have K'' := Kl.below (w' := w') (by first | exact K | exact K.drew) hb'; clear F K hb'; have K := K''; clear K''; have F := K.facts) | (go_at_call_of 27 (#[.int .i64 (j : Int), .agg #[.int .u64 (NA.1 : Int), .int .u64 (NA.2 : Int)], .agg #[.int .u64 (NB.1 : Int), .int .u64 (NB.2 : Int)]] : Array Value); refine (HF.out.go _).mono ?_; rintro e w' ⟨rfl, hb'⟩; have K'' := Kl.below (w' := w') (by first | exact K | exact K.drew) hb'; clear F K hb'; have K := K''; clear K''; have F := K.facts))
      all_goals go_wp2
      all_goals go_ret
      all_goals exact ⟨by rfl, by first | exact K.d | exact K.d.drew⟩
end Go.Proofs.Ytakaconhoodigaa
