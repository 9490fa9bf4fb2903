/- The contracts of span's Rank and In, and of the document's In and Ref, over the seat's translation. -/
import Derived.Test.YtnecjkdlmecgdaaSqD
import Derived.Test.YtnecjkdlmecgdaaPSqG
import Derived.Test.YtnecjkdlmecgdaaPSmA
import Derived.Test.YtnecjkdlmecgdaaRfG
import Derived.Test.YtnecjkdlmecgdaaRgB
import Derived.Deep.AppendLies
namespace Go.Proofs.Ytnecjkdlmecgdaa
open Go.RowKit
open Cb Rg Sq

/-- eliminate, and what its rows leave. -/
theorem elim_red (a : Option Addr) (cap : Nat) (l : List (Nat × Nat)) (hl : ltE l) (h128 : l.length ≤ 128) (W : World) (hr : ERow W a l) :
    Calls Try.prog 56 #[.slice a l.length cap] W fun e w' => ∃ a0 n0 a1 n1, e = .returned (.agg #[.slice a0 (elm l l.length).1.length n0, .slice a1 (elm l l.length).2.length n1]) ∧ w'.ownsRow W.heap.size 103 4 (.slice a0 (elm l l.length).1.length n0) (elm l l.length).1.length (flatR (elm l l.length).1) ∧ w'.ownsRow W.heap.size 3 1 (.slice a1 (elm l l.length).2.length n1) (elm l l.length).2.length (ints (elm l l.length).2) ∧
      (∀ w2, Below w'.heap.size w' w2 → ∀ x : Nat × Nat, lt2 x → Calls Try.prog 57 #[.agg #[.slice a0 (elm l l.length).1.length n0, .slice a1 (elm l l.length).2.length n1], .agg #[.int .u64 (x.1 : Int), .int .u64 (x.2 : Int)]] w2 fun e w3 => e = .returned (.tuple #[.agg #[.int .u64 ((redv (elm l l.length).1 x (elm l l.length).1.length).1.1 : Int), .int .u64 ((redv (elm l l.length).1 x (elm l l.length).1.length).1.2 : Int)], .agg #[.int .u64 ((redv (elm l l.length).1 x (elm l l.length).1.length).2.1 : Int), .int .u64 ((redv (elm l l.length).1 x (elm l l.length).1.length).2.2 : Int)]]) ∧ Below w2.heap.size w2 w3) ∧ Below W.heap.size W w' := by
  refine (eliminate_any a cap l hl h128 W hr).mono ?_
  rintro e w' ⟨v0, v1, rfl, o0, o1, hb⟩
  obtain ⟨a0, n0, rfl⟩ := own_slc o0
  obtain ⟨a1, n1, rfl⟩ := own_slc o1
  have h := elm_ei hl l.length (Nat.le_refl _)
  refine ⟨a0, n0, a1, n1, rfl, o0, o1, fun w2 h2 x hx => ?_, hb⟩
  exact reduce_any a0 n0 _ _ x w2 (own_rr (own_below o0 h2)) (by have := h.len; have := h.le; omega) (ltR_of h.rr h.of) hx.1 hx.2
theorem sfield_rows (a : Option Addr) (n c : Nat) (v : Value) (w : World) : (Instr.field 88 (.agg #[.slice a n c, v]) 0).run Try.prog w = .ok (.slice a n c) w := by
  simp [Instr.field, asAgg, go_sem]
set_option maxRecDepth 100000 in
set_option maxHeartbeats 2000000 in
theorem Rank_any (a : Option Addr) (cap : Nat) (l : List (Nat × Nat)) (hl : ltE l) (h128 : l.length ≤ 128) (W : World) (hr : ERow W a l) :
    Calls Try.prog 42 #[.slice a l.length cap] W fun e w' => e = .returned (.int .i64 ((rb l).length : Int)) ∧ Below W.heap.size W w' := by
  have HE := hidT (elim_red a cap l hl h128 W hr)
  rw [← elm_len hl]
  clear hr hl
  generalize (elm l l.length).1.length = N at *
  generalize (elm l l.length).2.length = N2 at *
  have HF := fun a n c v => sfield_rows a n c v
  go_enter Try.func42, Try.ntmps42
  go_wp2_with (go_at_call 56; refine HE.out.mono ?_; rintro e w1 ⟨a0, n0, a1, n1, rfl, _, _, _, hb1⟩; have K1 := hidT hb1; clear hb1)
  go_ret
  exact ⟨rfl, K1.out⟩
/-- What eliminate gave, as long as it is wanted. -/
def ElOk (N1 N2 : Nat) (x : Nat × Nat) (qh ql oh ol : Nat) (w : World) (L : Nat → Bool) (v : Value) : Prop := L 1 = true → L 3 = false → ∃ a0 n0 a1 n1, v = .agg #[.slice a0 N1 n0, .slice a1 N2 n1] ∧ ∀ w2, Below w.heap.size w w2 → Calls Try.prog 57 #[.agg #[.slice a0 N1 n0, .slice a1 N2 n1], .agg #[.int .u64 (x.1 : Int), .int .u64 (x.2 : Int)]] w2 fun e w3 => e = .returned (.tuple #[.agg #[.int .u64 (qh : Int), .int .u64 (ql : Int)], .agg #[.int .u64 (oh : Int), .int .u64 (ol : Int)]]) ∧ Below w2.heap.size w2 w3
theorem ElOk.step {N1 N2 : Nat} {x : Nat × Nat} {qh ql oh ol : Nat} {w w' : World} {L : Nat → Bool} {v : Value} (h : ElOk N1 N2 x qh ql oh ol w L v) (i : Nat) (hi : i ≠ 1) (hb : Below w.heap.size w w') : ElOk N1 N2 x qh ql oh ol w' (setL L i) v := fun e1 e3 => by
  rw [setL_other L (Ne.symm hi)] at e1
  have e4 : L 3 = false := by
    by_cases k : 3 = i
    · subst k; rw [setL_same] at e3; cases e3
    · rwa [setL_other L k] at e3
  obtain ⟨a0, n0, a1, n1, e, hr⟩ := h e1 e4
  exact ⟨a0, n0, a1, n1, e, fun w2 h2 => hr w2 (hb.trans (h2.mono hb.size))⟩
theorem ElOk.gone {N1 N2 : Nat} {x : Nat × Nat} {qh ql oh ol : Nat} {w' : World} {L : Nat → Bool} {v : Value} (i : Nat) (hL : L 3 = true) : ElOk N1 N2 x qh ql oh ol w' (setL L i) v := fun _ e3 => by
  rw [setL_true hL] at e3; cases e3
set_option maxRecDepth 100000 in
set_option maxHeartbeats 8000000 in
theorem In_any (a : Option Addr) (cap : Nat) (l : List (Nat × Nat)) (hl : ltE l) (h128 : l.length ≤ 128) (x : Nat × Nat) (hx : lt2 x) (W : World) (hr : ERow W a l) :
    Calls Try.prog 30 #[.slice a l.length cap, .agg #[.int .u64 (x.1 : Int), .int .u64 (x.2 : Int)]] W fun e w' => e = .returned (.bool (decide ((rb (l ++ [x])).length = (rb l).length))) ∧ Below W.heap.size W w' := by
  have HE : Hid (∀ w, Below W.heap.size W w → Calls Try.prog 56 #[.slice a l.length cap] w fun e w' => ∃ a0 n0 a1 n1, e = .returned (.agg #[.slice a0 (elm l l.length).1.length n0, .slice a1 (elm l l.length).2.length n1]) ∧
      (∀ w2, Below w'.heap.size w' w2 → Calls Try.prog 57 #[.agg #[.slice a0 (elm l l.length).1.length n0, .slice a1 (elm l l.length).2.length n1], .agg #[.int .u64 (x.1 : Int), .int .u64 (x.2 : Int)]] w2 fun e w3 => e = .returned (.tuple #[.agg #[.int .u64 ((redv (elm l l.length).1 x (elm l l.length).1.length).1.1 : Int), .int .u64 ((redv (elm l l.length).1 x (elm l l.length).1.length).1.2 : Int)], .agg #[.int .u64 ((redv (elm l l.length).1 x (elm l l.length).1.length).2.1 : Int), .int .u64 ((redv (elm l l.length).1 x (elm l l.length).1.length).2.2 : Int)]]) ∧ Below w2.heap.size w2 w3) ∧ Below w.heap.size w w') := fun w hw => by
    refine (elim_red a cap l hl h128 w (hr.below hw)).mono ?_
    rintro e w' ⟨a0, n0, a1, n1, rfl, _, _, h, hb⟩
    exact ⟨a0, n0, a1, n1, rfl, fun w2 h2 => h w2 h2 x hx, hb⟩
  have e : decide ((rb (l ++ [x])).length = (rb l).length) = decide ((redv (elm l l.length).1 x (elm l l.length).1.length).1 = (0, 0)) := by
    rw [redv_all, Bool.eq_iff_iff, decide_eq_true_iff, decide_eq_true_iff, ← elm_in hl x, ← rb_in hl hx]
  rw [e]
  clear e hr hl
  generalize redv (elm l l.length).1 x (elm l l.length).1.length = q at *
  generalize (elm l l.length).1.length = N1 at *
  generalize (elm l l.length).2.length = N2 at *
  obtain ⟨⟨qh, ql⟩, oh, ol⟩ := q
  simp only at HE
  have es : decide (((qh, ql) : Nat × Nat) = (0, 0)) = (decide (qh = 0) && decide (ql = 0)) := by
    rw [Bool.eq_iff_iff]; simp
  rw [es]
  clear es
  go_enter Try.func30, Try.ntmps30
  go_upto_region 1 with fail
  have E5 : ∀ w, Below (W.alloc (Obj.cells #[.int .u64 (x.1 : Int), .int .u64 (x.2 : Int)] 27)).heap.size (W.alloc (Obj.cells #[.int .u64 (x.1 : Int), .int .u64 (x.2 : Int)] 27)) w → w.cell? ⟨W.heap.size, 0, none⟩ = some (.int .u64 (x.1 : Int)) ∧ w.cell? ⟨W.heap.size, 1, none⟩ = some (.int .u64 (x.2 : Int)) := fun w h => ⟨keepc h (by simp [go_sem]), keepc h (by simp [go_sem])⟩
  have HB0 : Below W.heap.size W (W.alloc (Obj.cells #[.int .u64 (x.1 : Int), .int .u64 (x.2 : Int)] 27)) := by go_grown
  generalize W.alloc (Obj.cells #[.int .u64 (x.1 : Int), .int .u64 (x.2 : Int)] 27) = w0 at *
  obtain ⟨p, hp⟩ : ∃ p, p = W.heap.size := ⟨_, rfl⟩
  rw [← hp] at E5 ⊢
  clear hp
  obtain ⟨N, hN⟩ : ∃ N, N = w0.heap.size := ⟨_, rfl⟩
  refine wp_region_noPanic ?_
  refine wp_region_held_drew (S := fun w => w.cell? ⟨p, 0, none⟩ = some (.int .u64 (x.1 : Int)) ∧ w.cell? ⟨p, 1, none⟩ = some (.int .u64 (x.2 : Int))) (by kernel_rfl) (E5 _ (Below.refl _ _).drew) (fun hHeld => ?_)
  refine wpAnyH_take (i := 0) (oi := _) (v := ?_) rfl (by kernel_rfl) (by kernel_rfl) (by kernel_rfl) (fun _ _ _ h => h) (Or.inl ⟨by rfl, ?_⟩) (by assumption) ?_
  rotate_left
  · ((intro w hSw; (try dsimp only at hSw); go_simp) <;> (try with_reducible rfl))
  show wpAnyH _ _ _ _ _ _ _ (Act.put _ (some 8) _) _
  simp only [Act.put, List.setIfInBounds_toArray, List.set_cons_succ, List.set_cons_zero]
  refine wpAnyH_take (i := 2) (oi := _) (v := ?_) rfl (by kernel_rfl) (by kernel_rfl) (by kernel_rfl) (fun _ _ _ h => h) (Or.inl ⟨by rfl, ?_⟩) (by assumption) ?_
  rotate_left
  · ((intro w hSw; (try dsimp only at hSw); go_simp) <;> (try with_reducible rfl))
  show wpAnyH _ _ _ _ _ _ _ (Act.put _ (some 10) _) _
  simp only [Act.put, List.setIfInBounds_toArray, List.set_cons_succ, List.set_cons_zero]
  refine wpAnyH_inv (fun L ac w => ∃ (p5 p6 v7 v9 v11 v12 v13 : Value) (q5 q6 : Nat), ac = { tmps := #[.slice a l.length cap, .agg #[.int .u64 (x.1 : Int), .int .u64 (x.2 : Int)], undef, .pointer (some ⟨p, 0, none⟩), .bool false, p5, p6, v7, .slice a l.length cap, v9, .agg #[.int .u64 (x.1 : Int), .int .u64 (x.2 : Int)], v11, v12, v13, undef, undef, undef], defers := [] } ∧ Hid (([0, 2].all fun i => L i) = true ∧ (ElOk N1 N2 x qh ql oh ol w L v9) ∧ (L 3 = true → v11 = .tuple #[.agg #[.int .u64 (qh : Int), .int .u64 (ql : Int)], .agg #[.int .u64 (oh : Int), .int .u64 (ol : Int)]]) ∧ (L 4 = true → v7 = .tuple #[.agg #[.int .u64 (qh : Int), .int .u64 (ql : Int)], .agg #[.int .u64 (oh : Int), .int .u64 (ol : Int)]]) ∧ (L 5 = true → v12 = .agg #[.int .u64 (qh : Int), .int .u64 (ql : Int)]) ∧ (L 6 = true → v13 = .agg #[.int .u64 (oh : Int), .int .u64 (ol : Int)]) ∧ (Vas N w L [⟨7, 9, q5, p5, (qh, ql)⟩, ⟨8, 10, q6, p6, (oh, ol)⟩]) ∧ (Below N w0 w))) (by kernel_rfl) ?hIS ?step ?done _ _ _ _ (by rfl) (by decide) ?init
  case hIS =>
    rintro L ac w ⟨_, _, _, _, _, _, _, _, _, rfl, hI⟩
    obtain ⟨hP, h1, h3, h4, h5, h6, hV, hB⟩ := hI.out
    exact E5 _ (hN ▸ hB)
  case init =>
    exact ⟨undef, undef, undef, undef, undef, undef, undef, 0, 0, rfl, by rfl, fun h => absurd h (by decide), fun h => absurd h (by decide), fun h => absurd h (by decide), fun h => absurd h (by decide), fun h => absurd h (by decide), Vas.start (by simp), hN ▸ (Below.refl w0.heap.size w0).drew⟩
  case step =>
    rintro L ac w ⟨p5, p6, v7, v9, v11, v12, v13, q5, q6, rfl, hI⟩
    refine (EachAt.cons (fun h _ => absurd (all_at hI.out.1 0 (by decide)) (by rw [show L 0 = false from h]; decide)) (EachAt.cons ?s1 (EachAt.cons (fun h _ => absurd (all_at hI.out.1 2 (by decide)) (by rw [show L 2 = false from h]; decide)) (EachAt.cons ?s3 (EachAt.cons ?s4 (EachAt.cons ?s5 (EachAt.cons ?s6 (EachAt.cons ?s7 (EachAt.cons ?s8 (EachAt.cons ?s9 (EachAt.cons ?s10 EachAt.nil)))))))))))
    case s1 =>
      intro hl hw
      have D := waits hw
      replace hl : L 1 = false := hl
      clear hw
      refine wpOp_shut (o := _) rfl (fun KK hKK => ?_)
      obtain ⟨hP, h1, h3, h4, h5, h6, hV, hB⟩ := hI.out
      have hz : N ≤ w.heap.size := hN ▸ hB.size
      have HW : Below W.heap.size W w := HB0.trans (hB.mono (hN ▸ HB0.size))
      clear D hl
      go_simp
      (go_at_call 56; refine (HE.out _ (by first | exact HW | exact HW.drew)).mono ?_; rintro e w9 ⟨a0, n0, a1, n1, rfl, hrd, hb⟩)
      exact hKK.out _ _ ⟨p5, p6, v7, _, v11, v12, v13, q5, q6, rfl, all_setL 1 hP, fun _ _ => ⟨a0, n0, a1, n1, rfl, hrd⟩, setL_un (show 3 ≠ 1 by decide) h3, setL_un (show 4 ≠ 1 by decide) h4, setL_un (show 5 ≠ 1 by decide) h5, setL_un (show 6 ≠ 1 by decide) h6, (hV.below hb).step (by simp [nums]), hB.trans (hb.mono hz)⟩
    case s3 =>
      intro hl hw
      have D := waits hw
      replace hl : L 3 = false := hl
      clear hw
      refine wpOp_shut (o := _) rfl (fun KK hKK => ?_)
      obtain ⟨hP, h1, h3, h4, h5, h6, hV, hB⟩ := hI.out
      have hz : N ≤ w.heap.size := hN ▸ hB.size
      obtain ⟨a0, n0, a1, n1, rfl, hrd⟩ := h1 (D 1 (by decide)) hl
      clear D hl
      go_simp
      (go_at_call 57; refine (hrd _ (by first | exact Below.refl _ _ | exact (Below.refl _ _).drew)).mono ?_; rintro e w9 ⟨rfl, hb⟩)
      exact hKK.out _ _ ⟨p5, p6, v7, _, _, v12, v13, q5, q6, rfl, all_setL 3 hP, h1.step 3 (by decide) hb, fun _ => rfl, setL_un (show 4 ≠ 3 by decide) h4, setL_un (show 5 ≠ 3 by decide) h5, setL_un (show 6 ≠ 3 by decide) h6, (hV.below hb).step (by simp [nums]), hB.trans (hb.mono hz)⟩
    case s4 =>
      intro hl hw
      have D := waits hw
      replace hl : L 4 = false := hl
      clear hw
      refine wpOp_shut (o := _) rfl (fun KK hKK => ?_)
      obtain ⟨hP, h1, h3, h4, h5, h6, hV, hB⟩ := hI.out
      obtain rfl := h3 (D 3 (by decide))
      clear D hl
      go_simp
      exact hKK.out _ _ ⟨p5, p6, _, v9, _, v12, v13, q5, q6, rfl, all_setL 4 hP, h1.step 4 (by decide) (Below.refl _ _), setL_un (show 3 ≠ 4 by decide) h3, fun _ => rfl, setL_un (show 5 ≠ 4 by decide) h5, setL_un (show 6 ≠ 4 by decide) h6, hV.step (by simp [nums]), hB⟩
    case s5 =>
      intro hl hw
      have D := waits hw
      replace hl : L 5 = false := hl
      clear hw
      refine wpOp_shut (o := _) rfl (fun KK hKK => ?_)
      obtain ⟨hP, h1, h3, h4, h5, h6, hV, hB⟩ := hI.out
      obtain rfl := h4 (D 4 (by decide))
      clear D hl
      go_simp
      exact hKK.out _ _ ⟨p5, p6, _, v9, v11, _, v13, q5, q6, rfl, all_setL 5 hP, h1.step 5 (by decide) (Below.refl _ _), setL_un (show 3 ≠ 5 by decide) h3, setL_un (show 4 ≠ 5 by decide) h4, fun _ => rfl, setL_un (show 6 ≠ 5 by decide) h6, hV.step (by simp [nums]), hB⟩
    case s6 =>
      intro hl hw
      have D := waits hw
      replace hl : L 6 = false := hl
      clear hw
      refine wpOp_shut (o := _) rfl (fun KK hKK => ?_)
      obtain ⟨hP, h1, h3, h4, h5, h6, hV, hB⟩ := hI.out
      obtain rfl := h4 (D 4 (by decide))
      clear D hl
      go_simp
      exact hKK.out _ _ ⟨p5, p6, _, v9, v11, v12, _, q5, q6, rfl, all_setL 6 hP, h1.step 6 (by decide) (Below.refl _ _), setL_un (show 3 ≠ 6 by decide) h3, setL_un (show 4 ≠ 6 by decide) h4, setL_un (show 5 ≠ 6 by decide) h5, fun _ => rfl, hV.step (by simp [nums]), hB⟩
    case s7 =>
      intro hl hw
      have D := waits hw
      replace hl : L 7 = false := hl
      clear hw
      refine wpOp_shut (o := _) rfl (fun KK hKK => ?_)
      obtain ⟨hP, h1, h3, h4, h5, h6, hV, hB⟩ := hI.out
      have hz : N ≤ w.heap.size := hN ▸ hB.size
      clear D
      go_simp
      exact hKK.out _ _ ⟨_, p6, v7, v9, v11, v12, v13, _, q6, rfl, all_setL 7 hP, h1.step 7 (by decide) ((Below.refl _ _).alloc (Nat.le_refl _) _), setL_un (show 3 ≠ 7 by decide) h3, setL_un (show 4 ≠ 7 by decide) h4, setL_un (show 5 ≠ 7 by decide) h5, setL_un (show 6 ≠ 7 by decide) h6, Vas.laid (l1 := []) (l2 := [⟨8, 10, q6, p6, (oh, ol)⟩]) hV hl hz (by simp [nums]), hB.alloc hz _⟩
    case s8 =>
      intro hl hw
      have D := waits hw
      replace hl : L 8 = false := hl
      clear hw
      refine wpOp_shut (o := _) rfl (fun KK hKK => ?_)
      obtain ⟨hP, h1, h3, h4, h5, h6, hV, hB⟩ := hI.out
      have hz : N ≤ w.heap.size := hN ▸ hB.size
      clear D
      go_simp
      exact hKK.out _ _ ⟨p5, _, v7, v9, v11, v12, v13, q5, _, rfl, all_setL 8 hP, h1.step 8 (by decide) ((Below.refl _ _).alloc (Nat.le_refl _) _), setL_un (show 3 ≠ 8 by decide) h3, setL_un (show 4 ≠ 8 by decide) h4, setL_un (show 5 ≠ 8 by decide) h5, setL_un (show 6 ≠ 8 by decide) h6, Vas.laid (l1 := [⟨7, 9, q5, p5, (qh, ql)⟩]) (l2 := []) hV hl hz (by simp [nums]), hB.alloc hz _⟩
    case s9 =>
      intro hl hw
      have D := waits hw
      replace hl : L 9 = false := hl
      clear hw
      refine wpOp_shut (o := _) rfl (fun KK hKK => ?_)
      obtain ⟨hP, h1, h3, h4, h5, h6, hV, hB⟩ := hI.out
      have hz : N ≤ w.heap.size := hN ▸ hB.size
      have e9 : p5 = .pointer (some ⟨q5, 0, none⟩) := (hV.ok ⟨7, 9, q5, p5, (qh, ql)⟩ (by simp)).ptr (D 7 (by decide))
      obtain rfl := h5 (D 5 (by decide))
      have D3 : L 3 = true := D 3 (by decide)
      obtain rfl := h3 D3
      subst e9
      obtain ⟨c, hE, _⟩ := (hV.ok ⟨7, 9, q5, .pointer (some ⟨q5, 0, none⟩), (qh, ql)⟩ (by simp)).room (D 7 (by decide))
      have hlow : N ≤ q5 := (hV.ok ⟨7, 9, q5, .pointer (some ⟨q5, 0, none⟩), (qh, ql)⟩ (by simp)).low (D 7 (by decide))
      obtain ⟨⟨e1, e0⟩, f1, f0⟩ := hE
      dsimp only at e1 e0 f1 f0
      have D7 := D 7 (by decide)
      have D8 := D 8 (by decide)
      clear D hl
      go_simp
      exact hKK.out _ _ ⟨_, p6, v7, v9, _, _, v13, q5, q6, rfl, all_setL 9 hP, ElOk.gone 9 D3, setL_un (show 3 ≠ 9 by decide) h3, setL_un (show 4 ≠ 9 by decide) h4, setL_un (show 5 ≠ 9 by decide) h5, setL_un (show 6 ≠ 9 by decide) h6, Vas.fill (l1 := []) (l2 := [⟨8, 10, q6, p6, (oh, ol)⟩]) (x := ⟨7, 9, q5, .pointer (some ⟨q5, 0, none⟩), (qh, ql)⟩) hV D7 (fun y hy => by simp at hy; subst hy; assumption) (by simp [nums]), (hB.setCell hlow _).setCell hlow _⟩
    case s10 =>
      intro hl hw
      have D := waits hw
      replace hl : L 10 = false := hl
      clear hw
      refine wpOp_shut (o := _) rfl (fun KK hKK => ?_)
      obtain ⟨hP, h1, h3, h4, h5, h6, hV, hB⟩ := hI.out
      have hz : N ≤ w.heap.size := hN ▸ hB.size
      have e9 : p6 = .pointer (some ⟨q6, 0, none⟩) := (hV.ok ⟨8, 10, q6, p6, (oh, ol)⟩ (by simp)).ptr (D 8 (by decide))
      obtain rfl := h6 (D 6 (by decide))
      have D3 : L 3 = true := D 3 (by decide)
      obtain rfl := h3 D3
      subst e9
      obtain ⟨c, hE, _⟩ := (hV.ok ⟨8, 10, q6, .pointer (some ⟨q6, 0, none⟩), (oh, ol)⟩ (by simp)).room (D 8 (by decide))
      have hlow : N ≤ q6 := (hV.ok ⟨8, 10, q6, .pointer (some ⟨q6, 0, none⟩), (oh, ol)⟩ (by simp)).low (D 8 (by decide))
      obtain ⟨⟨e1, e0⟩, f1, f0⟩ := hE
      dsimp only at e1 e0 f1 f0
      have D8 := D 8 (by decide)
      have D7 := D 7 (by decide)
      clear D hl
      go_simp
      exact hKK.out _ _ ⟨p5, _, v7, v9, _, v12, _, q5, q6, rfl, all_setL 10 hP, ElOk.gone 10 D3, setL_un (show 3 ≠ 10 by decide) h3, setL_un (show 4 ≠ 10 by decide) h4, setL_un (show 5 ≠ 10 by decide) h5, setL_un (show 6 ≠ 10 by decide) h6, Vas.fill (l1 := [⟨7, 9, q5, p5, (qh, ql)⟩]) (l2 := []) (x := ⟨8, 10, q6, .pointer (some ⟨q6, 0, none⟩), (oh, ol)⟩) hV D8 (fun y hy => by simp at hy; subst hy; assumption) (by simp [nums]), (hB.setCell hlow _).setCell hlow _⟩
  case done =>
    rintro L ac w ⟨p5, p6, v7, v9, v11, v12, v13, q5, q6, rfl, hI⟩ hAll
    obtain ⟨hP, h1, h3, h4, h5, h6, hV, hB⟩ := hI.out
    clear hI hP
    have ep5 : p5 = .pointer (some ⟨q5, 0, none⟩) := (hV.ok ⟨7, 9, q5, p5, (qh, ql)⟩ (by simp)).ptr (hAll 7 (by decide))
    have Eq5 : El w q5 qh ql := (hV.ok ⟨7, 9, q5, p5, (qh, ql)⟩ (by simp)).el (hAll 9 (by decide))
    have ep6 : p6 = .pointer (some ⟨q6, 0, none⟩) := (hV.ok ⟨8, 10, q6, p6, (oh, ol)⟩ (by simp)).ptr (hAll 8 (by decide))
    obtain rfl := h3 (hAll 3 (by decide))
    obtain rfl := h4 (hAll 4 (by decide))
    obtain rfl := h5 (hAll 5 (by decide))
    obtain rfl := h6 (hAll 6 (by decide))
    subst ep5 ep6
    have HW : Below W.heap.size W w := HB0.trans (hB.mono (hN ▸ HB0.size))
    clear h1 h3 h4 h5 h6 hV hAll hHeld hB E5 HB0 HE
    refine NoPanic.normal ?_
    have r1 := Eq5.hi
    have r0 := Eq5.lo
    go_wp2
    all_goals go_ret
    all_goals exact ⟨by simp [*], HW⟩
end Go.Proofs.Ytnecjkdlmecgdaa

namespace Go.Proofs.Ytnecjkdlmecgdaa
open Go.RowKit
open Cb Rg Sq

/-- The leading bit of the first i. -/
def ldi (x : Nat × Nat) : Nat → Int
  | 0 => -1
  | i + 1 => if hs x i = true then (i : Int) else ldi x i
theorem ldi_ge (x : Nat × Nat) : ∀ i, -1 ≤ ldi x i ∧ ldi x i < i
  | 0 => by simp [ldi]
  | i + 1 => by
    have := ldi_ge x i
    unfold ldi; split <;> omega
theorem ldi_hs (x : Nat × Nat) : ∀ i b, b < i → hs x b = true → (b : Int) ≤ ldi x i
  | 0, b, h, _ => by omega
  | i + 1, b, h, hb => by
    unfold ldi
    split
    · omega
    · rename_i c
      have : b ≠ i := fun e => c (e ▸ hb)
      exact ldi_hs x i b (by omega) hb
theorem ldi_is (x : Nat × Nat) : ∀ i, ldi x i = -1 ∨ ∃ b : Nat, ldi x i = (b : Int) ∧ hs x b = true
  | 0 => .inl rfl
  | i + 1 => by
    unfold ldi; split
    · rename_i c; exact .inr ⟨i, rfl, c⟩
    · exact ldi_is x i
theorem ldi_all {x : Nat × Nat} (hx : lt2 x) : ldi x 128 = (lngE x : Int) - 1 := by
  by_cases h0 : x = (0, 0)
  · rcases ldi_is x 128 with h | ⟨b, _, h⟩
    · rw [h, h0]; rfl
    · rw [h0, hs_zero] at h; cases h
  · have h1 := ldi_hs x 128 (ld x) (ld_lt hx h0) (hs_ld hx h0)
    have h2 := lng_ld hx h0
    rcases ldi_is x 128 with h | ⟨b, h, hb⟩
    · omega
    · have := le_ld hx hb; omega
/-- Numbers in memory. -/
structure IRow (w : World) (a : Option Addr) (fr : List Nat) : Prop where
  cells : ∀ i, i < fr.length → ∃ b off, a = some ⟨b, off, none⟩ ∧ b < w.heap.size ∧ w.cell? ⟨b, off + i, none⟩ = some (.int .i64 ((fr.getD i 0 : Nat) : Int))
theorem ints_at (fr : List Nat) {i : Nat} (h : i < fr.length) : (ints fr)[i]? = some (.int .i64 ((fr.getD i 0 : Nat) : Int)) := by
  simp [ints, List.getD, h]
theorem own_irow {w : World} {base : Nat} {a : Option Addr} {c : Nat} {fr : List Nat} (h : w.ownsRow base 3 1 (.slice a fr.length c) fr.length (ints fr)) : IRow w a fr := by
  rcases h.2 with ⟨h1, h0⟩ | ⟨g, cap, cur, e, _⟩
  · exact ⟨fun i hi => by omega⟩
  · have e1 : a = some ⟨g, 0, none⟩ := by injection e
    have e2 : c = cap := by injection e
    subst e1 e2
    refine ⟨fun i hi => ?_⟩
    have c0 := (own_cell h i (by omega)).1
    rw [ints_at fr hi] at c0
    exact ⟨g, 0, rfl, cell_lt c0, by rw [Nat.zero_add]; exact c0⟩
theorem IRow.below {w w' : World} {a : Option Addr} {fr : List Nat} (h : IRow w a fr) (hb : Below w.heap.size w w') : IRow w' a fr := ⟨fun i hi => by
  obtain ⟨b, off, e, hl, c⟩ := h.cells i hi
  exact ⟨b, off, e, Nat.lt_of_lt_of_le hl hb.size, keepc hb c⟩⟩
set_option maxHeartbeats 2000000 in
theorem rin04 (a : Option Addr) (cap : Nat) (fr : List Nat) (n : Nat) (hn : fr.length ≤ 1000) (W : World) (hr : IRow W a fr) :
    Calls Try.prog 80 #[.slice a fr.length cap, .int .i64 (n : Int)] W fun e w' => e = .returned (.bool (fr.contains n)) ∧ Below W.heap.size W w' := by
  have HR := hidT hr
  clear hr
  go_enter Try.func80, Try.ntmps80
  go_wp2_with fail
  go_loopw [5] (fun u wr => ∃ j : Nat, j ≤ fr.length ∧ u = .int .i64 j ∧ Hid (∀ i, i < j → fr.getD i 0 ≠ n) ∧ Below W.heap.size W wr) (fun u _ => fr.length - (intOf u).toNat)
  case atStart => exact ⟨0, Nat.zero_le _, rfl, (by show ∀ _, _; omega), Below.refl _ _⟩
  case round =>
    obtain ⟨j, hj, rfl, HN, hD⟩ := hrel
    have HD := hidT hD
    by_cases hlt : j < fr.length
    · obtain ⟨b, off, rfl, hb, c0⟩ := HR.out.cells j hlt
      have d0 := keepc hD c0
      have HC : Hid (fr.getD j 0 ∈ fr) := by
        show _ ∈ _
        rw [show fr.getD j 0 = fr[j] by simp [List.getD, hlt]]; exact List.getElem_mem hlt
      have HM : Hid (fr.getD j 0 ≠ n → ∀ i, i < j + 1 → fr.getD i 0 ≠ n) := fun h i hi => by
        by_cases e : i = j
        · rw [e]; exact h
        · exact HN.out i (by omega)
      clear c0 hD HN
      generalize fr.getD j 0 = y at *
      by_cases hy : y = n
      · subst hy
        go_wp2
        go_ret
        exact ⟨by rw [List.contains_iff_mem.2 HC.out]; rfl, HD.out⟩
      · have h1 := hidT (HM.out hy)
        have hy' : ¬ (y : Int) = (n : Int) := by omega
        clear HM hy
        go_wp2
        exact ⟨⟨j + 1, hlt, by simp, h1, HD.out⟩, by simp [intOf]; omega⟩
    · obtain rfl : j = fr.length := by omega
      have HF : Hid (fr.contains n = false) := by
        show _ = _
        rw [Bool.eq_false_iff]
        intro h
        obtain ⟨i, hi, e⟩ := List.getElem_of_mem (List.contains_iff_mem.1 h)
        exact HN.out i hi (by rw [← e]; simp [List.getD, hi])
      clear hD
      go_wp2
      go_ret
      exact ⟨by rw [HF.out]; rfl, HD.out⟩
end Go.Proofs.Ytnecjkdlmecgdaa

namespace Go.Proofs.Ytnecjkdlmecgdaa
open Go.RowKit
open Cb Rg Sq

theorem clr_take (rows : List (Nat × Nat)) (a bit j : Nat) (h : j < rows.length) : (clr rows a bit).take (j + 1) = (clr rows a bit).take j ++ [clr1 rows a bit j] := by
  rw [take_sn _ j (by rw [clr_len]; exact h)]
  congr 2
  exact clr_at rows a bit j
set_option maxHeartbeats 8000000 in
set_option maxRecDepth 100000 in
theorem rclear04 (a : Option Addr) (cap at' bit : Nat) (es : List (Nat × Nat)) (hes : ltE es) (hn : es.length ≤ 1000) (ha : at' < es.length) (hb : bit < 128) (W : World) (hr : ERow W a es) :
    Calls Try.prog 81 #[.slice a es.length cap, .int .i64 (at' : Int), .int .i64 (bit : Int)] W fun e w' => ∃ a' cap', e = .returned (.slice a' es.length cap') ∧ w'.ownsRow W.heap.size 39 2 (.slice a' es.length cap') es.length (flat (clr es at' bit)) ∧ Below W.heap.size W w' := by
  have HC : Hid (ERow W a es) := hr
  have HH : Hid (∀ j : Nat, Ret 68 #[.agg #[.int .u64 ((el es j).1 : Int), .int .u64 ((el es j).2 : Int)], .int .i64 (bit : Int)] (.bool (hs (el es j) bit))) := fun j => has_any _ _ _ (ltE_el hes j).1 (ltE_el hes j).2 hb
  have HA : Hid (∀ j : Nat, Ret 49 #[.agg #[.int .u64 ((el es j).1 : Int), .int .u64 ((el es j).2 : Int)], .agg #[.int .u64 ((el es at').1 : Int), .int .u64 ((el es at').2 : Int)]] (.agg #[.int .u64 ((xa (el es j) (el es at')).1 : Int), .int .u64 ((xa (el es j) (el es at')).2 : Int)])) := fun j => radd _ _ _ _ (ltE_el hes j).1 (ltE_el hes j).2 (ltE_el hes at').1 (ltE_el hes at').2
  obtain ⟨i0, hi, hz0, hz1, hz2⟩ := info_relem
  have HI : Hid (Try.prog.info? 39 = some i0 ∧ i0.zero = some (.agg #[.int .u64 0, .int .u64 0]) ∧ i0.size = 2 ∧ i0.bytes = 16) := ⟨hi, hz0, hz1, hz2⟩
  have a1 : (at' : Int) < (es.length : Int) := by omega
  clear hr hes hb hi hz0 hz1 hz2
  go_enter Try.func81, Try.ntmps81
  go_wp2_with fail
  go_loopw [7, 8] (fun v u wr => ∃ j : Nat, j ≤ es.length ∧ u = .int .i64 j ∧ wr.ownsRow W.heap.size 39 2 v j (flat ((clr es at' bit).take j)) ∧ Below W.heap.size W wr) (fun _ u _ => es.length - (intOf u).toNat)
  case atStart => exact ⟨0, Nat.zero_le _, rfl, ⟨by simp [flat], .inl ⟨rfl, rfl⟩⟩, Below.refl _ _⟩
  case round =>
    obtain ⟨j, hj, rfl, hown, hbw⟩ := hrel
    by_cases hlt : j < es.length
    · obtain ⟨b, off, rfl, hb, c1, c0⟩ := HC.out.cells j hlt
      obtain ⟨b', off', e', hb', y1', y0'⟩ := HC.out.cells at' ha
      injection e' with e'; injection e' with e1 e2; subst e1; subst e2
      have HX : Hid (W.cell? ⟨b, off + j * 2, none⟩ = some (.int .u64 ((el es j).1 : Int)) ∧ W.cell? ⟨b, off + j * 2 + 1, none⟩ = some (.int .u64 ((el es j).2 : Int)) ∧ W.cell? ⟨b, off + at' * 2, none⟩ = some (.int .u64 ((el es at').1 : Int)) ∧ W.cell? ⟨b, off + at' * 2 + 1, none⟩ = some (.int .u64 ((el es at').2 : Int))) := ⟨c1, c0, y1', y0'⟩
      have HO : Hid (wr.ownsRow W.heap.size 39 2 u7 j (flat ((clr es at' bit).take j)) ∧ Below W.heap.size W wr) := ⟨hown, hbw⟩
      have HN : Hid ((clr es at' bit).take (j + 1) = (clr es at' bit).take j ++ [clr1 es at' bit j]) := clr_take es at' bit j hlt
      have HY : Hid (clr1 es at' bit j = if j ≠ at' ∧ hs (el es j) bit = true then xa (el es j) (el es at') else el es j) := by show _ = _; rfl
      have H1 := hidT (HH.out j)
      have H2 := hidT (HA.out j)
      have x1 := keepc hbw HX.out.1
      have x0 := keepc hbw HX.out.2.1
      have j1 : (j : Int) < (es.length : Int) := by omega
      clear c1 c0 y1' y0' hown hbw HH HA HC
      generalize clr1 es at' bit j = z at *
      generalize xa (el es j) (el es at') = xz at *
      generalize hs (el es j) bit = bb at *
      generalize el es j = x at *
      generalize el es at' = y at *
      by_cases hja : j = at'
      · have hq : (j : Int) = (at' : Int) := by omega
        have HZ : Hid (z = x) := by show _ = _; rw [HY.out, if_neg (by simp [hja])]
        have hne : ((j : Int) != (at' : Int)) = false := by simp [hq]
        clear HY hja H1 H2 hq
        go_wp2_with (at_builtin; refine wpList_append_own _ rfl _ _ 34 rfl W.heap.size 39 i0 (.agg #[.int .u64 0, .int .u64 0]) 2 16 Try.underlying34 HI.out.1 HI.out.2.1 HI.out.2.2.1 HI.out.2.2.2 rfl (by decide) _ _ _ rfl (own_below HO.out.1 (by go_grown)) ⟨wr.heap.size, 0, none⟩ 1 1 [.int .u64 (x.1 : Int), .int .u64 (x.2 : Int)] rfl rfl (fun p u hu => by rcases p with _ | _ | p <;> simp at hu <;> subst hu <;> simp [go_sem]) (by intro u hu; simp at hu; rcases hu with rfl | rfl <;> rfl) (by simp only [maxLen]; omega) (by omega) (by have := HO.out.2.size; simp; omega) ?_; intro v' w' hown' hgr _)
        refine ⟨⟨j + 1, hlt, by simp, ?_, ?_⟩, by simp [intOf]; omega⟩
        · rw [HN.out, HZ.out, flat_snoc]; exact hown'
        · exact (HO.out.2.alloc HO.out.2.size _).grown hgr (by have := HO.out.2.size; simp; omega) fun k hk => (HO.out.1.lt k hk).1
      · have hq : ¬ (j : Int) = (at' : Int) := by omega
        cases bb
        · have HZ : Hid (z = x) := by show _ = _; rw [HY.out, if_neg (by simp)]
          clear HY hja H2
          go_wp2_with (first
            | (go_at_call 68; refine (H1.out.go _).mono ?_; rintro e w4 ⟨rfl, hb4⟩; have HO4 : Hid (w4.ownsRow W.heap.size 39 2 u7 j (flat ((clr es at' bit).take j)) ∧ Below W.heap.size W w4) := ⟨own_below HO.out.1 hb4, HO.out.2.trans (hb4.mono HO.out.2.size)⟩; clear HO hb4 x1 x0; have x1 := keepc HO4.out.2 HX.out.1; have x0 := keepc HO4.out.2 HX.out.2.1)
            | (at_builtin; refine wpList_append_own _ rfl _ _ 34 rfl W.heap.size 39 i0 (.agg #[.int .u64 0, .int .u64 0]) 2 16 Try.underlying34 HI.out.1 HI.out.2.1 HI.out.2.2.1 HI.out.2.2.2 rfl (by decide) _ _ _ rfl (own_below HO4.out.1 (by go_grown)) ⟨w4.heap.size, 0, none⟩ 1 1 [.int .u64 (x.1 : Int), .int .u64 (x.2 : Int)] rfl rfl (fun p u hu => by rcases p with _ | _ | p <;> simp at hu <;> subst hu <;> simp [go_sem]) (by intro u hu; simp at hu; rcases hu with rfl | rfl <;> rfl) (by simp only [maxLen]; omega) (by omega) (by have := HO4.out.2.size; simp; omega) ?_; intro v' w' hown' hgr _))
          refine ⟨⟨j + 1, hlt, by simp, ?_, ?_⟩, by simp [intOf]; omega⟩
          · rw [HN.out, HZ.out, flat_snoc]; exact hown'
          · exact (HO4.out.2.alloc HO4.out.2.size _).grown hgr (by have := HO4.out.2.size; simp; omega) fun k hk => (HO4.out.1.lt k hk).1
        · have HZ : Hid (z = xz) := by show _ = _; rw [HY.out, if_pos ⟨hja, rfl⟩]
          clear HY hja
          go_upto_region 6 with (go_at_call 68; refine (H1.out.go _).mono ?_; rintro e w4 ⟨rfl, hb4⟩; have O : Hid (w4.ownsRow W.heap.size 39 2 u7 j (flat ((clr es at' bit).take j)) ∧ Below W.heap.size W w4) := ⟨own_below HO.out.1 hb4, HO.out.2.trans (hb4.mono HO.out.2.size)⟩; clear HO hb4 x1 x0)
          have F : w4.cell? ⟨b, off + j * 2, none⟩ = some (.int .u64 (x.1 : Int)) ∧ w4.cell? ⟨b, off + j * 2 + 1, none⟩ = some (.int .u64 (x.2 : Int)) ∧ w4.cell? ⟨b, off + at' * 2, none⟩ = some (.int .u64 (y.1 : Int)) ∧ w4.cell? ⟨b, off + at' * 2 + 1, none⟩ = some (.int .u64 (y.2 : Int)) := ⟨keepc O.out.2 HX.out.1, keepc O.out.2 HX.out.2.1, keepc O.out.2 HX.out.2.2.1, keepc O.out.2 HX.out.2.2.2⟩
          have lB := O.out.2.size
          go_region_held3 (fun w => w.cell? ⟨b, off + j * 2, none⟩ = some (.int .u64 (x.1 : Int)) ∧ w.cell? ⟨b, off + j * 2 + 1, none⟩ = some (.int .u64 (x.2 : Int)) ∧ w.cell? ⟨b, off + at' * 2, none⟩ = some (.int .u64 (y.1 : Int)) ∧ w.cell? ⟨b, off + at' * 2 + 1, none⟩ = some (.int .u64 (y.2 : Int)))
            (first | (go_keep; done) | exact ⟨keepc O.out.2 HX.out.1, keepc O.out.2 HX.out.2.1, keepc O.out.2 HX.out.2.2.1, keepc O.out.2 HX.out.2.2.2⟩)
            (first
              | (go_at_call 49; refine (H2.out.go _).mono ?_; rintro e w' ⟨rfl, hb'⟩; have O' : Hid (w'.ownsRow W.heap.size 39 2 u7 j (flat ((clr es at' bit).take j)) ∧ Below W.heap.size W w') := (by first | exact ⟨own_below O.out.1 hb', O.out.2.trans (hb'.mono O.out.2.size)⟩ | exact ⟨own_below O.out.1.drew hb', O.out.2.drew.trans (hb'.mono O.out.2.size)⟩); clear F O hb' lB; have O := O'; clear O'; have lB := O.out.2.size)
              | (refine step_append_lies _ (by rfl) _ _ _ (by rfl) W.heap.size 39 i0 _ 2 16 Try.underlying34 HI.out.1 HI.out.2.1 HI.out.2.2.1 HI.out.2.2.2 rfl (by omega) u7 j _ (by rfl) (O.out.1.alloc _) ⟨w'.heap.size, 0, none⟩ 1 1 [.int .u64 (xz.1 : Int), .int .u64 (xz.2 : Int)] (by rfl) (by rfl) (World.news_of_block (cs := #[.int .u64 (xz.1 : Int), .int .u64 (xz.2 : Int)]) (t := 39) (fr := (0, 0)) (heap_alloc_new w' _)) (by simp [Value.oneCell']) (by omega) (by simp only [maxLen]; omega) (by omega) (by simp; omega) (w'.heap.size + 1) (by simp) ?_; intro gg cap w5 hown5 hgrow hat hlt5; have O' : Hid (w5.ownsRow W.heap.size 39 2 (.slice (some ⟨gg, 0, none⟩) (j + 1) cap) (j + 1) (flat ((clr es at' bit).take j) ++ [.int .u64 (xz.1 : Int), .int .u64 (xz.2 : Int)]) ∧ Below W.heap.size W w5) := ⟨hown5, (O.out.2.alloc lB _).grown hgrow (by simp; omega) (fun g hg => (O.out.1.lt g hg).1)⟩; clear O hown5 hgrow hat hlt5; have O := O'; clear O'))
          go_wp2
          refine ⟨⟨j + 1, hlt, by simp, ?_, O.out.2⟩, by simp [intOf]; omega⟩
          rw [HN.out, HZ.out, flat_snoc]
          exact O.out.1
    · have hje : j = es.length := by omega
      subst hje
      have hl := clr_len es at' bit
      rw [List.take_of_length_le (by omega)] at hown
      have HB : Hid (Below W.heap.size W wr) := hbw
      obtain ⟨a', cap', hv⟩ := own_slc hown
      subst hv
      have HE := hidT hown
      clear hown hbw HC
      go_wp2
      go_ret
      exact ⟨_, _, rfl, HE.out, HB.out⟩
end Go.Proofs.Ytnecjkdlmecgdaa

namespace Go.Proofs.Ytnecjkdlmecgdaa
open Go.RowKit
open Cb Rg Sq

/-- Rows that are the argument's, or of one's own. -/
structure RO (W w : World) (a : Option Addr) (c : Nat) (es : List (Nat × Nat)) : Prop where
  row : ERow w a es
  own : (ERow W a es ∧ ∀ b off, a = some ⟨b, off, none⟩ → 0 < es.length → b < W.heap.size) ∨ w.ownsRow W.heap.size 39 2 (.slice a es.length c) es.length (flat es)
theorem erow_far {w w' : World} {a : Option Addr} {es : List (Nat × Nat)} {ob : Option Nat} (h : ERow w a es) (hg : w.grownBy w' ob) (hne : ∀ g off, a = some ⟨g, off, none⟩ → ob ≠ some g) : ERow w' a es := ⟨fun i hi => by
  obtain ⟨b, off, e, hb, c1, c0⟩ := h.cells i hi
  have hn : some b ≠ ob := fun h => hne b off e h.symm
  exact ⟨b, off, e, Nat.lt_of_lt_of_le hb hg.size, by rw [hg.cell_far ⟨b, off + i * 2, none⟩ hb hn]; exact c1, by rw [hg.cell_far ⟨b, off + i * 2 + 1, none⟩ hb hn]; exact c0⟩⟩
theorem RO.start {W : World} {a : Option Addr} {c : Nat} {es : List (Nat × Nat)} (h : ERow W a es) : RO W W a c es := ⟨h, .inl ⟨h, fun b off e h0 => by
  obtain ⟨b', off', e', hb, _⟩ := h.cells 0 h0
  rw [e] at e'; injection e' with e'; injection e' with e1 _; omega⟩⟩
theorem RO.below {W w w' : World} {a : Option Addr} {c : Nat} {es : List (Nat × Nat)} (h : RO W w a c es) (hb : Below w.heap.size w w') : RO W w' a c es :=
  ⟨h.row.below hb, h.own.elim .inl fun o => .inr (own_below o hb)⟩
theorem RO.mine {W w : World} {base : Nat} {a : Option Addr} {c : Nat} {es : List (Nat × Nat)} (h : w.ownsRow base 39 2 (.slice a es.length c) es.length (flat es)) (hb : W.heap.size ≤ base) : RO W w a c es := by
  obtain ⟨a', c', e, hr⟩ := own_row h
  injection e with e1 _ e3
  subst e1 e3
  exact ⟨hr, .inr (own_base h hb)⟩
theorem RO.grown {W w w' : World} {a : Option Addr} {c : Nat} {es : List (Nat × Nat)} {v : Value} {n : Nat} {xs : List Value} (h : RO W w a c es) (o : w.ownsRow W.heap.size 3 1 v n xs) (hg : w.grownBy w' v.ownBlock) : RO W w' a c es := by
  rcases h.own with ⟨h1, h2⟩ | h1
  · have hne : 0 < es.length → ∀ g off, a = some ⟨g, off, none⟩ → v.ownBlock ≠ some g := fun h0 g off e k => by
      have := h2 g off e h0
      have := (o.lt g k).1
      omega
    by_cases h0 : 0 < es.length
    · exact ⟨erow_far h.row hg (hne h0), .inl ⟨h1, h2⟩⟩
    · exact ⟨⟨fun i hi => by omega⟩, .inl ⟨h1, h2⟩⟩
  · have k : w'.ownsRow W.heap.size 39 2 (.slice a es.length c) es.length (flat es) := own_keep h1 fun g hk => hg.block g (h1.lt g hk).2 fun e => own_unlike h1 o (by decide) g e.symm hk
    exact RO.mine k (Nat.le_refl _)
def oat : Option Nat → Int
  | none => -1
  | some a => (a : Int)
/-- All that the document's Basis holds while it goes on. -/
structure Bs (W w : World) (l : List (Nat × Nat)) (s : List (Nat × Nat) × List Nat) (k : Nat) (a3 : Option Addr) (c3 : Nat) (v4 : Value) : Prop where
  j : J l k s
  done : rbw s k = rbw (l, []) 128
  cnt : s.2.length ≤ 128 - k
  row : RO W w a3 c3 s.1
  tk : w.ownsRow W.heap.size 3 1 v4 s.2.length (ints s.2)
  d : Below W.heap.size W w
theorem Bs.below {W w w' : World} {l : List (Nat × Nat)} {s : List (Nat × Nat) × List Nat} {k : Nat} {a3 : Option Addr} {c3 : Nat} {v4 : Value} (h : Bs W w l s k a3 c3 v4) (hb : Below w.heap.size w w') : Bs W w' l s k a3 c3 v4 := ⟨h.j, h.done, h.cnt, h.row.below hb, own_below h.tk hb, h.d.trans (hb.mono h.d.size)⟩
theorem flat_ent (es : List (Nat × Nat)) (h : es.length = 0) : es = [] := List.eq_nil_of_length_eq_zero h
set_option maxHeartbeats 16000000 in
set_option maxRecDepth 100000 in
theorem rbasis04 (a : Option Addr) (cap : Nat) (l : List (Nat × Nat)) (hl : ltE l) (hn : l.length ≤ 1000) (W : World) (hr : ERow W a l) :
    Calls Try.prog 66 #[.slice a l.length cap] W fun e w' => ∃ a' cap', e = .returned (.slice a' (rb l).length cap') ∧ w'.ownsRow W.heap.size 39 2 (.slice a' (rb l).length cap') (rb l).length (flat (rb l)) ∧ Below W.heap.size W w' := by
  have K0 : Hid (Bs W W l (l, []) 128 a cap (.slice none 0 0)) := ⟨J.start hl, rfl, by simp, RO.start hr, World.ownsRow_nil _ _ _ _, Below.refl _ _⟩
  obtain ⟨i0, hi, hz0, hz1, hz2⟩ := info_relem
  have HI : Hid (Try.prog.info? 39 = some i0 ∧ i0.zero = some (.agg #[.int .u64 0, .int .u64 0]) ∧ i0.size = 2 ∧ i0.bytes = 16) := ⟨hi, hz0, hz1, hz2⟩
  obtain ⟨i1, ji, jz0, jz1, jz2⟩ := info_sint
  have HJ : Hid (Try.prog.info? 3 = some i1 ∧ i1.zero = some (.int .i64 0) ∧ i1.size = 1 ∧ i1.bytes = 8) := ⟨ji, jz0, jz1, jz2⟩
  have HRB : Hid (rb l = (rbw (l, []) 128).2.map (el (rbw (l, []) 128).1)) := by show _ = _; rfl
  generalize rb l = R at *
  obtain ⟨n, hnl⟩ : ∃ n, n = l.length := ⟨_, rfl⟩
  rw [← hnl] at hn ⊢
  have HNL : Hid (n = l.length) := hnl
  clear hi hz0 hz1 hz2 ji jz0 jz1 jz2 hl hr hnl
  go_enter Try.func66, Try.ntmps66
  go_wp2_with fail
  go_loopw [3, 4, 5] (fun r t u wr => ∃ (k : Nat) (c : Int) (s : List (Nat × Nat) × List Nat) (a3 : Option Addr) (c3 : Nat), k ≤ 128 ∧ u = .int .i64 c ∧ c = (k : Int) - 1 ∧ r = .slice a3 n c3 ∧ Hid (Bs W wr l s k a3 c3 t)) (fun _ _ u _ => (intOf u + 1).toNat)
  case atStart => exact ⟨128, 127, (l, []), a, cap, Nat.le_refl _, rfl, rfl, rfl, K0⟩
  case round =>
    obtain ⟨k, c, s, a3, c3, hk, rfl, hc, rfl, HK⟩ := hrel
    clear K0
    obtain ⟨a4, c4, rfl⟩ := own_slc HK.out.tk
    have hcnt := HK.out.cnt
    have HN : Hid (s.1.length = n) := by show _ = _; rw [HK.out.j.len, HNL.out]
    obtain ⟨N4, hN4⟩ : ∃ N4, N4 = s.2.length := ⟨_, rfl⟩
    rw [← hN4] at hcnt ⊢
    have HN4 : Hid (s.2.length = N4) := hN4.symm
    clear hN4
    rcases k with _ | k
    · have e1 : c = -1 := by omega
      have HR : Hid (R = s.2.map (el s.1)) := by
        have := HK.out.done
        rw [rbw_zero] at this
        show _ = _
        rw [HRB.out, ← this]
      have HRL : Hid (R.length = N4) := by show _ = _; rw [HR.out, List.length_map, HN4.out]
      have HT : Hid (IRow wr a4 s.2 ∧ ERow wr a3 s.1 ∧ (∀ j, j < N4 → s.2.getD j 0 < n ∧ el R j = el s.1 (s.2.getD j 0))) := by
        have hh := HK.out.tk
        refine ⟨own_irow (c := c4) (by rw [HN4.out]; rw [HN4.out] at hh; exact hh), HK.out.row.row, fun j hj => ?_⟩
        have hj' : j < s.2.length := by rw [HN4.out]; exact hj
        have e2 : s.2.getD j 0 = s.2[j] := by simp [List.getD, hj']
        rw [e2]
        refine ⟨by rw [HNL.out]; exact HK.out.j.tk _ (List.getElem_mem hj'), ?_⟩
        rw [HR.out]
        simp [el, List.getD, hj']
      have HD := hidT HK.out.d
      clear HK HRB HJ
      have e2 : ¬ (0 : Int) ≤ c := by omega
      clear e1 hc
      go_wp2_with fail
      obtain ⟨wb, hwb⟩ : ∃ wb, wb = wr := ⟨_, rfl⟩
      rw [← hwb] at HT HD
      go_loopw [8, 9] (fun v u wr => ∃ j : Nat, j ≤ N4 ∧ u = .int .i64 j ∧ wr.ownsRow wb.heap.size 39 2 v j (flat (R.take j)) ∧ Below wb.heap.size wb wr) (fun _ u _ => N4 - (intOf u).toNat)
      case atStart => exact ⟨0, Nat.zero_le _, rfl, ⟨by simp [flat], .inl ⟨rfl, rfl⟩⟩, by rw [hwb]; exact Below.refl _ _⟩
      case round =>
        obtain ⟨j, hj, rfl, hown, hbw⟩ := hrel
        by_cases hlt : j < N4
        · obtain ⟨b, off, rfl, hb, c0⟩ := HT.out.1.cells j (by rw [HN4.out]; exact hlt)
          obtain ⟨ht, he⟩ := HT.out.2.2 j hlt
          obtain ⟨b2, off2, rfl, hb2, d1, d0⟩ := HT.out.2.1.cells (s.2.getD j 0) (by rw [HN.out]; exact ht)
          have t0 := keepc hbw c0
          have y1 : wr.cell? ⟨b2, off2 + s.2.getD j 0 * 2, none⟩ = some (.int .u64 ((el R j).1 : Int)) := by rw [he]; exact keepc hbw d1
          have y0 : wr.cell? ⟨b2, off2 + s.2.getD j 0 * 2 + 1, none⟩ = some (.int .u64 ((el R j).2 : Int)) := by rw [he]; exact keepc hbw d0
          have HTK : Hid (R.take (j + 1) = R.take j ++ [el R j]) := take_sn R j (by rw [HRL.out]; exact hlt)
          have HO : Hid (wr.ownsRow wb.heap.size 39 2 u8 j (flat (R.take j)) ∧ Below wb.heap.size wb wr) := ⟨hown, hbw⟩
          have j1 : (j : Int) < (N4 : Int) := by omega
          clear c0 d1 d0 he HT hown hbw hwb
          generalize s.2.getD j 0 = t at *
          generalize el R j = x at *
          have t1 : (t : Int) < (n : Int) := by omega
          go_wp2_with (at_builtin; refine wpList_append_own _ rfl _ _ 34 rfl wb.heap.size 39 i0 (.agg #[.int .u64 0, .int .u64 0]) 2 16 Try.underlying34 HI.out.1 HI.out.2.1 HI.out.2.2.1 HI.out.2.2.2 rfl (by decide) _ _ _ rfl (own_below HO.out.1 (by go_grown)) ⟨wr.heap.size, 0, none⟩ 1 1 [.int .u64 (x.1 : Int), .int .u64 (x.2 : Int)] rfl rfl (fun p u hu => by rcases p with _ | _ | p <;> simp at hu <;> subst hu <;> simp [go_sem]) (by intro u hu; simp at hu; rcases hu with rfl | rfl <;> rfl) (by simp only [maxLen]; omega) (by omega) (by have := HO.out.2.size; simp; omega) ?_; intro v' w' hown' hgr _)
          refine ⟨⟨j + 1, hlt, by simp, ?_, ?_⟩, by simp [intOf]; omega⟩
          · rw [HTK.out, flat_snoc]; exact hown'
          · exact (HO.out.2.alloc HO.out.2.size _).grown hgr (by have := HO.out.2.size; simp; omega) fun k hk => (HO.out.1.lt k hk).1
        · obtain rfl : j = N4 := by omega
          rw [List.take_of_length_le (by rw [HRL.out]; exact Nat.le_refl _)] at hown
          obtain ⟨a', cap', hv⟩ := own_slc hown
          subst hv
          have HE := hidT hown
          have HB := hidT (HD.out.trans (hbw.mono HD.out.size))
          have HB2 := HD.out.size
          clear hown hbw HT
          go_wp2
          go_ret
          exact ⟨a', cap', by rw [HRL.out]; rfl, by rw [HRL.out]; exact own_base HE.out HB2, HB.out⟩
    · obtain rfl : c = (k : Int) := by omega
      clear hc
      have HF : Hid (∀ i, i < n → (∀ w, Below wr.heap.size wr w → Calls Try.prog 80 #[.slice a4 N4 c4, .int .i64 (i : Int)] w fun e w' => e = .returned (.bool (s.2.contains i)) ∧ Below w.heap.size w w') ∧ Ret 68 #[.agg #[.int .u64 ((el s.1 i).1 : Int), .int .u64 ((el s.1 i).2 : Int)], .int .i64 (k : Int)] (.bool (hs (el s.1 i) k))) := fun i hi => by
        have hh := HK.out.tk
        refine ⟨fun w hw => ?_, has_any _ _ _ (ltE_el HK.out.j.lt i).1 (ltE_el HK.out.j.lt i).2 (by omega)⟩
        have := rin04 a4 c4 s.2 i (by rw [HN4.out]; omega) w
        rw [HN4.out] at this
        refine this (IRow.below (own_irow (c := c4) (by rw [HN4.out]; rw [HN4.out] at hh; exact hh)) hw)
      go_wp2_with fail
      obtain ⟨wb, hwb⟩ : ∃ wb, wb = wr := ⟨_, rfl⟩
      rw [← hwb] at HK HF
      go_loopw [6, 7] (fun p u wr => ∃ (i : Nat), i ≤ n ∧ u = .int .i64 i ∧ p = .int .i64 (oat (fat s.1 s.2 k i)) ∧ Below wb.heap.size wb wr) (fun _ u _ => n - (intOf u).toNat)
      case atStart => exact ⟨0, Nat.zero_le _, rfl, rfl, by rw [hwb]; exact Below.refl _ _⟩
      case round =>
        obtain ⟨i, hi, rfl, rfl, hD⟩ := hrel
        clear hwb
        by_cases hlt : i < n
        · obtain ⟨b, off, rfl, hb, c1, c0⟩ := HK.out.row.row.cells i (by rw [HN.out]; exact hlt)
          have x1 : wr.cell? ⟨b, off + i * 2, none⟩ = some (.int .u64 ((el s.1 i).1 : Int)) := keepc hD c1
          have x0 : wr.cell? ⟨b, off + i * 2 + 1, none⟩ = some (.int .u64 ((el s.1 i).2 : Int)) := keepc hD c0
          have HC : Hid (wb.cell? ⟨b, off + i * 2, none⟩ = some (.int .u64 ((el s.1 i).1 : Int)) ∧ wb.cell? ⟨b, off + i * 2 + 1, none⟩ = some (.int .u64 ((el s.1 i).2 : Int))) := ⟨c1, c0⟩
          have HS : Hid (fat s.1 s.2 k (i + 1) = match fat s.1 s.2 k i with
            | some a => some a
            | none => if (hs (el s.1 i) k && !s.2.contains i) = true then some i else none) := by show _ = _; rfl
          have HD := hidT hD
          have HI1 := hidT (HF.out i hlt).1
          have HI2 := hidT (HF.out i hlt).2
          have i1 : (i : Int) < (n : Int) := by omega
          clear c1 c0 hD HF HK HRB
          rcases hf : fat s.1 s.2 k i with _ | A
          · rw [show oat none = -1 from rfl]
            have HS2 : Hid (fat s.1 s.2 k (i + 1) = if (hs (el s.1 i) k && !s.2.contains i) = true then some i else none) := by show _ = _; rw [HS.out, hf]
            clear HS hf
            generalize hs (el s.1 i) k = bb at *
            generalize el s.1 i = x at *
            cases bb
            · go_wp2_with (go_at_call 68; refine (HI2.out.go _).mono ?_; rintro e w4 ⟨rfl, hb4⟩; have D4 := hidT (HD.out.trans (hb4.mono HD.out.size)); clear hb4 HD x1 x0)
              exact ⟨⟨i + 1, hlt, by simp, by rw [HS2.out]; rfl, D4.out⟩, by simp [intOf]; omega⟩
            · generalize s.2.contains i = cc at *
              cases cc
              · go_wp2_with (first
                  | (go_at_call 68; refine (HI2.out.go _).mono ?_; rintro e w4 ⟨rfl, hb4⟩; have D4 := hidT (HD.out.trans (hb4.mono HD.out.size)); clear hb4 HD x1 x0)
                  | (go_at_call 80; refine (HI1.out _ D4.out).mono ?_; rintro e w5 ⟨rfl, hb5⟩; have D5 := hidT (D4.out.trans (hb5.mono D4.out.size)); clear hb5 D4))
                exact ⟨⟨i + 1, hlt, by simp, by rw [HS2.out]; rfl, D5.out⟩, by simp [intOf]; omega⟩
              · go_wp2_with (first
                  | (go_at_call 68; refine (HI2.out.go _).mono ?_; rintro e w4 ⟨rfl, hb4⟩; have D4 := hidT (HD.out.trans (hb4.mono HD.out.size)); clear hb4 HD x1 x0)
                  | (go_at_call 80; refine (HI1.out _ D4.out).mono ?_; rintro e w5 ⟨rfl, hb5⟩; have D5 := hidT (D4.out.trans (hb5.mono D4.out.size)); clear hb5 D4))
                exact ⟨⟨i + 1, hlt, by simp, by rw [HS2.out]; rfl, D5.out⟩, by simp [intOf]; omega⟩
          · rw [show oat (some A) = (A : Int) from rfl]
            have HS2 : Hid (fat s.1 s.2 k (i + 1) = some A) := by show _ = _; rw [HS.out, hf]
            have A0 : ¬ (A : Int) < 0 := by omega
            clear HS hf HI1 HI2 x1 x0
            go_wp2_with fail
            exact ⟨⟨i + 1, hlt, by simp, by rw [HS2.out]; rfl, HD.out⟩, by simp [intOf]; omega⟩
        · obtain rfl : i = n := by omega
          have K1 := hidT (HK.out.below hD)
          have HST : Hid (rst1 k s = match fat s.1 s.2 k i with
            | some a => (clr s.1 a k, s.2 ++ [a])
            | none => s) := by
            show _ = _
            unfold rst1
            rw [HN.out]
            rfl
          have HJS := hidT K1.out.j.step
          have HDN : Hid (rbw (rst1 k s) k = rbw (l, []) 128) := by show _ = _; rw [← rbw_succ]; exact K1.out.done
          have HCL : Hid (∀ A, fat s.1 s.2 k i = some A → A < i) := fun A e => (fat_some e).1
          have HRC : Hid (∀ A, A < i → Calls Try.prog 81 #[.slice a3 i c3, .int .i64 (A : Int), .int .i64 (k : Int)] wr fun e w' => ∃ a' cap', e = .returned (.slice a' i cap') ∧ w'.ownsRow wr.heap.size 39 2 (.slice a' i cap') i (flat (clr s.1 A k)) ∧ Below wr.heap.size wr w') := fun A hA => by
            have := rclear04 a3 c3 A k s.1 K1.out.j.lt (by rw [HN.out]; exact hn) (by rw [HN.out]; exact hA) (by omega) wr K1.out.row.row
            rw [HN.out] at this
            exact this
          clear hD HK HF
          rcases hf : fat s.1 s.2 k i with _ | A
          · rw [show oat none = -1 from rfl]
            have HS2 : Hid (rst1 k s = s) := by show _ = _; rw [HST.out, hf]
            clear HST hf HCL HRC
            go_wp2_with fail
            refine ⟨⟨k, (k : Int) - 1, s, a3, c3, by omega, by rfl, rfl, rfl, ?_⟩, by simp only [intOf]; omega⟩
            have j2 := HJS.out
            have d2 := HDN.out
            rw [HS2.out] at j2 d2
            exact ⟨j2, d2, by have := K1.out.cnt; omega, K1.out.row, (by have := K1.out.tk; rw [HN4.out] at this; rw [HN4.out]; exact this), K1.out.d⟩
          · rw [show oat (some A) = (A : Int) from rfl]
            have HS2 : Hid (rst1 k s = (clr s.1 A k, s.2 ++ [A])) := by show _ = _; rw [HST.out, hf]
            have hA := HCL.out A hf
            have HR1 := hidT (HRC.out A hA)
            have A0 : ¬ (A : Int) < 0 := by omega
            have A1 : (0 : Int) ≤ (A : Int) := by omega
            have hcl := clr_len s.1 A k
            rw [HN.out] at hcl
            have HCL2 : Hid ((clr s.1 A k).length = i) := hcl
            have HTK : Hid (wr.ownsRow W.heap.size 3 1 (.slice a4 N4 c4) N4 (ints s.2)) := by
              have := K1.out.tk
              rw [HN4.out] at this; exact this
            have HDW := hidT K1.out.d
            have hWs := K1.out.d.size
            clear HST hf HCL HRC hcl
            go_wp2_with (first
              | (go_at_call 81; refine HR1.out.mono ?_; rintro e w4 ⟨a5, c5, rfl, o5, hb4⟩; have O5 : Hid (RO W w4 a5 c5 (clr s.1 A k)) := RO.mine (base := wr.heap.size) (by rw [HCL2.out]; exact o5) hWs; have T4 := hidT (own_below HTK.out hb4); have D4 := hidT (HDW.out.trans (hb4.mono hWs)); clear o5 hb4)
              | (at_builtin; refine wpList_append_own _ rfl _ _ 79 rfl W.heap.size 3 i1 (.int .i64 0) 1 8 Try.underlying79 HJ.out.1 HJ.out.2.1 HJ.out.2.2.1 HJ.out.2.2.2 rfl (by decide) _ _ _ rfl (own_below T4.out ((Below.refl _ _).alloc (Nat.le_refl _) _)) ⟨w4.heap.size, 0, none⟩ 1 1 [.int .i64 (A : Int)] rfl rfl (fun p u hu => by rcases p with _ | p <;> simp at hu <;> subst hu <;> simp [go_sem]) (by intro u hu; simp at hu; subst hu; rfl) (by simp only [maxLen]; omega) (by omega) (by have := D4.out.size; simp; omega) ?_; intro v' w' hown' hgr _; have BA : Below w4.heap.size w4 (w4.alloc (Obj.cells #[.int .i64 (A : Int)] 3)) := (Below.refl _ _).alloc (Nat.le_refl _) _; have O6 := hidT ((O5.out.below BA).grown (own_below T4.out BA) hgr); have D6 := hidT ((D4.out.trans (BA.mono D4.out.size)).grown hgr (by have := D4.out.size; simp; omega) fun k hk => (T4.out.lt k hk).1); have T6 := hidT hown'; clear hgr hown' BA O5 D4))
            refine ⟨⟨k, (k : Int) - 1, (clr s.1 A k, s.2 ++ [A]), a5, c5, by omega, by rfl, rfl, rfl, ?_⟩, by simp only [intOf]; omega⟩
            have j2 := HJS.out
            have d2 := HDN.out
            rw [HS2.out] at j2 d2
            refine ⟨j2, d2, by simp [HN4.out]; omega, O6.out, ?_, D6.out⟩
            have := T6.out
            simpa [ints, HN4.out] using this
end Go.Proofs.Ytnecjkdlmecgdaa

namespace Go.Proofs.Ytnecjkdlmecgdaa
open Go.RowKit
open Cb Rg Sq

set_option maxHeartbeats 1000000 in
set_option maxRecDepth 100000 in
/-- Elements as the document has them. -/
theorem sref_own (a : Option Addr) (cap : Nat) (es : List (Nat × Nat)) (hn : es.length ≤ 1000) (W : World) (hr : ERow W a es) :
    Calls Try.prog 12 #[.slice a es.length cap] W fun e w' => ∃ a' cap', e = .returned (.slice a' es.length cap') ∧ w'.ownsRow W.heap.size 39 2 (.slice a' es.length cap') es.length (flat es) ∧ Below W.heap.size W w' := by
  have HC : Hid (ERow W a es) := hr
  clear hr
  go_enter Try.func12, Try.ntmps12
  go_wp2_with fail
  go_loopw [3, 4] (fun v u wr => ∃ j : Nat, j ≤ es.length ∧ u = .int .i64 j ∧ wr.ownsRow W.heap.size 39 2 v j (flat (es.take j)) ∧ Below W.heap.size W wr) (fun _ u _ => es.length - (intOf u).toNat)
  case atStart => exact ⟨0, Nat.zero_le _, rfl, ⟨by simp [flat], .inl ⟨rfl, rfl⟩⟩, Below.refl _ _⟩
  case round =>
    obtain ⟨j, hj, rfl, hown, hbw⟩ := hrel
    by_cases hlt : j < es.length
    · obtain ⟨b, off, rfl, hb, c1, c0⟩ := HC.out.cells j hlt
      have d1 : wr.cell? ⟨b, off + j * 2, none⟩ = some (.int .u64 ((es.getD j (0, 0)).1 : Nat)) := by rw [hbw.cell (p := ⟨b, off + j * 2, none⟩) hb]; exact c1
      have d0 : wr.cell? ⟨b, off + j * 2 + 1, none⟩ = some (.int .u64 ((es.getD j (0, 0)).2 : Nat)) := by rw [hbw.cell (p := ⟨b, off + j * 2 + 1, none⟩) hb]; exact c0
      have H : Hid (es.take (j + 1) = es.take j ++ [es.getD j (0, 0)]) := take_sn es j hlt
      obtain ⟨i0, hi, hz0, hz1, hz2⟩ := info_relem
      have HI : Hid (Try.prog.info? 39 = some i0 ∧ i0.zero = some (.agg #[.int .u64 0, .int .u64 0]) ∧ i0.size = 2 ∧ i0.bytes = 16) := ⟨hi, hz0, hz1, hz2⟩
      have HO : Hid (wr.ownsRow W.heap.size 39 2 u3 j (flat (es.take j))) := hown
      have HB : Hid (Below W.heap.size W wr) := hbw
      clear hown c1 c0 hi hz0 hz1 hz2 hbw HC
      generalize es.getD j (0, 0) = x at *
      go_wp2_with (at_builtin; refine wpList_append_own _ rfl _ _ 34 rfl W.heap.size 39 i0 (.agg #[.int .u64 0, .int .u64 0]) 2 16 Try.underlying34 HI.out.1 HI.out.2.1 HI.out.2.2.1 HI.out.2.2.2 rfl (by decide) _ _ _ rfl (own_below HO.out (by go_grown)) ⟨wr.heap.size, 0, none⟩ 1 1 [.int .u64 (x.1 : Int), .int .u64 (x.2 : Int)] rfl rfl (fun p u hu => by rcases p with _ | _ | p <;> simp at hu <;> subst hu <;> simp [go_sem]) (by intro u hu; simp at hu; rcases hu with rfl | rfl <;> rfl) (by simp only [maxLen]; omega) (by omega) (by have := HB.out.size; simp; omega) ?_; intro v' w' hown' hgr _)
      refine ⟨⟨j + 1, hlt, by simp, ?_, ?_⟩, by simp [intOf]; omega⟩
      · rw [H.out, flat_snoc]; exact hown'
      · exact (HB.out.alloc HB.out.size _).grown hgr (by have := HB.out.size; simp; omega) fun k hk => (HO.out.lt k hk).1
    · have hje : j = es.length := by omega
      subst hje
      rw [List.take_of_length_le (Nat.le_refl _)] at hown
      have HB : Hid (Below W.heap.size W wr) := hbw
      obtain ⟨a', cap', hv, _⟩ := own_row hown
      subst hv
      have HE := hidT hown
      clear hown hbw HC
      go_wp2
      go_ret
      exact ⟨_, _, rfl, HE.out, HB.out⟩
theorem eq_dec (a b : Nat) : ((a : Int) == (b : Int)) = decide (a = b) := by
  rw [Bool.eq_iff_iff, beq_iff_eq, decide_eq_true_iff]; omega
set_option maxHeartbeats 4000000 in
set_option maxRecDepth 100000 in
theorem rIn04 (a : Option Addr) (cap : Nat) (l : List (Nat × Nat)) (hl : ltE l) (hn : l.length ≤ 900) (x : Nat × Nat) (hx : lt2 x) (W : World) (hr : ERow W a l) :
    Calls Try.prog 45 #[.slice a l.length cap, .agg #[.int .u64 (x.1 : Int), .int .u64 (x.2 : Int)]] W fun e w' => e = .returned (.bool (decide ((rb (l ++ [x])).length = (rb l).length))) ∧ Below W.heap.size W w' := by
  have HC : Hid (ERow W a l) := hr
  have hl2 : ltE (l ++ [x]) := fun e he => by
    simp only [List.mem_append, List.mem_singleton] at he
    rcases he with he | rfl
    · exact hl e he
    · exact hx
  have HB1 : Hid (∀ w a cap, ERow w a (l ++ [x]) → Calls Try.prog 66 #[.slice a (l.length + 1) cap] w fun e w' => ∃ a' cap', e = .returned (.slice a' (rb (l ++ [x])).length cap') ∧ Below w.heap.size w w') := fun w a cap h => by
    have := rbasis04 a cap (l ++ [x]) hl2 (by simp; omega) w h
    rw [List.length_append, List.length_singleton] at this
    exact this.mono fun e w' ⟨a', c', e1, _, e3⟩ => ⟨a', c', e1, e3⟩
  have HB2 : Hid (∀ w, Below W.heap.size W w → Calls Try.prog 66 #[.slice a l.length cap] w fun e w' => ∃ a' cap', e = .returned (.slice a' (rb l).length cap') ∧ Below w.heap.size w w') := fun w hw => by
    have := rbasis04 a cap l hl (by omega) w (hr.below hw)
    exact this.mono fun e w' ⟨a', c', e1, _, e3⟩ => ⟨a', c', e1, e3⟩
  clear hr hl hl2 hx
  obtain ⟨i0, hi, hz0, hz1, hz2⟩ := info_relem
  have HI : Hid (Try.prog.info? 39 = some i0 ∧ i0.zero = some (.agg #[.int .u64 0, .int .u64 0]) ∧ i0.size = 2 ∧ i0.bytes = 16) := ⟨hi, hz0, hz1, hz2⟩
  clear hi hz0 hz1 hz2
  generalize (rb (l ++ [x])).length = R1 at *
  generalize (rb l).length = R2 at *
  go_enter Try.func45, Try.ntmps45
  go_wp2_with fail
  go_loopw [5, 6] (fun v u wr => ∃ j : Nat, j ≤ l.length ∧ u = .int .i64 j ∧ wr.ownsRow (W.heap.size + 1) 39 2 v j (flat (l.take j)) ∧ Below W.heap.size W wr ∧ El wr W.heap.size x.1 x.2) (fun _ u _ => l.length - (intOf u).toNat)
  case atStart => exact ⟨0, Nat.zero_le _, rfl, ⟨by simp [flat], .inl ⟨rfl, rfl⟩⟩, by go_grown, ⟨by simp [go_sem], by simp [go_sem]⟩⟩
  case round =>
    obtain ⟨j, hj, rfl, hown, hbw, hE⟩ := hrel
    have hq : W.heap.size < wr.heap.size := hE.lt
    by_cases hlt : j < l.length
    · obtain ⟨b, off, rfl, hb, c1, c0⟩ := HC.out.cells j hlt
      have d1 : wr.cell? ⟨b, off + j * 2, none⟩ = some (.int .u64 ((el l j).1 : Int)) := keepc hbw c1
      have d0 : wr.cell? ⟨b, off + j * 2 + 1, none⟩ = some (.int .u64 ((el l j).2 : Int)) := keepc hbw c0
      have H : Hid (l.take (j + 1) = l.take j ++ [el l j]) := take_sn l j hlt
      have HO : Hid (wr.ownsRow (W.heap.size + 1) 39 2 u5 j (flat (l.take j)) ∧ Below W.heap.size W wr ∧ El wr W.heap.size x.1 x.2) := ⟨hown, hbw, hE⟩
      clear hown c1 c0 hbw hE HB1 HB2 HC
      generalize el l j = y at *
      go_wp2_with (at_builtin; refine wpList_append_own _ rfl _ _ 34 rfl (W.heap.size + 1) 39 i0 (.agg #[.int .u64 0, .int .u64 0]) 2 16 Try.underlying34 HI.out.1 HI.out.2.1 HI.out.2.2.1 HI.out.2.2.2 rfl (by decide) _ _ _ rfl (own_below HO.out.1 (by go_grown)) ⟨wr.heap.size, 0, none⟩ 1 1 [.int .u64 (y.1 : Int), .int .u64 (y.2 : Int)] rfl rfl (fun p u hu => by rcases p with _ | _ | p <;> simp at hu <;> subst hu <;> simp [go_sem]) (by intro u hu; simp at hu; rcases hu with rfl | rfl <;> rfl) (by simp only [maxLen]; omega) (by omega) (by simp; omega) ?_; intro v' w' hown' hgr _)
      have BA : Below wr.heap.size wr (wr.alloc (Obj.cells #[.int .u64 (y.1 : Int), .int .u64 (y.2 : Int)] 39)) := (Below.refl _ _).alloc (Nat.le_refl _) _
      refine ⟨⟨j + 1, hlt, by simp, ?_, ?_, ?_⟩, by simp [intOf]; omega⟩
      · rw [H.out, flat_snoc]; exact hown'
      · exact (HO.out.2.1.trans (BA.mono (by omega))).grown hgr (by simp; omega) fun k hk => by have := (HO.out.1.lt k hk).1; omega
      · exact (HO.out.2.2.below BA).growR hgr fun e => by have := (HO.out.1.lt _ e).1; omega
    · have hje : j = l.length := by omega
      subst hje
      rw [List.take_of_length_le (Nat.le_refl _)] at hown
      have HO : Hid (wr.ownsRow (W.heap.size + 1) 39 2 u5 l.length (flat l) ∧ Below W.heap.size W wr) := ⟨hown, hbw⟩
      have d1 := hE.hi
      have d0 := hE.lo
      clear hown hbw hE HC
      go_wp2_with (first
        | (at_builtin; refine wpList_append_own _ rfl _ _ 34 rfl (W.heap.size + 1) 39 i0 (.agg #[.int .u64 0, .int .u64 0]) 2 16 Try.underlying34 HI.out.1 HI.out.2.1 HI.out.2.2.1 HI.out.2.2.2 rfl (by decide) _ _ _ rfl (own_below HO.out.1 (by go_grown)) ⟨wr.heap.size, 0, none⟩ 1 1 [.int .u64 (x.1 : Int), .int .u64 (x.2 : Int)] rfl rfl (fun p u hu => by rcases p with _ | _ | p <;> simp at hu <;> subst hu <;> simp [go_sem]) (by intro u hu; simp at hu; rcases hu with rfl | rfl <;> rfl) (by simp only [maxLen]; omega) (by omega) (by simp; omega) ?_; intro v' w' hown' hgr _; have D6 := hidT (((HO.out.2.trans (((Below.refl _ _).alloc (Nat.le_refl wr.heap.size) (Obj.cells #[.int .u64 (x.1 : Int), .int .u64 (x.2 : Int)] 39)).mono (by omega))).grown hgr (by simp; omega) fun k hk => by have := (HO.out.1.lt k hk).1; omega) : Below W.heap.size W w'); obtain ⟨a6, c6, e6, E6⟩ := own_row (es := l ++ [x]) (by rw [List.length_append, List.length_singleton, flat_snoc]; exact hown'); rw [List.length_append, List.length_singleton] at e6; subst e6; have E7 := hidT E6; clear hown' hgr E6 d1 d0)
        | (go_at_call_of 66 (#[.slice a l.length cap] : Array Value); refine (HB2.out _ D8.out).mono ?_; rintro e w9 ⟨a9, c9, rfl, hb9⟩; have D9 := hidT (D8.out.trans (hb9.mono D8.out.size)); clear hb9)
        | (go_at_call 66; refine (HB1.out _ _ _ E7.out).mono ?_; rintro e w8 ⟨a8, c8, rfl, hb8⟩; have D8 := hidT (D6.out.trans (hb8.mono D6.out.size)); clear hb8))
      go_ret
      exact ⟨by rw [← eq_dec R1 R2]; rfl, D9.out⟩
end Go.Proofs.Ytnecjkdlmecgdaa
