/- The contracts of span's Basis, Rank, In and Same over the seat's translation. -/
import Derived.Test.YtkllihomdlibgaaPSqG
import Derived.Test.YtkllihomdlibgaaPIvB
namespace Go.Proofs.Ytkllihomdlibgaa
open Go.RowKit
open Cb Rg Sq

/-- eliminate, and what its rows leave. -/
theorem elim_red (a : Option Addr) (cap : Nat) (l : List (Nat × Nat)) (hl : ltE l) (h128 : l.length ≤ 128) (W : World) (hr : ERow W a l) :
    Calls Try.prog 37 #[.slice a l.length cap] W fun e w' => ∃ a0 n0 a1 n1, e = .returned (.agg #[.slice a0 (elm l l.length).1.length n0, .slice a1 (elm l l.length).2.length n1]) ∧ w'.ownsRow W.heap.size 85 4 (.slice a0 (elm l l.length).1.length n0) (elm l l.length).1.length (flatR (elm l l.length).1) ∧ w'.ownsRow W.heap.size 3 1 (.slice a1 (elm l l.length).2.length n1) (elm l l.length).2.length (ints (elm l l.length).2) ∧
      (∀ w2, Below w'.heap.size w' w2 → ∀ x : Nat × Nat, lt2 x → Calls Try.prog 39 #[.agg #[.slice a0 (elm l l.length).1.length n0, .slice a1 (elm l l.length).2.length n1], .agg #[.int .u64 (x.1 : Int), .int .u64 (x.2 : Int)]] w2 fun e w3 => e = .returned (.tuple #[.agg #[.int .u64 ((redv (elm l l.length).1 x (elm l l.length).1.length).1.1 : Int), .int .u64 ((redv (elm l l.length).1 x (elm l l.length).1.length).1.2 : Int)], .agg #[.int .u64 ((redv (elm l l.length).1 x (elm l l.length).1.length).2.1 : Int), .int .u64 ((redv (elm l l.length).1 x (elm l l.length).1.length).2.2 : Int)]]) ∧ Below w2.heap.size w2 w3) ∧ Below W.heap.size W w' := by
  refine (eliminate_any a cap l hl h128 W hr).mono ?_
  rintro e w' ⟨v0, v1, rfl, o0, o1, hb⟩
  obtain ⟨a0, n0, rfl⟩ := own_slc o0
  obtain ⟨a1, n1, rfl⟩ := own_slc o1
  have h := elm_ei hl l.length (Nat.le_refl _)
  refine ⟨a0, n0, a1, n1, rfl, o0, o1, fun w2 h2 x hx => ?_, hb⟩
  exact reduce_any a0 n0 _ _ x w2 (own_rr (own_below o0 h2)) (by have := h.len; have := h.le; omega) (ltR_of h.rr h.of) hx.1 hx.2
set_option maxHeartbeats 2000000 in
theorem Basis_any (a : Option Addr) (cap : Nat) (l : List (Nat × Nat)) (hl : ltE l) (h128 : l.length ≤ 128) (W : World) (hr : ERow W a l) :
    Calls Try.prog 13 #[.slice a l.length cap] W fun e w' => ∃ g, e = .returned (.slice (some ⟨g, 0, none⟩) (rb l).length (rb l).length) ∧ ERow w' (some ⟨g, 0, none⟩) (rb l) ∧ W.heap.size ≤ g ∧ Below W.heap.size W w' := by
  have HE := hidT (elim_red a cap l hl h128 W hr)
  have h := elm_ei hl l.length (Nat.le_refl _)
  have HB : Hid (∀ a0 n0 a1 n1 (W : World), W.ownsRow 0 85 4 (.slice a0 (elm l l.length).1.length n0) (elm l l.length).1.length (flatR (elm l l.length).1) → Calls Try.prog 38 #[.agg #[.slice a0 (elm l l.length).1.length n0, .slice a1 (elm l l.length).2.length n1]] W fun e w' => ∃ g, e = .returned (.slice (some ⟨g, 0, none⟩) (rb l).length (rb l).length) ∧ ERow w' (some ⟨g, 0, none⟩) (rb l) ∧ W.heap.size ≤ g ∧ Below W.heap.size W w') := fun a0 n0 a1 n1 W o => by
    refine (sbasis_any 0 _ a1 _ n1 _ W o h.rr.lt (by have := h.len; have := h.le; omega)).mono ?_
    rintro e w' ⟨g, ss, rfl, hp, hs, he, hg, hb⟩
    have es := elm_rb hl hp hs
    subst es
    exact ⟨g, by rw [elm_len hl], he, hg, hb⟩
  clear h hr hl
  generalize (rb l).length = M at *
  generalize (elm l l.length).1.length = N at *
  generalize (elm l l.length).2.length = N2 at *
  go_enter Try.func13, Try.ntmps13
  go_wp2_with (first
    | (go_at_call 37; refine HE.out.mono ?_; rintro e w1 ⟨a0, n0, a1, n1, rfl, o0, _, _, hb1⟩; have K1 : Hid (w1.ownsRow W.heap.size 85 4 (.slice a0 N n0) N (flatR (elm l l.length).1) ∧ Below W.heap.size W w1) := ⟨o0, hb1⟩; clear o0 hb1)
    | (go_at_call 38; refine (HB.out _ _ _ _ _ (own_base K1.out.1 (Nat.zero_le _))).mono ?_; rintro e w2 ⟨g, rfl, he, hg, hb⟩; have K2 := hidT (And.intro he (And.intro hg hb)); clear he hg hb))
  go_ret
  have := K1.out.2.size
  exact ⟨_, rfl, K2.out.1, by have := K2.out.2.1; omega, K1.out.2.trans (K2.out.2.2.mono this)⟩
theorem sfield_rows (a : Option Addr) (n c : Nat) (v : Value) (w : World) : (Instr.field 70 (.agg #[.slice a n c, v]) 0).run Try.prog w = .ok (.slice a n c) w := by
  simp [Instr.field, asAgg, go_sem]
set_option maxRecDepth 100000 in
set_option maxHeartbeats 2000000 in
theorem Rank_any (a : Option Addr) (cap : Nat) (l : List (Nat × Nat)) (hl : ltE l) (h128 : l.length ≤ 128) (W : World) (hr : ERow W a l) :
    Calls Try.prog 14 #[.slice a l.length cap] W fun e w' => e = .returned (.int .i64 ((rb l).length : Int)) ∧ Below W.heap.size W w' := by
  have HE := hidT (elim_red a cap l hl h128 W hr)
  rw [← elm_len hl]
  clear hr hl
  generalize (elm l l.length).1.length = N at *
  generalize (elm l l.length).2.length = N2 at *
  have HF := fun a n c v => sfield_rows a n c v
  go_enter Try.func14, Try.ntmps14
  go_wp2_with (go_at_call 37; refine HE.out.mono ?_; rintro e w1 ⟨a0, n0, a1, n1, rfl, _, _, _, hb1⟩; have K1 := hidT hb1; clear hb1)
  go_ret
  exact ⟨rfl, K1.out⟩
/-- What eliminate gave, as long as it is wanted. -/
def ElOk (N1 N2 : Nat) (x : Nat × Nat) (qh ql oh ol : Nat) (w : World) (L : Nat → Bool) (v : Value) : Prop := L 1 = true → L 3 = false → ∃ a0 n0 a1 n1, v = .agg #[.slice a0 N1 n0, .slice a1 N2 n1] ∧ ∀ w2, Below w.heap.size w w2 → Calls Try.prog 39 #[.agg #[.slice a0 N1 n0, .slice a1 N2 n1], .agg #[.int .u64 (x.1 : Int), .int .u64 (x.2 : Int)]] w2 fun e w3 => e = .returned (.tuple #[.agg #[.int .u64 (qh : Int), .int .u64 (ql : Int)], .agg #[.int .u64 (oh : Int), .int .u64 (ol : Int)]]) ∧ Below w2.heap.size w2 w3
theorem ElOk.step {N1 N2 : Nat} {x : Nat × Nat} {qh ql oh ol : Nat} {w w' : World} {L : Nat → Bool} {v : Value} (h : ElOk N1 N2 x qh ql oh ol w L v) (i : Nat) (hi : i ≠ 1) (hb : Below w.heap.size w w') : ElOk N1 N2 x qh ql oh ol w' (setL L i) v := fun e1 e3 => by
  rw [setL_other L (Ne.symm hi)] at e1
  have e4 : L 3 = false := by
    by_cases k : 3 = i
    · subst k; rw [setL_same] at e3; cases e3
    · rwa [setL_other L k] at e3
  obtain ⟨a0, n0, a1, n1, e, hr⟩ := h e1 e4
  exact ⟨a0, n0, a1, n1, e, fun w2 h2 => hr w2 (hb.trans (h2.mono hb.size))⟩
theorem ElOk.gone {N1 N2 : Nat} {x : Nat × Nat} {qh ql oh ol : Nat} {w' : World} {L : Nat → Bool} {v : Value} (i : Nat) (hL : L 3 = true) : ElOk N1 N2 x qh ql oh ol w' (setL L i) v := fun _ e3 => by
  rw [setL_true hL] at e3; cases e3
set_option maxRecDepth 100000 in
set_option maxHeartbeats 8000000 in
theorem In_any (a : Option Addr) (cap : Nat) (l : List (Nat × Nat)) (hl : ltE l) (h128 : l.length ≤ 128) (x : Nat × Nat) (hx : lt2 x) (W : World) (hr : ERow W a l) :
    Calls Try.prog 15 #[.slice a l.length cap, .agg #[.int .u64 (x.1 : Int), .int .u64 (x.2 : Int)]] W fun e w' => e = .returned (.bool (decide ((rb (l ++ [x])).length = (rb l).length))) ∧ Below W.heap.size W w' := by
  have HE : Hid (∀ w, Below W.heap.size W w → Calls Try.prog 37 #[.slice a l.length cap] w fun e w' => ∃ a0 n0 a1 n1, e = .returned (.agg #[.slice a0 (elm l l.length).1.length n0, .slice a1 (elm l l.length).2.length n1]) ∧
      (∀ w2, Below w'.heap.size w' w2 → Calls Try.prog 39 #[.agg #[.slice a0 (elm l l.length).1.length n0, .slice a1 (elm l l.length).2.length n1], .agg #[.int .u64 (x.1 : Int), .int .u64 (x.2 : Int)]] w2 fun e w3 => e = .returned (.tuple #[.agg #[.int .u64 ((redv (elm l l.length).1 x (elm l l.length).1.length).1.1 : Int), .int .u64 ((redv (elm l l.length).1 x (elm l l.length).1.length).1.2 : Int)], .agg #[.int .u64 ((redv (elm l l.length).1 x (elm l l.length).1.length).2.1 : Int), .int .u64 ((redv (elm l l.length).1 x (elm l l.length).1.length).2.2 : Int)]]) ∧ Below w2.heap.size w2 w3) ∧ Below w.heap.size w w') := fun w hw => by
    refine (elim_red a cap l hl h128 w (hr.below hw)).mono ?_
    rintro e w' ⟨a0, n0, a1, n1, rfl, _, _, h, hb⟩
    exact ⟨a0, n0, a1, n1, rfl, fun w2 h2 => h w2 h2 x hx, hb⟩
  have e : decide ((rb (l ++ [x])).length = (rb l).length) = decide ((redv (elm l l.length).1 x (elm l l.length).1.length).1 = (0, 0)) := by
    rw [redv_all, Bool.eq_iff_iff, decide_eq_true_iff, decide_eq_true_iff, ← elm_in hl x, ← rb_in hl hx]
  rw [e]
  clear e hr hl
  generalize redv (elm l l.length).1 x (elm l l.length).1.length = q at *
  generalize (elm l l.length).1.length = N1 at *
  generalize (elm l l.length).2.length = N2 at *
  obtain ⟨⟨qh, ql⟩, oh, ol⟩ := q
  simp only at HE
  have es : decide (((qh, ql) : Nat × Nat) = (0, 0)) = (decide (qh = 0) && decide (ql = 0)) := by
    rw [Bool.eq_iff_iff]; simp
  rw [es]
  clear es
  go_enter Try.func15, Try.ntmps15
  go_upto_region 1 with fail
  have E5 : ∀ w, Below (W.alloc (Obj.cells #[.int .u64 (x.1 : Int), .int .u64 (x.2 : Int)] 25)).heap.size (W.alloc (Obj.cells #[.int .u64 (x.1 : Int), .int .u64 (x.2 : Int)] 25)) w → w.cell? ⟨W.heap.size, 0, none⟩ = some (.int .u64 (x.1 : Int)) ∧ w.cell? ⟨W.heap.size, 1, none⟩ = some (.int .u64 (x.2 : Int)) := fun w h => ⟨keepc h (by simp [go_sem]), keepc h (by simp [go_sem])⟩
  have HB0 : Below W.heap.size W (W.alloc (Obj.cells #[.int .u64 (x.1 : Int), .int .u64 (x.2 : Int)] 25)) := by go_grown
  generalize W.alloc (Obj.cells #[.int .u64 (x.1 : Int), .int .u64 (x.2 : Int)] 25) = w0 at *
  obtain ⟨p, hp⟩ : ∃ p, p = W.heap.size := ⟨_, rfl⟩
  rw [← hp] at E5 ⊢
  clear hp
  obtain ⟨N, hN⟩ : ∃ N, N = w0.heap.size := ⟨_, rfl⟩
  refine wp_region_noPanic ?_
  refine wp_region_held_drew (S := fun w => w.cell? ⟨p, 0, none⟩ = some (.int .u64 (x.1 : Int)) ∧ w.cell? ⟨p, 1, none⟩ = some (.int .u64 (x.2 : Int))) (by kernel_rfl) (E5 _ (Below.refl _ _).drew) (fun hHeld => ?_)
  refine wpAnyH_take (i := 0) (oi := _) (v := ?_) rfl (by kernel_rfl) (by kernel_rfl) (by kernel_rfl) (fun _ _ _ h => h) (Or.inl ⟨by rfl, ?_⟩) (by assumption) ?_
  rotate_left
  · ((intro w hSw; (try dsimp only at hSw); go_simp) <;> (try with_reducible rfl))
  show wpAnyH _ _ _ _ _ _ _ (Act.put _ (some 8) _) _
  simp only [Act.put, List.setIfInBounds_toArray, List.set_cons_succ, List.set_cons_zero]
  refine wpAnyH_take (i := 2) (oi := _) (v := ?_) rfl (by kernel_rfl) (by kernel_rfl) (by kernel_rfl) (fun _ _ _ h => h) (Or.inl ⟨by rfl, ?_⟩) (by assumption) ?_
  rotate_left
  · ((intro w hSw; (try dsimp only at hSw); go_simp) <;> (try with_reducible rfl))
  show wpAnyH _ _ _ _ _ _ _ (Act.put _ (some 10) _) _
  simp only [Act.put, List.setIfInBounds_toArray, List.set_cons_succ, List.set_cons_zero]
  refine wpAnyH_inv (fun L ac w => ∃ (p5 p6 v7 v9 v11 v12 v13 : Value) (q5 q6 : Nat), ac = { tmps := #[.slice a l.length cap, .agg #[.int .u64 (x.1 : Int), .int .u64 (x.2 : Int)], undef, .pointer (some ⟨p, 0, none⟩), .bool false, p5, p6, v7, .slice a l.length cap, v9, .agg #[.int .u64 (x.1 : Int), .int .u64 (x.2 : Int)], v11, v12, v13, undef, undef, undef], defers := [] } ∧ Hid (([0, 2].all fun i => L i) = true ∧ (ElOk N1 N2 x qh ql oh ol w L v9) ∧ (L 3 = true → v11 = .tuple #[.agg #[.int .u64 (qh : Int), .int .u64 (ql : Int)], .agg #[.int .u64 (oh : Int), .int .u64 (ol : Int)]]) ∧ (L 4 = true → v7 = .tuple #[.agg #[.int .u64 (qh : Int), .int .u64 (ql : Int)], .agg #[.int .u64 (oh : Int), .int .u64 (ol : Int)]]) ∧ (L 5 = true → v12 = .agg #[.int .u64 (qh : Int), .int .u64 (ql : Int)]) ∧ (L 6 = true → v13 = .agg #[.int .u64 (oh : Int), .int .u64 (ol : Int)]) ∧ (Vas N w L [⟨7, 9, q5, p5, (qh, ql)⟩, ⟨8, 10, q6, p6, (oh, ol)⟩]) ∧ (Below N w0 w))) (by kernel_rfl) ?hIS ?step ?done _ _ _ _ (by rfl) (by decide) ?init
  case hIS =>
    rintro L ac w ⟨_, _, _, _, _, _, _, _, _, rfl, hI⟩
    obtain ⟨hP, h1, h3, h4, h5, h6, hV, hB⟩ := hI.out
    exact E5 _ (hN ▸ hB)
  case init =>
    exact ⟨undef, undef, undef, undef, undef, undef, undef, 0, 0, rfl, by rfl, fun h => absurd h (by decide), fun h => absurd h (by decide), fun h => absurd h (by decide), fun h => absurd h (by decide), fun h => absurd h (by decide), Vas.start (by simp), hN ▸ (Below.refl w0.heap.size w0).drew⟩
  case step =>
    rintro L ac w ⟨p5, p6, v7, v9, v11, v12, v13, q5, q6, rfl, hI⟩
    refine (EachAt.cons (fun h _ => absurd (all_at hI.out.1 0 (by decide)) (by rw [show L 0 = false from h]; decide)) (EachAt.cons ?s1 (EachAt.cons (fun h _ => absurd (all_at hI.out.1 2 (by decide)) (by rw [show L 2 = false from h]; decide)) (EachAt.cons ?s3 (EachAt.cons ?s4 (EachAt.cons ?s5 (EachAt.cons ?s6 (EachAt.cons ?s7 (EachAt.cons ?s8 (EachAt.cons ?s9 (EachAt.cons ?s10 EachAt.nil)))))))))))
    case s1 =>
      intro hl hw
      have D := waits hw
      replace hl : L 1 = false := hl
      clear hw
      refine wpOp_shut (o := _) rfl (fun KK hKK => ?_)
      obtain ⟨hP, h1, h3, h4, h5, h6, hV, hB⟩ := hI.out
      have hz : N ≤ w.heap.size := hN ▸ hB.size
      have HW : Below W.heap.size W w := HB0.trans (hB.mono (hN ▸ HB0.size))
      clear D hl
      go_simp
      (go_at_call 37; refine (HE.out _ (by first | exact HW | exact HW.drew)).mono ?_; rintro e w9 ⟨a0, n0, a1, n1, rfl, hrd, hb⟩)
      exact hKK.out _ _ ⟨p5, p6, v7, _, v11, v12, v13, q5, q6, rfl, all_setL 1 hP, fun _ _ => ⟨a0, n0, a1, n1, rfl, hrd⟩, setL_un (show 3 ≠ 1 by decide) h3, setL_un (show 4 ≠ 1 by decide) h4, setL_un (show 5 ≠ 1 by decide) h5, setL_un (show 6 ≠ 1 by decide) h6, (hV.below hb).step (by simp [nums]), hB.trans (hb.mono hz)⟩
    case s3 =>
      intro hl hw
      have D := waits hw
      replace hl : L 3 = false := hl
      clear hw
      refine wpOp_shut (o := _) rfl (fun KK hKK => ?_)
      obtain ⟨hP, h1, h3, h4, h5, h6, hV, hB⟩ := hI.out
      have hz : N ≤ w.heap.size := hN ▸ hB.size
      obtain ⟨a0, n0, a1, n1, rfl, hrd⟩ := h1 (D 1 (by decide)) hl
      clear D hl
      go_simp
      (go_at_call 39; refine (hrd _ (by first | exact Below.refl _ _ | exact (Below.refl _ _).drew)).mono ?_; rintro e w9 ⟨rfl, hb⟩)
      exact hKK.out _ _ ⟨p5, p6, v7, _, _, v12, v13, q5, q6, rfl, all_setL 3 hP, h1.step 3 (by decide) hb, fun _ => rfl, setL_un (show 4 ≠ 3 by decide) h4, setL_un (show 5 ≠ 3 by decide) h5, setL_un (show 6 ≠ 3 by decide) h6, (hV.below hb).step (by simp [nums]), hB.trans (hb.mono hz)⟩
    case s4 =>
      intro hl hw
      have D := waits hw
      replace hl : L 4 = false := hl
      clear hw
      refine wpOp_shut (o := _) rfl (fun KK hKK => ?_)
      obtain ⟨hP, h1, h3, h4, h5, h6, hV, hB⟩ := hI.out
      obtain rfl := h3 (D 3 (by decide))
      clear D hl
      go_simp
      exact hKK.out _ _ ⟨p5, p6, _, v9, _, v12, v13, q5, q6, rfl, all_setL 4 hP, h1.step 4 (by decide) (Below.refl _ _), setL_un (show 3 ≠ 4 by decide) h3, fun _ => rfl, setL_un (show 5 ≠ 4 by decide) h5, setL_un (show 6 ≠ 4 by decide) h6, hV.step (by simp [nums]), hB⟩
    case s5 =>
      intro hl hw
      have D := waits hw
      replace hl : L 5 = false := hl
      clear hw
      refine wpOp_shut (o := _) rfl (fun KK hKK => ?_)
      obtain ⟨hP, h1, h3, h4, h5, h6, hV, hB⟩ := hI.out
      obtain rfl := h4 (D 4 (by decide))
      clear D hl
      go_simp
      exact hKK.out _ _ ⟨p5, p6, _, v9, v11, _, v13, q5, q6, rfl, all_setL 5 hP, h1.step 5 (by decide) (Below.refl _ _), setL_un (show 3 ≠ 5 by decide) h3, setL_un (show 4 ≠ 5 by decide) h4, fun _ => rfl, setL_un (show 6 ≠ 5 by decide) h6, hV.step (by simp [nums]), hB⟩
    case s6 =>
      intro hl hw
      have D := waits hw
      replace hl : L 6 = false := hl
      clear hw
      refine wpOp_shut (o := _) rfl (fun KK hKK => ?_)
      obtain ⟨hP, h1, h3, h4, h5, h6, hV, hB⟩ := hI.out
      obtain rfl := h4 (D 4 (by decide))
      clear D hl
      go_simp
      exact hKK.out _ _ ⟨p5, p6, _, v9, v11, v12, _, q5, q6, rfl, all_setL 6 hP, h1.step 6 (by decide) (Below.refl _ _), setL_un (show 3 ≠ 6 by decide) h3, setL_un (show 4 ≠ 6 by decide) h4, setL_un (show 5 ≠ 6 by decide) h5, fun _ => rfl, hV.step (by simp [nums]), hB⟩
    case s7 =>
      intro hl hw
      have D := waits hw
      replace hl : L 7 = false := hl
      clear hw
      refine wpOp_shut (o := _) rfl (fun KK hKK => ?_)
      obtain ⟨hP, h1, h3, h4, h5, h6, hV, hB⟩ := hI.out
      have hz : N ≤ w.heap.size := hN ▸ hB.size
      clear D
      go_simp
      exact hKK.out _ _ ⟨_, p6, v7, v9, v11, v12, v13, _, q6, rfl, all_setL 7 hP, h1.step 7 (by decide) ((Below.refl _ _).alloc (Nat.le_refl _) _), setL_un (show 3 ≠ 7 by decide) h3, setL_un (show 4 ≠ 7 by decide) h4, setL_un (show 5 ≠ 7 by decide) h5, setL_un (show 6 ≠ 7 by decide) h6, Vas.laid (l1 := []) (l2 := [⟨8, 10, q6, p6, (oh, ol)⟩]) hV hl hz (by simp [nums]), hB.alloc hz _⟩
    case s8 =>
      intro hl hw
      have D := waits hw
      replace hl : L 8 = false := hl
      clear hw
      refine wpOp_shut (o := _) rfl (fun KK hKK => ?_)
      obtain ⟨hP, h1, h3, h4, h5, h6, hV, hB⟩ := hI.out
      have hz : N ≤ w.heap.size := hN ▸ hB.size
      clear D
      go_simp
      exact hKK.out _ _ ⟨p5, _, v7, v9, v11, v12, v13, q5, _, rfl, all_setL 8 hP, h1.step 8 (by decide) ((Below.refl _ _).alloc (Nat.le_refl _) _), setL_un (show 3 ≠ 8 by decide) h3, setL_un (show 4 ≠ 8 by decide) h4, setL_un (show 5 ≠ 8 by decide) h5, setL_un (show 6 ≠ 8 by decide) h6, Vas.laid (l1 := [⟨7, 9, q5, p5, (qh, ql)⟩]) (l2 := []) hV hl hz (by simp [nums]), hB.alloc hz _⟩
    case s9 =>
      intro hl hw
      have D := waits hw
      replace hl : L 9 = false := hl
      clear hw
      refine wpOp_shut (o := _) rfl (fun KK hKK => ?_)
      obtain ⟨hP, h1, h3, h4, h5, h6, hV, hB⟩ := hI.out
      have hz : N ≤ w.heap.size := hN ▸ hB.size
      have e9 : p5 = .pointer (some ⟨q5, 0, none⟩) := (hV.ok ⟨7, 9, q5, p5, (qh, ql)⟩ (by simp)).ptr (D 7 (by decide))
      obtain rfl := h5 (D 5 (by decide))
      have D3 : L 3 = true := D 3 (by decide)
      obtain rfl := h3 D3
      subst e9
      obtain ⟨c, hE, _⟩ := (hV.ok ⟨7, 9, q5, .pointer (some ⟨q5, 0, none⟩), (qh, ql)⟩ (by simp)).room (D 7 (by decide))
      have hlow : N ≤ q5 := (hV.ok ⟨7, 9, q5, .pointer (some ⟨q5, 0, none⟩), (qh, ql)⟩ (by simp)).low (D 7 (by decide))
      obtain ⟨⟨e1, e0⟩, f1, f0⟩ := hE
      dsimp only at e1 e0 f1 f0
      have D7 := D 7 (by decide)
      have D8 := D 8 (by decide)
      clear D hl
      go_simp
      exact hKK.out _ _ ⟨_, p6, v7, v9, _, _, v13, q5, q6, rfl, all_setL 9 hP, ElOk.gone 9 D3, setL_un (show 3 ≠ 9 by decide) h3, setL_un (show 4 ≠ 9 by decide) h4, setL_un (show 5 ≠ 9 by decide) h5, setL_un (show 6 ≠ 9 by decide) h6, Vas.fill (l1 := []) (l2 := [⟨8, 10, q6, p6, (oh, ol)⟩]) (x := ⟨7, 9, q5, .pointer (some ⟨q5, 0, none⟩), (qh, ql)⟩) hV D7 (fun y hy => by simp at hy; subst hy; assumption) (by simp [nums]), (hB.setCell hlow _).setCell hlow _⟩
    case s10 =>
      intro hl hw
      have D := waits hw
      replace hl : L 10 = false := hl
      clear hw
      refine wpOp_shut (o := _) rfl (fun KK hKK => ?_)
      obtain ⟨hP, h1, h3, h4, h5, h6, hV, hB⟩ := hI.out
      have hz : N ≤ w.heap.size := hN ▸ hB.size
      have e9 : p6 = .pointer (some ⟨q6, 0, none⟩) := (hV.ok ⟨8, 10, q6, p6, (oh, ol)⟩ (by simp)).ptr (D 8 (by decide))
      obtain rfl := h6 (D 6 (by decide))
      have D3 : L 3 = true := D 3 (by decide)
      obtain rfl := h3 D3
      subst e9
      obtain ⟨c, hE, _⟩ := (hV.ok ⟨8, 10, q6, .pointer (some ⟨q6, 0, none⟩), (oh, ol)⟩ (by simp)).room (D 8 (by decide))
      have hlow : N ≤ q6 := (hV.ok ⟨8, 10, q6, .pointer (some ⟨q6, 0, none⟩), (oh, ol)⟩ (by simp)).low (D 8 (by decide))
      obtain ⟨⟨e1, e0⟩, f1, f0⟩ := hE
      dsimp only at e1 e0 f1 f0
      have D8 := D 8 (by decide)
      have D7 := D 7 (by decide)
      clear D hl
      go_simp
      exact hKK.out _ _ ⟨p5, _, v7, v9, _, v12, _, q5, q6, rfl, all_setL 10 hP, ElOk.gone 10 D3, setL_un (show 3 ≠ 10 by decide) h3, setL_un (show 4 ≠ 10 by decide) h4, setL_un (show 5 ≠ 10 by decide) h5, setL_un (show 6 ≠ 10 by decide) h6, Vas.fill (l1 := [⟨7, 9, q5, p5, (qh, ql)⟩]) (l2 := []) (x := ⟨8, 10, q6, .pointer (some ⟨q6, 0, none⟩), (oh, ol)⟩) hV D8 (fun y hy => by simp at hy; subst hy; assumption) (by simp [nums]), (hB.setCell hlow _).setCell hlow _⟩
  case done =>
    rintro L ac w ⟨p5, p6, v7, v9, v11, v12, v13, q5, q6, rfl, hI⟩ hAll
    obtain ⟨hP, h1, h3, h4, h5, h6, hV, hB⟩ := hI.out
    clear hI hP
    have ep5 : p5 = .pointer (some ⟨q5, 0, none⟩) := (hV.ok ⟨7, 9, q5, p5, (qh, ql)⟩ (by simp)).ptr (hAll 7 (by decide))
    have Eq5 : El w q5 qh ql := (hV.ok ⟨7, 9, q5, p5, (qh, ql)⟩ (by simp)).el (hAll 9 (by decide))
    have ep6 : p6 = .pointer (some ⟨q6, 0, none⟩) := (hV.ok ⟨8, 10, q6, p6, (oh, ol)⟩ (by simp)).ptr (hAll 8 (by decide))
    obtain rfl := h3 (hAll 3 (by decide))
    obtain rfl := h4 (hAll 4 (by decide))
    obtain rfl := h5 (hAll 5 (by decide))
    obtain rfl := h6 (hAll 6 (by decide))
    subst ep5 ep6
    have HW : Below W.heap.size W w := HB0.trans (hB.mono (hN ▸ HB0.size))
    clear h1 h3 h4 h5 h6 hV hAll hHeld hB E5 HB0 HE
    refine NoPanic.normal ?_
    have r1 := Eq5.hi
    have r0 := Eq5.lo
    go_wp2
    all_goals go_ret
    all_goals exact ⟨by simp [*], HW⟩
end Go.Proofs.Ytkllihomdlibgaa
