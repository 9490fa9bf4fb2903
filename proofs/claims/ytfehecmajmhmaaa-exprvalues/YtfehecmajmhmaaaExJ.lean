/- Contracts of expr.allOf and value over the seat's translation; values of steps, no Go in sight. -/
import Derived.Test.YtfehecmajmhmaaaExE
import Derived.Test.YtfehecmajmhmaaaCbA
namespace Go.Proofs.Ytfehecmajmhmaaa
open Go.RowKit
open Cb
open Tw (pm)

set_option maxHeartbeats 2000000 in
/-- Are all elements of a level? -/
theorem xall (l : Int) (a : Option Addr) (cap : Nat) (es : List (Nat × Nat)) (hes : ltE es) (W : World) (hr : ERow W a es) (h10 : es.length ≤ 100000) :
    Calls Try.prog 27 #[.int .i64 l, .slice a es.length cap] W fun e w' => e = .returned (.bool (es.all fun e => ofB l (e.1 : Int) (e.2 : Int))) ∧ Below W.heap.size W w' := by
  have HR : Hid (ERow W a es) := hr
  have HO : Hid (∀ j : Nat, Ret 39 #[.int .i64 l, .agg #[.int .u64 ((es.getD j (0, 0)).1 : Int), .int .u64 ((es.getD j (0, 0)).2 : Int)]] (.bool (ofB l ((es.getD j (0, 0)).1 : Int) ((es.getD j (0, 0)).2 : Int)))) := fun j => of_ret l _ _ (hes.at j).2
  clear hr hes
  go_enter Try.func27, Try.ntmps27
  go_wp2_with fail
  go_loopw [9] (fun u wr => ∃ j : Nat, j ≤ es.length ∧ u = .int .i64 j ∧ Hid ((es.take j).all (fun e => ofB l (e.1 : Int) (e.2 : Int)) = true) ∧ Below W.heap.size W wr) (fun u _ => es.length - (intOf u).toNat)
  case atStart => exact ⟨0, Nat.zero_le _, rfl, (by rfl), Below.refl _ _⟩
  case round =>
    obtain ⟨j, hj, rfl, HT, hD⟩ := hrel
    by_cases hlt : j < es.length
    · obtain ⟨b, off, rfl, hb, c1, c0⟩ := HR.out.cells j hlt
      have d1 : wr.cell? ⟨b, off + j * 2, none⟩ = some (.int .u64 ((es.getD j (0, 0)).1 : Nat)) := by rw [hD.cell (p := ⟨b, off + j * 2, none⟩) hb]; exact c1
      have d0 : wr.cell? ⟨b, off + j * 2 + 1, none⟩ = some (.int .u64 ((es.getD j (0, 0)).2 : Nat)) := by rw [hD.cell (p := ⟨b, off + j * 2 + 1, none⟩) hb]; exact c0
      have H1 := HO.out j
      have HD : Hid (Below W.heap.size W wr) := hD
      have HS : Hid (es.take (j + 1) = es.take j ++ [es.getD j (0, 0)]) := take_sn es j hlt
      have HM : Hid (es.getD j (0, 0) ∈ es) := by show _ ∈ _; rw [show es.getD j (0, 0) = es[j] by simp [hlt]]; exact List.getElem_mem hlt
      clear hD c1 c0 HR HO
      generalize es.getD j (0, 0) = x at *
      rcases hB : ofB l (x.1 : Int) (x.2 : Int) with _ | _
      · rw [hB] at H1
        go_wp2_with fail
        refine (H1.go _).mono ?_
        rintro e w4 ⟨rfl, hb4⟩
        have HD4 : Hid (Below W.heap.size W w4) := (HD.out.alloc HD.out.size _).trans (hb4.mono (by have := HD.out.size; simp; omega))
        clear hb4 d1 d0 HD
        go_wp2
        go_ret
        refine ⟨?_, HD4.out⟩
        rw [show (es.all fun e => ofB l (e.1 : Int) (e.2 : Int)) = false from by
          rw [List.all_eq_false]; exact ⟨x, HM.out, by rw [hB]; decide⟩]
        rfl
      · rw [hB] at H1
        go_wp2_with fail
        refine (H1.go _).mono ?_
        rintro e w4 ⟨rfl, hb4⟩
        have HD4 : Hid (Below W.heap.size W w4) := (HD.out.alloc HD.out.size _).trans (hb4.mono (by have := HD.out.size; simp; omega))
        clear hb4 d1 d0 HD
        go_wp2
        exact ⟨⟨j + 1, hlt, by simp, (by show _ = _; rw [HS.out, List.all_append, HT.out]; simp [hB]), HD4.out⟩, by simp [intOf]; omega⟩
    · have HD : Hid (Below W.heap.size W wr) := hD
      obtain rfl : j = es.length := by omega
      clear hD
      go_wp2
      go_ret
      refine ⟨?_, HD.out⟩
      have := HT.out
      rw [List.take_of_length_le (Nat.le_refl _)] at this
      rw [this]
      rfl
/-- The value of a step, from those of the steps ahead and of the variables. -/
def va (o : Stp) (d : Nat → Nat × Nat) (vs : List (Nat × Nat)) : Nat × Nat :=
  if o.k = 2 then el vs o.a.toNat else if o.k = 3 then xa (d o.a.toNat) (d o.b.toNat) else if o.k = 4 then pm (d o.a.toNat) (d o.b.toNat) else o.v
/-- Two numbers of a step, two elements of a row, and room for one. -/
structure Vst (W w : World) (g x y : Nat) (a b : Int) (p q : Nat × Nat) : Prop where
  a : w.cell? ⟨W.heap.size, 1, none⟩ = some (.int .i64 a)
  b : w.cell? ⟨W.heap.size, 2, none⟩ = some (.int .i64 b)
  p1 : w.cell? ⟨g, x * 2, none⟩ = some (.int .u64 (p.1 : Int))
  p2 : w.cell? ⟨g, x * 2 + 1, none⟩ = some (.int .u64 (p.2 : Int))
  q1 : w.cell? ⟨g, y * 2, none⟩ = some (.int .u64 (q.1 : Int))
  q2 : w.cell? ⟨g, y * 2 + 1, none⟩ = some (.int .u64 (q.2 : Int))
  r : Ew w (W.heap.size + 1) 0 0
  d : Below W.heap.size W w
theorem Vst.below {W w w' : World} {g x y : Nat} {a b : Int} {p q : Nat × Nat} (h : Vst W w g x y a b p q) (hb : Below w.heap.size w w') : Vst W w' g x y a b p q :=
  ⟨keepc hb h.a, keepc hb h.b, keepc hb h.p1, keepc hb h.p2, keepc hb h.q1, keepc hb h.q2, h.r.below hb, h.d.trans (hb.mono h.d.size)⟩
theorem Vst.drew {W w : World} {g x y : Nat} {a b : Int} {p q : Nat × Nat} (h : Vst W w g x y a b p q) : Vst W w.drew g x y a b p q := h.below (Below.refl _ _).drew
theorem Vst.facts {W w : World} {g x y : Nat} {a b : Int} {p q : Nat × Nat} (h : Vst W w g x y a b p q) :
    w.cell? ⟨W.heap.size, 1, none⟩ = some (.int .i64 a) ∧ w.cell? ⟨W.heap.size, 2, none⟩ = some (.int .i64 b) ∧ w.cell? ⟨g, x * 2, none⟩ = some (.int .u64 (p.1 : Int)) ∧ w.cell? ⟨g, x * 2 + 1, none⟩ = some (.int .u64 (p.2 : Int)) ∧ w.cell? ⟨g, y * 2, none⟩ = some (.int .u64 (q.1 : Int)) ∧ w.cell? ⟨g, y * 2 + 1, none⟩ = some (.int .u64 (q.2 : Int)) :=
  ⟨h.a, h.b, h.p1, h.p2, h.q1, h.q2⟩
set_option maxHeartbeats 8000000 in
set_option maxRecDepth 100000 in
theorem xval (m : Nat) (g L n : Nat) (d : Nat → Nat × Nat) (hd : ∀ p, lt2 (d p) ∧ ofE m (d p)) (o : Stp) (hn : n ≤ L) (hs : o.k = 3 ∨ o.k = 4 → (0 ≤ o.a ∧ o.a < n) ∧ (0 ≤ o.b ∧ o.b < n)) (sa : Option Addr) (cap : Nat) (vs : List (Nat × Nat)) (hv : o.k = 2 → 0 ≤ o.a ∧ o.a < vs.length) (W : World) (hr : ∀ p, p < n → W.cell? ⟨g, p * 2, none⟩ = some (.int .u64 ((d p).1 : Int)) ∧ W.cell? ⟨g, p * 2 + 1, none⟩ = some (.int .u64 ((d p).2 : Int))) (hV : ERow W sa vs) :
    Calls Try.prog 28 #[.int .i64 (m : Int), o.val, .slice (some ⟨g, 0, none⟩) L L, .slice sa vs.length cap] W fun e w' => e = .returned (.agg #[.int .u64 ((va o d vs).1 : Int), .int .u64 ((va o d vs).2 : Int)]) ∧ Below W.heap.size W w' := by
  obtain ⟨k, a, b, v⟩ := o
  unfold va Stp.val
  dsimp only at *
  by_cases h2 : k = 2
  · rw [if_pos h2]
    obtain ⟨ha0, ha1⟩ := hv h2
    subst h2
    obtain ⟨x, rfl⟩ : ∃ x : Nat, a = (x : Int) := ⟨a.toNat, by omega⟩
    obtain ⟨b0, off, rfl, hb0, c1, c0⟩ := hV.cells x (by omega)
    rw [Int.toNat_natCast]
    unfold el
    generalize vs.getD x (0, 0) = r at *
    have hb := ((Below.refl W.heap.size W).alloc (Nat.le_refl _) (Obj.cells #[.int .i64 2, .int .i64 (x : Int), .int .i64 b, .int .u64 (v.1 : Int), .int .u64 (v.2 : Int)] 32)).alloc (by simp) (Obj.cells #[.int .u64 0, .int .u64 0] 30)
    have d1 := keepc hb c1
    have d0 := keepc hb c0
    clear hr hd hs hv hV c1 c0 hb
    go_enter Try.func28, Try.ntmps28
    go_wp2
    refine bodyPost_ret (v := .agg #[.int .u64 (r.1 : Int), .int .u64 (r.2 : Int)]) (by simp [results, Try.results28, go_sem, *]) rfl ⟨rfl, ?_⟩
    go_grown
  · rw [if_neg h2]
    have g2 : (k == 2) = false := by rw [beq_eq_false_iff_ne]; exact h2
    by_cases h34 : k = 3 ∨ k = 4
    · obtain ⟨ha, hb⟩ := hs h34
      obtain ⟨x, rfl⟩ : ∃ x : Nat, a = (x : Int) := ⟨a.toNat, by omega⟩
      obtain ⟨y, rfl⟩ : ∃ y : Nat, b = (y : Int) := ⟨b.toNat, by omega⟩
      have hx : (x : Int) < (L : Int) := by omega
      have hy : (y : Int) < (L : Int) := by omega
      have hx0 : (0 : Int) ≤ (x : Int) := by omega
      have hy0 : (0 : Int) ≤ (y : Int) := by omega
      obtain ⟨r1, r2⟩ := hr x (by omega)
      obtain ⟨s1, s2⟩ := hr y (by omega)
      have e1 := hd x
      have e2 := hd y
      rw [Int.toNat_natCast, Int.toNat_natCast]
      generalize d x = p at *
      generalize d y = q at *
      have hgl : g < W.heap.size := cell_lt r1
      have hg : ¬ g = W.heap.size + 1 := by omega
      have hb0 := ((Below.refl W.heap.size W).alloc (Nat.le_refl _) (Obj.cells #[.int .i64 k, .int .i64 (x : Int), .int .i64 (y : Int), .int .u64 (v.1 : Int), .int .u64 (v.2 : Int)] 32)).alloc (by simp) (Obj.cells #[.int .u64 0, .int .u64 0] 30)
      have K : Vst W ((W.alloc (Obj.cells #[.int .i64 k, .int .i64 (x : Int), .int .i64 (y : Int), .int .u64 (v.1 : Int), .int .u64 (v.2 : Int)] 32)).alloc (Obj.cells #[.int .u64 0, .int .u64 0] 30)) g x y (x : Int) (y : Int) p q :=
        ⟨by simp [go_sem], by simp [go_sem], keepc hb0 r1, keepc hb0 r2, keepc hb0 s1, keepc hb0 s2, ⟨⟨by simp [go_sem], by simp [go_sem]⟩, by simp [go_sem], by simp [go_sem]⟩, hb0⟩
      have H1 : Hid (Ret 40 #[.agg #[.int .u64 (p.1 : Int), .int .u64 (p.2 : Int)], .agg #[.int .u64 (q.1 : Int), .int .u64 (q.2 : Int)]] (.agg #[.int .u64 ((xa p q).1 : Int), .int .u64 ((xa p q).2 : Int)])) := fun w => add_any _ _ _ _ e1.1.1 e1.1.2 e2.1.1 e2.1.2 w
      have H2 : Hid (Ret 41 #[.int .i64 (m : Int), .agg #[.int .u64 (p.1 : Int), .int .u64 (p.2 : Int)], .agg #[.int .u64 (q.1 : Int), .int .u64 (q.2 : Int)]] (.agg #[.int .u64 ((pm p q).1 : Int), .int .u64 ((pm p q).2 : Int)])) := by
        have := mul_any (m : Int) p q e1.1.1 e1.1.2 e2.1.1 e2.1.2
        rw [mulv_of e1.2 e2.2] at this
        exact this
      clear hr hd hs hv hV ha hb r1 r2 s1 s2 e1 e2 hb0 hgl hn
      by_cases h3 : k = 3
      · rw [if_pos h3]
        subst h3
        clear h34 H2
        generalize xa p q = r at *
        go_enter Try.func28, Try.ntmps28
        go_wp2_with fail
        generalize ((W.alloc (Obj.cells #[.int .i64 3, .int .i64 (x : Int), .int .i64 (y : Int), .int .u64 (v.1 : Int), .int .u64 (v.2 : Int)] 32)).alloc (Obj.cells #[.int .u64 0, .int .u64 0] 30)) = w3 at *
        have F := K.facts
        obtain ⟨⟨z1, z2⟩, z3, z4⟩ := K.r
        go_region_held3 (fun w => w.cell? ⟨W.heap.size, 1, none⟩ = some (.int .i64 (x : Int)) ∧ w.cell? ⟨W.heap.size, 2, none⟩ = some (.int .i64 (y : Int)) ∧ w.cell? ⟨g, x * 2, none⟩ = some (.int .u64 (p.1 : Int)) ∧ w.cell? ⟨g, x * 2 + 1, none⟩ = some (.int .u64 (p.2 : Int)) ∧ w.cell? ⟨g, y * 2, none⟩ = some (.int .u64 (q.1 : Int)) ∧ w.cell? ⟨g, y * 2 + 1, none⟩ = some (.int .u64 (q.2 : Int))) (first | (go_keep; done) | (obtain ⟨f1, f2, f3, f4, f5, f6⟩ := F; refine ⟨?_, ?_, ?_, ?_, ?_, ?_⟩ <;> simp [go_sem, *])) (first | (go_at_call 40; refine (H1.out.go _).mono ?_; rintro e w' ⟨rfl, hb'⟩; have K' := Vst.below (w' := w') (by first | exact K | exact K.drew) hb'; clear F K hb' z1 z2 z3 z4; have K := K'; clear K'; have F := K.facts; obtain ⟨⟨z1, z2⟩, z3, z4⟩ := K.r))
        go_wp2
        refine bodyPost_ret (v := .agg #[.int .u64 (r.1 : Int), .int .u64 (r.2 : Int)]) (by simp [results, Try.results28, go_sem, *]) rfl ⟨rfl, ?_⟩
        exact (K.d.setCell (by simp) _).setCell (by simp) _
      · rw [if_neg h3]
        have h4 : k = 4 := by omega
        rw [if_pos h4]
        subst h4
        clear h34 H1 h3
        generalize pm p q = r at *
        go_enter Try.func28, Try.ntmps28
        go_wp2_with fail
        generalize ((W.alloc (Obj.cells #[.int .i64 4, .int .i64 (x : Int), .int .i64 (y : Int), .int .u64 (v.1 : Int), .int .u64 (v.2 : Int)] 32)).alloc (Obj.cells #[.int .u64 0, .int .u64 0] 30)) = w3 at *
        have F := K.facts
        obtain ⟨⟨z1, z2⟩, z3, z4⟩ := K.r
        go_region_held3 (fun w => w.cell? ⟨W.heap.size, 1, none⟩ = some (.int .i64 (x : Int)) ∧ w.cell? ⟨W.heap.size, 2, none⟩ = some (.int .i64 (y : Int)) ∧ w.cell? ⟨g, x * 2, none⟩ = some (.int .u64 (p.1 : Int)) ∧ w.cell? ⟨g, x * 2 + 1, none⟩ = some (.int .u64 (p.2 : Int)) ∧ w.cell? ⟨g, y * 2, none⟩ = some (.int .u64 (q.1 : Int)) ∧ w.cell? ⟨g, y * 2 + 1, none⟩ = some (.int .u64 (q.2 : Int))) (first | (go_keep; done) | (obtain ⟨f1, f2, f3, f4, f5, f6⟩ := F; refine ⟨?_, ?_, ?_, ?_, ?_, ?_⟩ <;> simp [go_sem, *])) (first | (go_at_call 41; refine (H2.out.go _).mono ?_; rintro e w' ⟨rfl, hb'⟩; have K' := Vst.below (w' := w') (by first | exact K | exact K.drew) hb'; clear F K hb' z1 z2 z3 z4; have K := K'; clear K'; have F := K.facts; obtain ⟨⟨z1, z2⟩, z3, z4⟩ := K.r))
        go_wp2
        refine bodyPost_ret (v := .agg #[.int .u64 (r.1 : Int), .int .u64 (r.2 : Int)]) (by simp [results, Try.results28, go_sem, *]) rfl ⟨rfl, ?_⟩
        exact (K.d.setCell (by simp) _).setCell (by simp) _
    · rw [if_neg (fun h => h34 (.inl h)), if_neg (fun h => h34 (.inr h))]
      have g3 : (k == 3) = false := by rw [beq_eq_false_iff_ne]; exact fun h => h34 (.inl h)
      have g4 : (k == 4) = false := by rw [beq_eq_false_iff_ne]; exact fun h => h34 (.inr h)
      clear hr hd hs hv hV h34 h2
      go_enter Try.func28, Try.ntmps28
      go_wp2
      refine bodyPost_ret (v := .agg #[.int .u64 (v.1 : Int), .int .u64 (v.2 : Int)]) (by simp [results, Try.results28, go_sem, *]) rfl ⟨rfl, ?_⟩
      go_grown
end Go.Proofs.Ytfehecmajmhmaaa
