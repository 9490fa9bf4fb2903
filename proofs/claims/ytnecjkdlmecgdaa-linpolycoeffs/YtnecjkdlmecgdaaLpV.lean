/- Rows of any list: the loop of span's add over the seat's translation. -/
import Derived.Test.YtnecjkdlmecgdaaPLpG
namespace Go.Proofs.Ytnecjkdlmecgdaa
open Go.RowKit

/-- While a row is laid beside the others: the rows' own block, the new row, the struct. -/
structure Ast (W w : World) (B g n cap : Nat) (v : Value) (rs : List ((Nat × Nat) × (Nat × Nat))) (r : (Nat × Nat) × (Nat × Nat)) : Prop where
  c0 : w.cell? ⟨B, 0, none⟩ = some (.slice (some ⟨g, 0, none⟩) n cap)
  f0 : w.frozen? ⟨B, 0, none⟩ = false
  c1 : w.cell? ⟨B, 1, none⟩ = some v
  f1 : w.frozen? ⟨B, 1, none⟩ = false
  hn : rs.length = n
  own : w.ownsRow (B + 1) 103 4 (.slice (some ⟨g, 0, none⟩) n cap) n (flatR rs)
  r0 : w.cell? ⟨W.heap.size, 0, none⟩ = some (.int .u64 (r.1.1 : Nat))
  r1 : w.cell? ⟨W.heap.size, 1, none⟩ = some (.int .u64 (r.1.2 : Nat))
  r2 : w.cell? ⟨W.heap.size, 2, none⟩ = some (.int .u64 (r.2.1 : Nat))
  r3 : w.cell? ⟨W.heap.size, 3, none⟩ = some (.int .u64 (r.2.2 : Nat))
  hg : g < W.heap.size
  hB : B < W.heap.size
  d : Below B W w
  keep : ∀ k, k < W.heap.size → k ≠ B → k ≠ g → w.heap[k]? = W.heap[k]?
theorem Ast.below {W w w' : World} {B g n cap : Nat} {v : Value} {rs : List ((Nat × Nat) × (Nat × Nat))} {r : (Nat × Nat) × (Nat × Nat)} (h : Ast W w B g n cap v rs r) (k : Below w.heap.size w w') : Ast W w' B g n cap v rs r :=
  ⟨keepc k h.c0, keepf k h.c0 h.f0, keepc k h.c1, keepf k h.c1 h.f1, h.hn, own_below h.own k, keepc k h.r0, keepc k h.r1, keepc k h.r2, keepc k h.r3, h.hg, h.hB, h.d.trans (k.mono (Nat.le_trans (Nat.le_of_lt h.hB) h.d.size)), fun j h1 h2 h3 => (k.block j (Nat.lt_of_lt_of_le h1 h.d.size)).trans (h.keep j h1 h2 h3)⟩
theorem Ast.gB {W w : World} {B g n cap : Nat} {v : Value} {rs : List ((Nat × Nat) × (Nat × Nat))} {r : (Nat × Nat) × (Nat × Nat)} (h : Ast W w B g n cap v rs r) : B < g := by
  have := (h.own.lt g rfl).1; omega
theorem Ast.put {W w : World} {B g n cap m : Nat} {v : Value} {rs : List ((Nat × Nat) × (Nat × Nat))} {r s : (Nat × Nat) × (Nat × Nat)} (h : Ast W w B g n cap v rs r) (hm : m < n) :
    Ast W ((((w.setCell ⟨g, m * 4, none⟩ (.int .u64 (s.1.1 : Int))).setCell ⟨g, m * 4 + 1, none⟩ (.int .u64 (s.1.2 : Int))).setCell ⟨g, m * 4 + 2, none⟩ (.int .u64 (s.2.1 : Int))).setCell ⟨g, m * 4 + 3, none⟩ (.int .u64 (s.2.2 : Int))) B g n cap v (rs.set m s) r := by
  have gB := h.gB
  have hg := h.hg
  have e1 : ¬ g = B := by omega
  have e2 : ¬ g = W.heap.size := by omega
  have e3 : ¬ B = g := by omega
  have e4 : ¬ W.heap.size = g := by omega
  have o := own_set (own_set (own_set (own_set h.own (m * 4) (.int .u64 (s.1.1 : Int))) (m * 4 + 1) (.int .u64 (s.1.2 : Int))) (m * 4 + 2) (.int .u64 (s.2.1 : Int))) (m * 4 + 3) (.int .u64 (s.2.2 : Int))
  rw [flatR_set rs s m (by rw [h.hn]; exact hm)] at o
  refine ⟨?_, ?_, ?_, ?_, by rw [List.length_set]; exact h.hn, o, ?_, ?_, ?_, ?_, h.hg, h.hB, ?_, fun j h1 h2 h3 => ?_⟩
  · simp [go_sem, h.c0]
  · simp [go_sem, h.f0]
  · simp [go_sem, h.c1]
  · simp [go_sem, h.f1]
  · simp [go_sem, h.r0]
  · simp [go_sem, h.r1]
  · simp [go_sem, h.r2]
  · simp [go_sem, h.r3]
  · have hb : B ≤ g := by omega
    exact (((h.d.setCell hb _).setCell hb _).setCell hb _).setCell hb _
  · rw [Below.heap_setCell _ _ _ _ h3, Below.heap_setCell _ _ _ _ h3, Below.heap_setCell _ _ _ _ h3, Below.heap_setCell _ _ _ _ h3]
    exact h.keep j h1 h2 h3
/-- A row of the others behind it. -/
def outv (L : Nat) (r o : (Nat × Nat) × (Nat × Nat)) : (Nat × Nat) × (Nat × Nat) := if hasE o.1 L = true then ((o.1.1 ^^^ r.1.1, o.1.2 ^^^ r.1.2), (o.2.1 ^^^ r.2.1, o.2.2 ^^^ r.2.2)) else o
set_option maxHeartbeats 8000000 in
set_option maxRecDepth 100000 in
theorem sadd_core (B g n cap : Nat) (v : Value) (rs : List ((Nat × Nat) × (Nat × Nat))) (r : (Nat × Nat) × (Nat × Nat)) (L : Nat) (W : World) (hL : L < 128) (h1 : n ≤ 1000)
    (hA : Ast W (W.alloc (Obj.cells #[.int .u64 (r.1.1 : Int), .int .u64 (r.1.2 : Int), .int .u64 (r.2.1 : Int), .int .u64 (r.2.2 : Int)] 103)) B g n cap v rs r)
    (HL : Ret 75 #[.agg #[.int .u64 (r.1.1 : Int), .int .u64 (r.1.2 : Int)]] (.int .i64 ((L + 1 : Nat) : Int))) (rv : Nat → List ((Nat × Nat) × (Nat × Nat))) (b : Nat → Bool)
    (R0 : rv 0 = rs) (HH : Hid (∀ m, m < n → Ret 74 #[.agg #[.int .u64 (((rv m).getD m ((0, 0), (0, 0))).1.1 : Int), .int .u64 (((rv m).getD m ((0, 0), (0, 0))).1.2 : Int)], .int .i64 (L : Int)] (.bool (b m))))
    (HS : Hid (∀ m, m < n → b m = false → rv (m + 1) = rv m))
    (HA : Hid (∀ m, m < n → b m = true → ∃ s : (Nat × Nat) × (Nat × Nat), Ret 20 #[.agg #[.int .u64 (((rv m).getD m ((0, 0), (0, 0))).1.1 : Int), .int .u64 (((rv m).getD m ((0, 0), (0, 0))).1.2 : Int)], .agg #[.int .u64 (r.1.1 : Int), .int .u64 (r.1.2 : Int)]] (.agg #[.int .u64 (s.1.1 : Int), .int .u64 (s.1.2 : Int)])
      ∧ Ret 20 #[.agg #[.int .u64 (((rv m).getD m ((0, 0), (0, 0))).2.1 : Int), .int .u64 (((rv m).getD m ((0, 0), (0, 0))).2.2 : Int)], .agg #[.int .u64 (r.2.1 : Int), .int .u64 (r.2.2 : Int)]] (.agg #[.int .u64 (s.2.1 : Int), .int .u64 (s.2.2 : Int)]) ∧ rv (m + 1) = (rv m).set m s)) :
    Calls Try.prog 72 #[.pointer (some ⟨B, 0, none⟩), .agg #[.int .u64 (r.1.1 : Int), .int .u64 (r.1.2 : Int), .int .u64 (r.2.1 : Int), .int .u64 (r.2.2 : Int)]] W fun e w' => ∃ v', e = .returned (.tuple #[]) ∧ w'.cell? ⟨B, 0, none⟩ = some v' ∧ w'.frozen? ⟨B, 0, none⟩ = false ∧ w'.cell? ⟨B, 1, none⟩ = some v ∧ w'.frozen? ⟨B, 1, none⟩ = false ∧ w'.ownsRow (B + 1) 103 4 v' (n + 1) (flatR (rv n ++ [r])) ∧ (∃ g', v'.ownBlock = some g' ∧ (g' = g ∨ W.heap.size ≤ g')) ∧ Below B W w' ∧ ∀ k, k < W.heap.size → k ≠ B → k ≠ g → w'.heap[k]? = W.heap[k]? := by
  obtain ⟨i0, hi, hz0, hz1, hz2⟩ := info_srow
  have HN : Hid (Try.prog.info? 103 = some i0 ∧ i0.zero = some (.agg #[.int .u64 0, .int .u64 0, .int .u64 0, .int .u64 0]) ∧ i0.size = 4 ∧ i0.bytes = 32) := ⟨hi, hz0, hz1, hz2⟩
  clear hi hz0 hz1 hz2
  have hwL : IntKind.i64.wrap (L : Int) = (L : Int) := by rw [IntKind.wrap_i64]; omega
  have KA : Hid (Ast W (W.alloc (Obj.cells #[.int .u64 (r.1.1 : Int), .int .u64 (r.1.2 : Int), .int .u64 (r.2.1 : Int), .int .u64 (r.2.2 : Int)] 103)) B g n cap v rs r) := hA
  clear hA
  go_enter Try.func72, Try.ntmps72
  go_wp2_with fail
  refine (HL.go _).mono ?_
  rintro e w1 ⟨rfl, hb1⟩
  have K1 : Hid (Ast W w1 B g n cap v rs r) := KA.out.below hb1
  have c0 := K1.out.c0
  clear hb1 KA HL
  go_wp2_with fail
  clear c0
  go_loopw [16] (fun u wr => ∃ m : Nat, m ≤ n ∧ u = .int .i64 m ∧ Ast W wr B g n cap v (rv m) r) (fun u _ => n - (intOf u).toNat)
  case atStart => exact ⟨0, Nat.zero_le _, rfl, by rw [R0]; exact K1.out⟩
  case round =>
    obtain ⟨m, hmn, rfl, hA⟩ := hrel
    have KA : Hid (Ast W wr B g n cap v (rv m) r) := hA
    clear K1 hA
    by_cases hlt : m < n
    · have a := flatR_at (rv m) m (by rw [KA.out.hn]; exact hlt)
      have d0 := (own_cell KA.out.own (m * 4) (by omega)).1.trans a.1
      have d1 := (own_cell KA.out.own (m * 4 + 1) (by omega)).1.trans a.2.1
      have H2 := HH.out m hlt
      have c0 := KA.out.c0
      clear a HH
      rcases hbm : b m with _ | _
      · have hE := HS.out m hlt hbm
        clear HS HA
        go_wp2_with (go_at_call 74; refine (H2.go _).mono ?_; rintro e w2 ⟨rfl, hb2⟩; have K2 : Hid (Ast W w2 B g n cap v (rv m) r) := KA.out.below hb2)
        exact ⟨⟨m + 1, hlt, by simp, by rw [hE]; exact K2.out⟩, by simp [intOf]; omega⟩
      · obtain ⟨s, A1, A2, hE⟩ := HA.out m hlt hbm
        clear HS HA
        go_wp2_with (go_at_call 74; refine (H2.go _).mono ?_; rintro e w2 ⟨rfl, hb2⟩; have K2 : Hid (Ast W w2 B g n cap v (rv m) r) := KA.out.below hb2)
        have a := flatR_at (rv m) m (by rw [K2.out.hn]; exact hlt)
        have d0 := (own_cell K2.out.own (m * 4) (by omega)).1.trans a.1
        have d1 := (own_cell K2.out.own (m * 4 + 1) (by omega)).1.trans a.2.1
        have d2 := (own_cell K2.out.own (m * 4 + 2) (by omega)).1.trans a.2.2.1
        have d3 := (own_cell K2.out.own (m * 4 + 3) (by omega)).1.trans a.2.2.2
        clear a KA hb2 c0
        generalize (rv m).getD m ((0, 0), (0, 0)) = x at *
        have hHeld : (fun w => w.cell? ⟨g, m * 4, none⟩ = some (.int .u64 (x.1.1 : Nat)) ∧ w.cell? ⟨g, m * 4 + 1, none⟩ = some (.int .u64 (x.1.2 : Nat)) ∧ w.cell? ⟨g, m * 4 + 2, none⟩ = some (.int .u64 (x.2.1 : Nat)) ∧ w.cell? ⟨g, m * 4 + 3, none⟩ = some (.int .u64 (x.2.2 : Nat)) ∧ w.cell? ⟨W.heap.size, 0, none⟩ = some (.int .u64 (r.1.1 : Nat)) ∧ w.cell? ⟨W.heap.size, 1, none⟩ = some (.int .u64 (r.1.2 : Nat)) ∧ w.cell? ⟨W.heap.size, 2, none⟩ = some (.int .u64 (r.2.1 : Nat)) ∧ w.cell? ⟨W.heap.size, 3, none⟩ = some (.int .u64 (r.2.2 : Nat))) w2.drew := ⟨d0, d1, d2, d3, K2.out.r0, K2.out.r1, K2.out.r2, K2.out.r3⟩
        clear d0 d1 d2 d3
        refine wp_region_noPanic ?_
        refine wp_region_any (by kernel_rfl) ?_
        refine wpAny_take (fuel := 21) (i := 1) (oi := _) (v := ?_) rfl (by kernel_rfl) (by kernel_rfl) (by kernel_rfl) (fun _ _ _ h => h) (Or.inl ⟨by rfl, ?_⟩) ?_
        rotate_left
        · ((intro w; go_simp) <;> (try with_reducible rfl))
        try simp only [Act.put]
        refine wpAny_apart (n := 21) (l := (Array.replicate 21 false).setIfInBounds 1 true) (fun _ => false) (by kernel_rfl) rfl rfl (by kernel_rfl) (by kernel_rfl) (by kernel_rfl) (fun _ h => by cases h) ?_
        refine wpAny_apart (n := 20) (l := (Array.replicate 20 false).setIfInBounds 1 true) (fun _ => false) (by kernel_rfl) rfl rfl (by kernel_rfl) (by kernel_rfl) (by kernel_rfl) (fun _ h => by cases h) ?_
        refine wpAny_apart (n := 19) (l := (Array.replicate 19 false).setIfInBounds 1 true) (fun _ => false) (by kernel_rfl) rfl rfl (by kernel_rfl) (by kernel_rfl) (by kernel_rfl) (fun _ h => by cases h) ?_
        refine wpAny_apart (n := 18) (l := (Array.replicate 18 false).setIfInBounds 1 true) (fun j => j == 1) (by kernel_rfl) rfl rfl (by kernel_rfl) (by kernel_rfl) (by kernel_rfl) (fun j h => by rw [show j = 1 from by simpa using h]; decide) ?_
        refine wpAny_of_held (S := fun w => w.cell? ⟨g, m * 4, none⟩ = some (.int .u64 (x.1.1 : Nat)) ∧ w.cell? ⟨g, m * 4 + 1, none⟩ = some (.int .u64 (x.1.2 : Nat)) ∧ w.cell? ⟨g, m * 4 + 2, none⟩ = some (.int .u64 (x.2.1 : Nat)) ∧ w.cell? ⟨g, m * 4 + 3, none⟩ = some (.int .u64 (x.2.2 : Nat)) ∧ w.cell? ⟨W.heap.size, 0, none⟩ = some (.int .u64 (r.1.1 : Nat)) ∧ w.cell? ⟨W.heap.size, 1, none⟩ = some (.int .u64 (r.1.2 : Nat)) ∧ w.cell? ⟨W.heap.size, 2, none⟩ = some (.int .u64 (r.2.1 : Nat)) ∧ w.cell? ⟨W.heap.size, 3, none⟩ = some (.int .u64 (r.2.2 : Nat))) _ _ _ _ ?_
        refine wpAnyH_take (i := 0) (oi := _) (v := ?_) rfl (by kernel_rfl) (by kernel_rfl) (by kernel_rfl) (fun _ _ _ h => h) (Or.inl ⟨by rfl, ?_⟩) (by assumption) ?_
        rotate_left
        · ((intro w hSw; (try dsimp only at hSw); go_simp) <;> (try with_reducible rfl))
        try simp only [Act.put]
        refine wpAnyH_take (i := 2) (oi := _) (v := ?_) rfl (by kernel_rfl) (by kernel_rfl) (by kernel_rfl) (fun _ _ _ h => h) (Or.inl ⟨by rfl, ?_⟩) (by assumption) ?_
        rotate_left
        · ((intro w hSw; (try dsimp only at hSw); go_simp) <;> (try with_reducible rfl))
        try simp only [Act.put]
        refine wpAnyH_take (i := 3) (oi := _) (v := ?_) rfl (by kernel_rfl) (by kernel_rfl) (by kernel_rfl) (fun _ _ _ h => h) (Or.inl ⟨by rfl, ?_⟩) (by assumption) ?_
        rotate_left
        · ((intro w hSw; (try dsimp only at hSw); go_simp) <;> (try with_reducible rfl))
        try simp only [Act.put]
        refine wpAnyH_take (i := 4) (oi := _) (v := ?_) rfl (by kernel_rfl) (by kernel_rfl) (by kernel_rfl) (fun _ _ _ h => h) (Or.inl ⟨by rfl, ?_⟩) (by assumption) ?_
        rotate_left
        · ((intro w hSw; (try dsimp only at hSw); go_simp) <;> (try with_reducible rfl))
        try simp only [Act.put]
        refine wpAnyH_take (i := 5) (oi := _) (v := ?_) rfl (by kernel_rfl) (by kernel_rfl) (by kernel_rfl) (fun _ _ _ h => h) (Or.inl ⟨by rfl, ?_⟩) (by assumption) ?_
        rotate_left
        · ((intro w hSw; (try dsimp only at hSw); go_simp) <;> (try with_reducible rfl))
        try simp only [Act.put]
        refine wpAnyH_take (i := 6) (oi := _) (v := ?_) rfl (by kernel_rfl) (by kernel_rfl) (by kernel_rfl) (fun _ _ _ h => h) (Or.inl ⟨by rfl, ?_⟩) (by assumption) ?_
        rotate_left
        · ((intro w hSw; (try dsimp only at hSw); go_simp) <;> (try with_reducible rfl))
        try simp only [Act.put]
        refine wpAnyH_take (i := 7) (oi := _) (v := ?_) rfl (by kernel_rfl) (by kernel_rfl) (by kernel_rfl) (fun _ _ _ h => h) (Or.inl ⟨by rfl, ?_⟩) (by assumption) ?_
        rotate_left
        · ((intro w hSw; (try dsimp only at hSw); go_simp) <;> (try with_reducible rfl))
        try simp only [Act.put]
        refine wpAnyH_take (i := 9) (oi := _) (v := ?_) rfl (by kernel_rfl) (by kernel_rfl) (by kernel_rfl) (fun _ _ _ h => h) (Or.inl ⟨by rfl, ?_⟩) (by assumption) ?_
        rotate_left
        · ((intro w hSw; (try dsimp only at hSw); go_simp) <;> (try with_reducible rfl))
        try simp only [Act.put]
        refine wpAnyH_take (i := 10) (oi := _) (v := ?_) rfl (by kernel_rfl) (by kernel_rfl) (by kernel_rfl) (fun _ _ _ h => h) (Or.inl ⟨by rfl, ?_⟩) (by assumption) ?_
        rotate_left
        · ((intro w hSw; (try dsimp only at hSw); go_simp) <;> (try with_reducible rfl))
        try simp only [Act.put]
        refine wpAnyH_take (i := 11) (oi := _) (v := ?_) rfl (by kernel_rfl) (by kernel_rfl) (by kernel_rfl) (fun _ _ _ h => h) (Or.inl ⟨by rfl, ?_⟩) (by assumption) ?_
        rotate_left
        · ((intro w hSw; (try dsimp only at hSw); go_simp) <;> (try with_reducible rfl))
        try simp only [Act.put]
        refine wpAnyH_take (i := 12) (oi := _) (v := ?_) rfl (by kernel_rfl) (by kernel_rfl) (by kernel_rfl) (fun _ _ _ h => h) (Or.inl ⟨by rfl, ?_⟩) (by assumption) ?_
        rotate_left
        · ((intro w hSw; (try dsimp only at hSw); go_simp) <;> (try with_reducible rfl))
        try simp only [Act.put]
        refine wpAnyH_take (i := 13) (oi := _) (v := ?_) rfl (by kernel_rfl) (by kernel_rfl) (by kernel_rfl) (fun _ _ _ h => h) (Or.inl ⟨by rfl, ?_⟩) (by assumption) ?_
        rotate_left
        · ((intro w hSw; (try dsimp only at hSw); go_simp) <;> (try with_reducible rfl))
        try simp only [Act.put]
        refine wpAnyH_take (i := 14) (oi := _) (v := ?_) rfl (by kernel_rfl) (by kernel_rfl) (by kernel_rfl) (fun _ _ _ h => h) (Or.inl ⟨by rfl, ?_⟩) (by assumption) ?_
        rotate_left
        · ((intro w hSw; (try dsimp only at hSw); go_simp) <;> (try with_reducible rfl))
        try simp only [Act.put]
        refine wpAnyH_ready (rs := [8]) (by kernel_rfl) (by simp) ?_
        refine AllReadyH.cons (o := _) rfl (fun KK hKK => ?_) AllReadyH.nil
        go_simp
        (go_at_call 20; refine (A1.go _).mono ?_; rintro e w3 ⟨rfl, hbn⟩)
        have hbn' : Below w2.heap.size w2 w3 := by first | exact hbn | exact (Below.refl _ _).drew.trans hbn
        have K3 : Hid (Ast W w3 B g n cap v (rv m) r) := K2.out.below hbn'
        have hH2 : (fun w => w.cell? ⟨g, m * 4, none⟩ = some (.int .u64 (x.1.1 : Nat)) ∧ w.cell? ⟨g, m * 4 + 1, none⟩ = some (.int .u64 (x.1.2 : Nat)) ∧ w.cell? ⟨g, m * 4 + 2, none⟩ = some (.int .u64 (x.2.1 : Nat)) ∧ w.cell? ⟨g, m * 4 + 3, none⟩ = some (.int .u64 (x.2.2 : Nat)) ∧ w.cell? ⟨W.heap.size, 0, none⟩ = some (.int .u64 (r.1.1 : Nat)) ∧ w.cell? ⟨W.heap.size, 1, none⟩ = some (.int .u64 (r.1.2 : Nat)) ∧ w.cell? ⟨W.heap.size, 2, none⟩ = some (.int .u64 (r.2.1 : Nat)) ∧ w.cell? ⟨W.heap.size, 3, none⟩ = some (.int .u64 (r.2.2 : Nat))) w3 := ⟨keepc hbn' hHeld.1, keepc hbn' hHeld.2.1, keepc hbn' hHeld.2.2.1, keepc hbn' hHeld.2.2.2.1, K3.out.r0, K3.out.r1, K3.out.r2, K3.out.r3⟩
        clear hbn hbn' K2 A1 hHeld
        refine hKK.out _ _ hH2 (fun hHeld => ?_)
        clear hKK KK hH2
        try simp only [Act.put]
        refine wpAnyH_ready (rs := [15]) (by kernel_rfl) (by simp) ?_
        refine AllReadyH.cons (o := _) rfl (fun KK hKK => ?_) AllReadyH.nil
        go_simp
        (go_at_call 20; refine (A2.go _).mono ?_; rintro e w4 ⟨rfl, hbn⟩)
        have hbn' : Below w3.heap.size w3 w4 := by first | exact hbn | exact (Below.refl _ _).drew.trans hbn
        have K4 : Hid (Ast W w4 B g n cap v (rv m) r) := K3.out.below hbn'
        have hH2 : (fun w => w.cell? ⟨g, m * 4, none⟩ = some (.int .u64 (x.1.1 : Nat)) ∧ w.cell? ⟨g, m * 4 + 1, none⟩ = some (.int .u64 (x.1.2 : Nat)) ∧ w.cell? ⟨g, m * 4 + 2, none⟩ = some (.int .u64 (x.2.1 : Nat)) ∧ w.cell? ⟨g, m * 4 + 3, none⟩ = some (.int .u64 (x.2.2 : Nat)) ∧ w.cell? ⟨W.heap.size, 0, none⟩ = some (.int .u64 (r.1.1 : Nat)) ∧ w.cell? ⟨W.heap.size, 1, none⟩ = some (.int .u64 (r.1.2 : Nat)) ∧ w.cell? ⟨W.heap.size, 2, none⟩ = some (.int .u64 (r.2.1 : Nat)) ∧ w.cell? ⟨W.heap.size, 3, none⟩ = some (.int .u64 (r.2.2 : Nat))) w4 := ⟨keepc hbn' hHeld.1, keepc hbn' hHeld.2.1, keepc hbn' hHeld.2.2.1, keepc hbn' hHeld.2.2.2.1, K4.out.r0, K4.out.r1, K4.out.r2, K4.out.r3⟩
        clear hbn hbn' K3 A2 hHeld
        refine hKK.out _ _ hH2 (fun hHeld => ?_)
        clear hKK KK hH2
        try simp only [Act.put]
        refine wpAnyH_take (i := 16) (oi := _) (v := ?_) rfl (by kernel_rfl) (by kernel_rfl) (by kernel_rfl) (fun _ _ _ h => h) (Or.inl ⟨by rfl, ?_⟩) (by assumption) ?_
        rotate_left
        · ((intro w hSw; (try dsimp only at hSw); go_simp) <;> (try with_reducible rfl))
        try simp only [Act.put]
        refine wpAnyH_take (i := 17) (oi := _) (v := ?_) rfl (by kernel_rfl) (by kernel_rfl) (by kernel_rfl) (fun _ _ _ h => h) (Or.inl ⟨by rfl, ?_⟩) (by assumption) ?_
        rotate_left
        · ((intro w hSw; (try dsimp only at hSw); go_simp) <;> (try with_reducible rfl))
        try simp only [Act.put]
        refine wpAnyH_done (by kernel_rfl) ?_ _
        refine peel_last rfl (fun KK hKK => ?_)
        obtain ⟨d0, d1, d2, d3, _⟩ := hHeld
        have z0 := (own_cell K4.out.own (m * 4) (by omega)).2
        have z1 := (own_cell K4.out.own (m * 4 + 1) (by omega)).2
        have z2 := (own_cell K4.out.own (m * 4 + 2) (by omega)).2
        have z3 := (own_cell K4.out.own (m * 4 + 3) (by omega)).2
        have K5 : Hid (Ast W _ B g n cap v ((rv m).set m s) r) := K4.out.put hlt
        go_simp
        refine hKK _ _ ?_
        clear hKK KK
        refine peel_last rfl (fun KK hKK => ?_)
        go_simp
        refine hKK _ _ ?_
        clear hKK KK
        refine peel_last rfl (fun KK hKK => ?_)
        go_simp
        refine hKK _ _ ?_
        clear hKK KK
        refine peel_last rfl (fun KK hKK => ?_)
        go_simp
        refine hKK _ _ ?_
        clear hKK KK
        refine NoPanic.normal ?_
        clear d0 d1 d2 d3 z0 z1 z2 z3 K4
        rw [← hE] at K5
        generalize (((w4.setCell ⟨g, m * 4, none⟩ (.int .u64 (s.1.1 : Int))).setCell ⟨g, m * 4 + 1, none⟩ (.int .u64 (s.1.2 : Int))).setCell ⟨g, m * 4 + 2, none⟩ (.int .u64 (s.2.1 : Int))).setCell ⟨g, m * 4 + 3, none⟩ (.int .u64 (s.2.2 : Int)) = w5 at *
        go_wp2
        exact ⟨⟨m + 1, hlt, by simp, K5.out⟩, by simp [intOf]; omega⟩
    · obtain rfl : m = n := by omega
      clear HH HS HA
      have c0 := KA.out.c0
      have q0 := KA.out.r0
      have q1 := KA.out.r1
      have q2 := KA.out.r2
      have q3 := KA.out.r3
      go_upto_region 9 with fail
      refine wp_region_noPanic ?_
      refine wp_region_peel (S := fun w => w.cell? ⟨B, 0, none⟩ = some (.slice (some ⟨g, 0, none⟩) m cap) ∧ w.cell? ⟨W.heap.size, 0, none⟩ = some (.int .u64 (r.1.1 : Nat)) ∧ w.cell? ⟨W.heap.size, 1, none⟩ = some (.int .u64 (r.1.2 : Nat)) ∧ w.cell? ⟨W.heap.size, 2, none⟩ = some (.int .u64 (r.2.1 : Nat)) ∧ w.cell? ⟨W.heap.size, 3, none⟩ = some (.int .u64 (r.2.2 : Nat))) 10 (by kernel_rfl) rfl (by kernel_rfl) ?_ (fun hHeld => ?_)
      · exact ⟨c0, q0, q1, q2, q3⟩
      refine wpAnyH_take (i := 0) (oi := _) (v := ?_) rfl (by kernel_rfl) (by kernel_rfl) (by kernel_rfl) (fun _ _ _ h => h) (Or.inl ⟨by rfl, ?_⟩) (by assumption) ?_
      rotate_left
      · ((intro w hSw; (try dsimp only at hSw); go_simp) <;> (try with_reducible rfl))
      try simp only [Act.put]
      refine wpAnyH_take (i := 1) (oi := _) (v := ?_) rfl (by kernel_rfl) (by kernel_rfl) (by kernel_rfl) (fun _ _ _ h => h) (Or.inl ⟨by rfl, ?_⟩) (by assumption) ?_
      rotate_left
      · ((intro w hSw; (try dsimp only at hSw); go_simp) <;> (try with_reducible rfl))
      try simp only [Act.put]
      refine wpAnyH_take (i := 2) (oi := _) (v := ?_) rfl (by kernel_rfl) (by kernel_rfl) (by kernel_rfl) (fun _ _ _ h => h) (Or.inl ⟨by rfl, ?_⟩) (by assumption) ?_
      rotate_left
      · ((intro w hSw; (try dsimp only at hSw); go_simp) <;> (try with_reducible rfl))
      try simp only [Act.put]
      refine wpAnyH_take (i := 3) (oi := _) (v := ?_) rfl (by kernel_rfl) (by kernel_rfl) (by kernel_rfl) (fun _ _ _ h => h) (Or.inl ⟨by rfl, ?_⟩) (by assumption) ?_
      rotate_left
      · ((intro w hSw; (try dsimp only at hSw); go_simp) <;> (try with_reducible rfl))
      try simp only [Act.put]
      refine wpAnyH_take (i := 4) (oi := _) (v := ?_) rfl (by kernel_rfl) (by kernel_rfl) (by kernel_rfl) (fun _ _ _ h => h) (Or.inl ⟨by rfl, ?_⟩) (by assumption) ?_
      rotate_left
      · ((intro w hSw; (try dsimp only at hSw); go_simp) <;> (try with_reducible rfl))
      try simp only [Act.put]
      refine wpAnyH_take (i := 5) (oi := _) (v := ?_) rfl (by kernel_rfl) (by kernel_rfl) (by kernel_rfl) (fun _ _ _ h => h) (Or.inl ⟨by rfl, ?_⟩) (by assumption) ?_
      rotate_left
      · ((intro w hSw; (try dsimp only at hSw); go_simp) <;> (try with_reducible rfl))
      try simp only [Act.put]
      refine wpAnyH_ready (rs := [6]) (by kernel_rfl) (by simp) ?_
      refine AllReadyH.cons (o := _) rfl (fun KK hKK => ?_) AllReadyH.nil
      go_simp
      refine hKK.out _ _ ?_ (fun hHeld => ?_)
      · go_keep
      clear hKK KK
      try simp only [Act.put]
      refine wpAnyH_ready (rs := [7]) (by kernel_rfl) (by simp) ?_
      refine AllReadyH.cons (o := _) rfl (fun KK hKK => ?_) AllReadyH.nil
      simp only [Array.getElem_pop, List.getElem_toArray, List.getElem_cons_succ, List.getElem_cons_zero]
      rw [if_pos (by rfl)]
      have BA : Below wr.heap.size wr (wr.drew.alloc (Obj.cells #[.int .u64 (r.1.1 : Int), .int .u64 (r.1.2 : Int), .int .u64 (r.2.1 : Int), .int .u64 (r.2.2 : Int)] 103)) := (Below.refl _ _).drew.alloc (Nat.le_refl _) _
      have KB := KA.out.below BA
      have hBw : B < wr.heap.size := cell_lt c0
      refine wp_append_lies _ _ _ 86 rfl (B + 1) 103 i0 (.agg #[.int .u64 0, .int .u64 0, .int .u64 0, .int .u64 0]) 4 32 Try.underlying86 HN.out.1 HN.out.2.1 HN.out.2.2.1 HN.out.2.2.2 rfl (by decide) (.slice (some ⟨g, 0, none⟩) m cap) m (flatR (rv m)) rfl KB.own ⟨wr.heap.size, 0, none⟩ 1 1 [.int .u64 (r.1.1 : Int), .int .u64 (r.1.2 : Int), .int .u64 (r.2.1 : Int), .int .u64 (r.2.2 : Int)] rfl rfl ?_ ?_ (by decide) (by simp only [maxLen]; omega) (by omega) ?_ (wr.drew.alloc (Obj.cells #[.int .u64 (r.1.1 : Int), .int .u64 (r.1.2 : Int), .int .u64 (r.2.1 : Int), .int .u64 (r.2.2 : Int)] 103)).heap.size rfl ?_
      · exact fun p u hu => by rcases p with _ | _ | _ | _ | p <;> simp at hu <;> subst hu <;> simp [go_sem]
      · intro u hu; simp at hu; rcases hu with rfl | rfl | rfl | rfl <;> rfl
      · simp; omega
      intro g2 cap' w' own' hgr hl hg
      have gB : B < g := KA.out.gB
      have gW : g < W.heap.size := KA.out.hg
      have hWr : W.heap.size ≤ wr.heap.size := KA.out.d.size
      have hWq : W.heap.size < wr.heap.size := cell_lt q0
      have n1 : some B ≠ (Value.slice (some ⟨g, 0, none⟩) m cap).ownBlock := fun e => by have : B = g := Option.some.inj e; omega
      have n2 : some W.heap.size ≠ (Value.slice (some ⟨g, 0, none⟩) m cap).ownBlock := fun e => by have : W.heap.size = g := Option.some.inj e; omega
      have gc : ∀ o, w'.cell? ⟨B, o, none⟩ = _ := fun o => grown_cell (o := o) hgr (by simp; omega) n1
      have gf : ∀ o, w'.frozen? ⟨B, o, none⟩ = _ := fun o => grown_frozen (o := o) hgr (by simp; omega) n1
      have gr : ∀ o, w'.cell? ⟨W.heap.size, o, none⟩ = _ := fun o => grown_cell (o := o) hgr (by simp; omega) n2
      have e0 : w'.cell? ⟨B, 0, none⟩ = some (.slice (some ⟨g, 0, none⟩) m cap) := (gc 0).trans KB.c0
      have e1 : w'.cell? ⟨B, 1, none⟩ = some v := (gc 1).trans KB.c1
      have y0 : w'.frozen? ⟨B, 0, none⟩ = false := (gf 0).trans KB.f0
      have y1 : w'.frozen? ⟨B, 1, none⟩ = false := (gf 1).trans KB.f1
      refine hKK.out _ _ ?_ (fun hHeld => ?_)
      · exact ⟨e0, (gr 0).trans KB.r0, (gr 1).trans KB.r1, (gr 2).trans KB.r2, (gr 3).trans KB.r3⟩
      clear hKK KK gc gf gr
      try simp only [Act.put]
      refine wpAnyH_take (i := 8) (oi := _) (v := ?_) rfl (by kernel_rfl) (by kernel_rfl) (by kernel_rfl) (fun _ _ _ h => h) (Or.inl ⟨by rfl, ?_⟩) (by assumption) ?_
      rotate_left
      · ((intro w hSw; (try dsimp only at hSw); go_simp) <;> (try with_reducible rfl))
      try simp only [Act.put]
      refine wpAnyH_take (i := 9) (oi := _) (v := ?_) rfl (by kernel_rfl) (by kernel_rfl) (by kernel_rfl) (fun _ _ _ h => h) (Or.inl ⟨by rfl, ?_⟩) (by assumption) ?_
      rotate_left
      · ((intro w hSw; (try dsimp only at hSw); go_simp) <;> (try with_reducible rfl))
      try simp only [Act.put]
      refine wpAnyH_done (by kernel_rfl) ?_ _
      refine peel_last rfl (fun KK hKK => ?_)
      have DB : Below B W w' := KB.d.grown hgr (by simp; omega) (fun k hk => by have : g = k := Option.some.inj hk; omega)
      have hkp : ∀ k, k < W.heap.size → k ≠ B → k ≠ g → w'.heap[k]? = W.heap[k]? := fun k h1 h2 h3 => (hgr.block k (by simp; omega) (fun e => h3 (Option.some.inj e))).trans (KB.keep k h1 h2 h3)
      have hfl : flatR (rv m) ++ [.int .u64 (r.1.1 : Int), .int .u64 (r.1.2 : Int), .int .u64 (r.2.1 : Int), .int .u64 (r.2.2 : Int)] = flatR (rv m ++ [r]) := by simp [flatR]
      rw [hfl] at own'
      have F : Hid ((w'.setCell ⟨B, 0, none⟩ (.slice (some ⟨g2, 0, none⟩) (m + 1) cap')).cell? ⟨B, 0, none⟩ = some (.slice (some ⟨g2, 0, none⟩) (m + 1) cap') ∧ (w'.setCell ⟨B, 0, none⟩ (.slice (some ⟨g2, 0, none⟩) (m + 1) cap')).frozen? ⟨B, 0, none⟩ = false ∧ (w'.setCell ⟨B, 0, none⟩ (.slice (some ⟨g2, 0, none⟩) (m + 1) cap')).cell? ⟨B, 1, none⟩ = some v ∧ (w'.setCell ⟨B, 0, none⟩ (.slice (some ⟨g2, 0, none⟩) (m + 1) cap')).frozen? ⟨B, 1, none⟩ = false ∧ (w'.setCell ⟨B, 0, none⟩ (.slice (some ⟨g2, 0, none⟩) (m + 1) cap')).ownsRow (B + 1) 103 4 (.slice (some ⟨g2, 0, none⟩) (m + 1) cap') (m + 1) (flatR (rv m ++ [r])) ∧ (∃ g', (Value.slice (some ⟨g2, 0, none⟩) (m + 1) cap').ownBlock = some g' ∧ (g' = g ∨ W.heap.size ≤ g')) ∧ Below B W (w'.setCell ⟨B, 0, none⟩ (.slice (some ⟨g2, 0, none⟩) (m + 1) cap')) ∧ ∀ k, k < W.heap.size → k ≠ B → k ≠ g → (w'.setCell ⟨B, 0, none⟩ (.slice (some ⟨g2, 0, none⟩) (m + 1) cap')).heap[k]? = W.heap[k]?) :=
        ⟨by simp [go_sem, e0], by simp [go_sem, y0], by simp [go_sem, e1], by simp [go_sem, y1], ownsRow_setCell_below own' (by show B < B + 1; omega) _, ⟨g2, rfl, by
          rcases hl with h | h
          · exact .inl (Option.some.inj h).symm
          · refine .inr ?_
            rw [h]; simp; omega⟩, DB.setCell (Nat.le_refl _) _, fun k h1 h2 h3 => (Below.heap_setCell _ _ _ _ h2).trans (hkp k h1 h2 h3)⟩
      clear hHeld e1 y1 own' hgr hl hg DB hkp KB BA KA q0 q1 q2 q3 n1 n2 c0
      go_simp
      refine hKK _ _ ?_
      refine NoPanic.normal ?_
      clear hKK KK e0 y0
      generalize w'.setCell ⟨B, 0, none⟩ (.slice (some ⟨g2, 0, none⟩) (m + 1) cap') = w9 at *
      go_wp2
      go_end0
      exact ⟨_, rfl, F.out⟩
end Go.Proofs.Ytnecjkdlmecgdaa
