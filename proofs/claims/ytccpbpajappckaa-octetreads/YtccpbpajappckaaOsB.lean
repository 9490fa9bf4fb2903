/- The contract of the document's reader's Text over the seat's translation. -/
import Derived.Test.YtccpbpajappckaaOsA
namespace Go.Proofs.Ytccpbpajappckaa
open Go.RowKit

/-- One text in a slice, or none. -/
def One1 (n : Nat) (w : World) (v : Value) (e : Int) (t : ByteArray) : Prop := (e = 0 ∧ ∃ g, n ≤ g ∧ v = .slice (some ⟨g, 0, none⟩) 1 1 ∧ w.cell? ⟨g, 0, none⟩ = some (.string t)) ∨ (e ≠ 0 ∧ v = .slice none 0 0)
/-- Three cells that can be written. -/
structure R3 (w : World) (b : Nat) (x y z : Value) : Prop where
  c0 : w.cell? ⟨b, 0, none⟩ = some x
  c1 : w.cell? ⟨b, 1, none⟩ = some y
  c2 : w.cell? ⟨b, 2, none⟩ = some z
  f0 : w.frozen? ⟨b, 0, none⟩ = false
  f1 : w.frozen? ⟨b, 1, none⟩ = false
  f2 : w.frozen? ⟨b, 2, none⟩ = false
theorem R3.new (w : World) (x y z : Value) (T : TypeId) : R3 (w.alloc (Obj.cells #[x, y, z] T)) w.heap.size x y z := ⟨by simp [go_sem], by simp [go_sem], by simp [go_sem], by simp [go_sem], by simp [go_sem], by simp [go_sem]⟩
theorem R3.below {w w' : World} {b : Nat} {x y z : Value} (h : R3 w b x y z) (hb : Below w.heap.size w w') : R3 w' b x y z := ⟨keepc hb h.c0, keepc hb h.c1, keepc hb h.c2, keepf hb h.c0 h.f0, keepf hb h.c1 h.f1, keepf hb h.c2 h.f2⟩
theorem R3.set {w : World} {b : Nat} {x y z : Value} (h : R3 w b x y z) (x' y' z' : Value) : R3 (((w.setCell ⟨b, 0, none⟩ x').setCell ⟨b, 1, none⟩ y').setCell ⟨b, 2, none⟩ z') b x' y' z' := by
  obtain ⟨c0, c1, c2, f0, f1, f2⟩ := h
  exact ⟨by simp [go_sem, *], by simp [go_sem, *], by simp [go_sem, *], by simp [go_sem, *], by simp [go_sem, *], by simp [go_sem, *]⟩
theorem below3 {B : Nat} {W w : World} (h : Below B W w) {b : Nat} (hb : B ≤ b) (x y z : Value) : Below B W (((w.setCell ⟨b, 0, none⟩ x).setCell ⟨b, 1, none⟩ y).setCell ⟨b, 2, none⟩ z) := ((h.setCell hb _).setCell hb _).setCell hb _
set_option maxRecDepth 100000 in
set_option maxHeartbeats 4000000 in
theorem rR_text (s : ByteArray) (e m : Int) (W : World) : Calls Try.prog 26 #[.agg #[.string s, .int .i64 e], .int .i64 m] W fun r w' => ∃ v, r = .returned (.agg #[.string (rdText s e m).1, .int .i64 (rdText s e m).2.1, v]) ∧ One1 W.heap.size w' v (rdText s e m).2.1 (rdText s e m).2.2 ∧ Below W.heap.size W w' := by
  have HN := hidR (rR_num s e m)
  have hp := rdNum_pos s e m
  have HT : Hid (rdText s e m = ((rdTake (rdNum s e m).1 (rdNum s e m).2.1 (rdNum s e m).2.2).1, (rdTake (rdNum s e m).1 (rdNum s e m).2.1 (rdNum s e m).2.2).2.1, (rdTake (rdNum s e m).1 (rdNum s e m).2.1 (rdNum s e m).2.2).2.2.1)) := rfl
  generalize rdText s e m = t at *
  generalize rdNum s e m = q at *
  obtain ⟨q1, q2, q3⟩ := q
  obtain ⟨t1, t2, t3⟩ := t
  dsimp only at *
  by_cases h2 : q2 = 0
  · subst h2
    by_cases hs : (q1.size : Int) < q3
    · have HT2 : Hid (t1 = ⟨#[]⟩ ∧ t2 = 11) := by
        have := HT.out
        unfold rdTake at this
        rw [if_pos rfl, if_pos hs] at this
        injection this with e1 e2; injection e2 with e2 e3
        exact ⟨e1, e2⟩
      clear HT hp
      go_enter Try.func26, Try.ntmps26
      go_wp2_with (go_at_call 25; refine (HN.out.go _).mono ?_; rintro e w1 ⟨rfl, hb1⟩; have K1 : Hid (R3 w1 (W.heap.size + 1) (.string ⟨#[]⟩) (.int .i64 0) (.slice none 0 0) ∧ Below W.heap.size W w1) := ⟨R3.below ⟨by simp [go_sem], by simp [go_sem], by simp [go_sem], by simp [go_sem], by simp [go_sem], by simp [go_sem]⟩ hb1, (((Below.refl _ _).alloc (Nat.le_refl _) _).alloc (by simp) _).trans (hb1.mono (by simp; omega))⟩; clear hb1; obtain ⟨a0, a1, a2, f0, f1, f2⟩ := K1.out.1; have hz : W.heap.size + 1 < w1.heap.size := cell_lt a0)
      obtain ⟨rfl, rfl⟩ := HT2.out
      refine bodyPost_ret (v := .agg #[.string ⟨#[]⟩, .int .i64 11, .slice none 0 0]) (by simp [results, Try.results26, go_sem, *]) rfl ⟨.slice none 0 0, rfl, .inr ⟨by decide, rfl⟩, ?_⟩
      exact (below3 K1.out.2 (Nat.le_succ _) _ _ _).alloc (by have := K1.out.2.size; simpa [World.setCell] using this) _
    · obtain ⟨N, rfl⟩ : ∃ N : Nat, q3 = (N : Int) := ⟨q3.toNat, by omega⟩
      have HT2 : Hid (t1 = q1.extract N q1.size ∧ t2 = 0 ∧ t3 = q1.extract 0 N) := by
        have := HT.out
        unfold rdTake at this
        rw [if_pos rfl, if_neg hs] at this
        injection this with e1 e2; injection e2 with e2 e3
        rw [Int.toNat_natCast] at e1 e3
        exact ⟨e1, e2, e3⟩
      have n0 : (0 : Int) ≤ (N : Int) := by omega
      have n1 : (N : Int) ≤ (q1.size : Int) := by omega
      clear HT hp
      go_enter Try.func26, Try.ntmps26
      go_upto_region 6 with (go_at_call 25; refine (HN.out.go _).mono ?_; rintro e w1 ⟨rfl, hb1⟩; have K1 : Hid (R3 w1 (W.heap.size + 1) (.string ⟨#[]⟩) (.int .i64 0) (.slice none 0 0) ∧ Below W.heap.size W w1) := ⟨R3.below ⟨by simp [go_sem], by simp [go_sem], by simp [go_sem], by simp [go_sem], by simp [go_sem], by simp [go_sem]⟩ hb1, (((Below.refl _ _).alloc (Nat.le_refl _) _).alloc (by simp) _).trans (hb1.mono (by simp; omega))⟩; clear hb1; obtain ⟨a0, a1, a2, f0, f1, f2⟩ := K1.out.1; have hz : W.heap.size + 1 < w1.heap.size := cell_lt a0)
      have BN : Below w1.heap.size w1 ((w1.alloc (Obj.cells #[.string q1, .int .i64 0, .int .i64 N] 60)).alloc (Obj.cells #[.string (q1.extract 0 N)] 9)) := ((Below.refl _ _).alloc (Nat.le_refl _) _).alloc (by simp) _
      have A := K1.out.1.below BN
      have K2 := hidR (And.intro A (K1.out.2.trans (BN.mono K1.out.2.size)))
      obtain ⟨d0, d1, d2, h0, h1, h2⟩ := A
      clear a0 a1 a2 f0 f1 f2 BN
      go_region
      all_goals
        go_wp2
        obtain ⟨rfl, rfl, rfl⟩ := HT2.out
        refine bodyPost_ret (v := .agg #[.string (q1.extract N q1.size), .int .i64 0, .slice (some ⟨w1.heap.size + 1, 0, none⟩) 1 1]) (by simp [results, Try.results26, go_sem, *]) rfl ⟨.slice (some ⟨w1.heap.size + 1, 0, none⟩) 1 1, rfl, .inl ⟨rfl, _, by omega, rfl, ?_⟩, ?_⟩
        · have n3 : ¬ w1.heap.size + 1 = W.heap.size + 1 := by omega
          simp [go_sem, *]
        · exact below3 (K2.out.2.drew) (Nat.le_succ _) _ _ _
  · have HT2 : Hid (t1 = q1 ∧ t2 = q2) := by
      have := HT.out
      unfold rdTake at this
      rw [if_neg h2] at this
      injection this with e1 e2; injection e2 with e2 e3
      exact ⟨e1, e2⟩
    have h2' : (q2 == 0) = false := by rw [beq_eq_false_iff_ne]; exact h2
    clear HT hp
    go_enter Try.func26, Try.ntmps26
    go_wp2_with (go_at_call 25; refine (HN.out.go _).mono ?_; rintro e w1 ⟨rfl, hb1⟩; have K1 : Hid (R3 w1 (W.heap.size + 1) (.string ⟨#[]⟩) (.int .i64 0) (.slice none 0 0) ∧ Below W.heap.size W w1) := ⟨R3.below ⟨by simp [go_sem], by simp [go_sem], by simp [go_sem], by simp [go_sem], by simp [go_sem], by simp [go_sem]⟩ hb1, (((Below.refl _ _).alloc (Nat.le_refl _) _).alloc (by simp) _).trans (hb1.mono (by simp; omega))⟩; clear hb1; obtain ⟨a0, a1, a2, f0, f1, f2⟩ := K1.out.1; have hz : W.heap.size + 1 < w1.heap.size := cell_lt a0)
    obtain ⟨rfl, rfl⟩ := HT2.out
    refine bodyPost_ret (v := .agg #[.string t1, .int .i64 t2, .slice none 0 0]) (by simp [results, Try.results26, go_sem, *]) rfl ⟨.slice none 0 0, rfl, .inr ⟨h2, rfl⟩, ?_⟩
    exact (below3 K1.out.2 (Nat.le_succ _) _ _ _).alloc (by have := K1.out.2.size; simpa [World.setCell] using this) _
end Go.Proofs.Ytccpbpajappckaa
