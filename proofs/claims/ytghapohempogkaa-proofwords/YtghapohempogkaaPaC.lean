/- Contracts of proof.ReadParams and of steeplelaw29's awake over the seat's translation. -/
import Derived.Test.YtghapohempogkaaPaB
namespace Go.Proofs.Ytghapohempogkaa
open Go.RowKit
namespace Pa

theorem number_any (b : Nat) (s : ByteArray) (e : Int) (w : World) (h : Rd b s e w) : Calls Try.prog 23 #[.pointer (some ⟨b, 0, none⟩)] w fun r w' => r = .returned (.int .i64 (rdNum s e 2147483647).2.2) ∧ Step b (rdNum s e 2147483647).1 (rdNum s e 2147483647).2.1 w w' := by
  have HN := hidA (rd_num b s e 2147483647 w h)
  clear h
  generalize rdNum s e 2147483647 = x at *
  go_enter Try.func23, Try.ntmps23
  go_wp2_with (go_at_call 29; refine HN.out.mono ?_; rintro e w1 ⟨rfl, h1⟩)
  go_ret
  exact ⟨rfl, h1⟩
theorem read_at (s : ByteArray) (w : World) : Calls Try.prog 15 #[.string s] w fun e w' => ∃ b : Nat, e = .returned (.pointer (some ⟨b, 0, none⟩)) ∧ Rd b s 0 w' ∧ w.heap.size ≤ b ∧ Below w.heap.size w w' := by
  refine (read_any s w).mono ?_
  rintro e w' ⟨rfl, rfl⟩
  exact ⟨_, rfl, rd_new s w, Nat.le_refl _, (Below.refl _ _).alloc (Nat.le_refl _) _⟩
theorem new_at (w : World) (o : Obj) : (w.alloc o).heap[w.heap.size]? = some o := by
  show (w.heap.push _)[w.heap.size]? = _
  simp
/-- The result's box, and the reader. -/
structure Rp (W w : World) (b : Nat) (s : ByteArray) (e : Int) : Prop where
  z : w.heap[W.heap.size]? = some (.cells #[.int .i64 0, .int .i64 0, .int .i64 0, .int .i64 0] 34)
  r : Rd b s e w
  hb : W.heap.size < b
  d : Below W.heap.size W w
theorem Rp.step {W w w' : World} {b : Nat} {s t : ByteArray} {e f : Int} (h : Rp W w b s e) (k : Step b t f w w') : Rp W w' b t f :=
  ⟨(k.rest _ (by have := h.r.lt; have := h.hb; omega) (by have := h.hb; omega)).trans h.z, k.here, h.hb, ⟨k.os.trans h.d.os, k.tape.trans h.d.tape, k.output.trans h.d.output, Nat.le_trans h.d.size k.size, fun j hj => (k.rest j (Nat.lt_of_lt_of_le hj h.d.size) (by have := h.hb; omega)).trans (h.d.block j hj)⟩⟩
theorem Rp.below {W w w' : World} {b : Nat} {s : ByteArray} {e : Int} (h : Rp W w b s e) (k : Below w.heap.size w w') : Rp W w' b s e :=
  ⟨(k.block _ (by have := h.r.lt; have := h.hb; omega)).trans h.z, h.r.below k, h.hb, h.d.trans (k.mono h.d.size)⟩
theorem Rp.zs {W w : World} {b : Nat} {s : ByteArray} {e : Int} (h : Rp W w b s e) : w.cell? ⟨W.heap.size, 0, none⟩ = some (.int .i64 0) ∧ w.cell? ⟨W.heap.size, 1, none⟩ = some (.int .i64 0) ∧ w.cell? ⟨W.heap.size, 2, none⟩ = some (.int .i64 0) ∧ w.cell? ⟨W.heap.size, 3, none⟩ = some (.int .i64 0) ∧ w.frozen? ⟨W.heap.size, 0, none⟩ = false ∧ w.frozen? ⟨W.heap.size, 1, none⟩ = false ∧ w.frozen? ⟨W.heap.size, 2, none⟩ = false ∧ w.frozen? ⟨W.heap.size, 3, none⟩ = false := by
  have := h.z
  refine ⟨?_, ?_, ?_, ?_, ?_, ?_, ?_, ?_⟩ <;> simp [World.cell?, World.frozen?, this]
set_option maxHeartbeats 4000000 in
set_option maxRecDepth 100000 in
theorem readp_core (s s1 s2 s3 s4 : ByteArray) (e1 e2 e3 e4 n1 n2 n3 n4 ee : Int) (f : Bool) (hs : s.size ≤ 60) (W : World)
    (H1 : Hid (∀ b w, Rd b s 0 w → Calls Try.prog 23 #[.pointer (some ⟨b, 0, none⟩)] w fun r w' => r = .returned (.int .i64 n1) ∧ Step b s1 e1 w w'))
    (H2 : Hid (∀ b w, Rd b s1 e1 w → Calls Try.prog 23 #[.pointer (some ⟨b, 0, none⟩)] w fun r w' => r = .returned (.int .i64 n2) ∧ Step b s2 e2 w w'))
    (H3 : Hid (∀ b w, Rd b s2 e2 w → Calls Try.prog 23 #[.pointer (some ⟨b, 0, none⟩)] w fun r w' => r = .returned (.int .i64 n3) ∧ Step b s3 e3 w w'))
    (H4 : Hid (∀ b w, Rd b s3 e3 w → Calls Try.prog 23 #[.pointer (some ⟨b, 0, none⟩)] w fun r w' => r = .returned (.int .i64 n4) ∧ Step b s4 e4 w w'))
    (HE : Hid (∀ b w, Rd b s4 e4 w → Calls Try.prog 18 #[.pointer (some ⟨b, 0, none⟩)] w fun r w' => r = .returned (.int .i64 ee) ∧ w' = w))
    (HF : Hid (Ret 21 #[.agg #[.int .i64 n1, .int .i64 n2, .int .i64 n3, .int .i64 n4]] (.bool f))) :
    Calls Try.prog 10 #[.string s] W fun r w' => r = .returned (if ee = 0 ∧ f = true then .tuple #[.agg #[.int .i64 n1, .int .i64 n2, .int .i64 n3, .int .i64 n4], .int .i64 0] else .tuple #[.agg #[.int .i64 0, .int .i64 0, .int .i64 0, .int .i64 0], .int .i64 3]) ∧ Below W.heap.size W w' := by
  have q1 : ¬ (1048576 : Int) < (s.size : Int) := by omega
  by_cases h0 : ee = 0
  · subst h0
    cases f with
    | true =>
      rw [if_pos ⟨rfl, rfl⟩]
      go_enter Try.func10, Try.ntmps10
      go_wp2_with (first | (go_at_call 23; refine (H4.out _ _ K3.out.r).mono ?_; rintro r4 v4 ⟨rfl, st4⟩; have K4 := hidA (K3.out.step st4); clear st4 K3) | (go_at_call 23; refine (H3.out _ _ K2.out.r).mono ?_; rintro r3 v3 ⟨rfl, st3⟩; have K3 := hidA (K2.out.step st3); clear st3 K2) | (go_at_call 23; refine (H2.out _ _ K1.out.r).mono ?_; rintro r2 v2 ⟨rfl, st2⟩; have K2 := hidA (K1.out.step st2); clear st2 K1) | (go_at_call 23; refine (H1.out _ _ K0.out.r).mono ?_; rintro r1 v1 ⟨rfl, st1⟩; have K1 := hidA (K0.out.step st1); clear st1 K0) | (go_at_call 15; refine (read_at s _).mono ?_; rintro r0 v0 ⟨b, rfl, hr, hlt, hb0⟩; have K0 : Hid (Rp W v0 b s 0) := ⟨(hb0.block _ (by simp)).trans (new_at W _), hr, by simp at hlt; omega, ((Below.refl W.heap.size W).alloc (Nat.le_refl _) _).trans (hb0.mono (by simp))⟩; clear hr hlt hb0) | (go_at_call 18; refine (HE.out _ _ (K4.out.r.below ((Below.refl _ _).alloc (Nat.le_refl _) _))).mono ?_; rintro r5 v5 ⟨rfl, rfl⟩; have K5 := hidA (K4.out.below ((Below.refl _ _).alloc (Nat.le_refl _) (Obj.cells #[.int .i64 n1, .int .i64 n2, .int .i64 n3, .int .i64 n4] 34))); have S6 : Hid (¬ v4.heap.size = W.heap.size) := (by have h1 := K4.out.hb; have h2 := K4.out.r.lt; show ¬ _ = _; omega); clear K4; obtain ⟨z0, z1, z2, z3, y0, y1, y2, y3⟩ := K5.out.zs) | (go_at_call 21; refine (HF.out.go _).mono ?_; rintro r6 v6 ⟨rfl, hb6⟩; have g0 : v6.cell? ⟨v4.heap.size, 0, none⟩ = some (.int .i64 n1) := keepc hb6 (by simp [go_sem]); have g1 : v6.cell? ⟨v4.heap.size, 1, none⟩ = some (.int .i64 n2) := keepc hb6 (by simp [go_sem]); have g2 : v6.cell? ⟨v4.heap.size, 2, none⟩ = some (.int .i64 n3) := keepc hb6 (by simp [go_sem]); have g3 : v6.cell? ⟨v4.heap.size, 3, none⟩ = some (.int .i64 n4) := keepc hb6 (by simp [go_sem]); have K6 := hidA (K5.out.below hb6); have hne : ¬ v4.heap.size = W.heap.size := S6.out; clear hb6 z0 z1 z2 z3 y0 y1 y2 y3; obtain ⟨z0, z1, z2, z3, y0, y1, y2, y3⟩ := K6.out.zs))
      refine bodyPost_ret (v := .tuple #[.agg #[.int .i64 n1, .int .i64 n2, .int .i64 n3, .int .i64 n4], .int .i64 0]) (by simp [results, Try.results10, go_sem, *]) rfl ⟨rfl, ?_⟩
      exact (((K6.out.d.setCell (Nat.le_refl _) _).setCell (Nat.le_refl _) _).setCell (Nat.le_refl _) _).setCell (Nat.le_refl _) _
    | false =>
      rw [if_neg (by simp)]
      go_enter Try.func10, Try.ntmps10
      go_wp2_with (first | (go_at_call 23; refine (H4.out _ _ K3.out.r).mono ?_; rintro r4 v4 ⟨rfl, st4⟩; have K4 := hidA (K3.out.step st4); clear st4 K3) | (go_at_call 23; refine (H3.out _ _ K2.out.r).mono ?_; rintro r3 v3 ⟨rfl, st3⟩; have K3 := hidA (K2.out.step st3); clear st3 K2) | (go_at_call 23; refine (H2.out _ _ K1.out.r).mono ?_; rintro r2 v2 ⟨rfl, st2⟩; have K2 := hidA (K1.out.step st2); clear st2 K1) | (go_at_call 23; refine (H1.out _ _ K0.out.r).mono ?_; rintro r1 v1 ⟨rfl, st1⟩; have K1 := hidA (K0.out.step st1); clear st1 K0) | (go_at_call 15; refine (read_at s _).mono ?_; rintro r0 v0 ⟨b, rfl, hr, hlt, hb0⟩; have K0 : Hid (Rp W v0 b s 0) := ⟨(hb0.block _ (by simp)).trans (new_at W _), hr, by simp at hlt; omega, ((Below.refl W.heap.size W).alloc (Nat.le_refl _) _).trans (hb0.mono (by simp))⟩; clear hr hlt hb0) | (go_at_call 18; refine (HE.out _ _ (K4.out.r.below ((Below.refl _ _).alloc (Nat.le_refl _) _))).mono ?_; rintro r5 v5 ⟨rfl, rfl⟩; have K5 := hidA (K4.out.below ((Below.refl _ _).alloc (Nat.le_refl _) (Obj.cells #[.int .i64 n1, .int .i64 n2, .int .i64 n3, .int .i64 n4] 34))); have S6 : Hid (¬ v4.heap.size = W.heap.size) := (by have h1 := K4.out.hb; have h2 := K4.out.r.lt; show ¬ _ = _; omega); clear K4; obtain ⟨z0, z1, z2, z3, y0, y1, y2, y3⟩ := K5.out.zs) | (go_at_call 21; refine (HF.out.go _).mono ?_; rintro r6 v6 ⟨rfl, hb6⟩; have g0 : v6.cell? ⟨v4.heap.size, 0, none⟩ = some (.int .i64 n1) := keepc hb6 (by simp [go_sem]); have g1 : v6.cell? ⟨v4.heap.size, 1, none⟩ = some (.int .i64 n2) := keepc hb6 (by simp [go_sem]); have g2 : v6.cell? ⟨v4.heap.size, 2, none⟩ = some (.int .i64 n3) := keepc hb6 (by simp [go_sem]); have g3 : v6.cell? ⟨v4.heap.size, 3, none⟩ = some (.int .i64 n4) := keepc hb6 (by simp [go_sem]); have K6 := hidA (K5.out.below hb6); have hne : ¬ v4.heap.size = W.heap.size := S6.out; clear hb6 z0 z1 z2 z3 y0 y1 y2 y3; obtain ⟨z0, z1, z2, z3, y0, y1, y2, y3⟩ := K6.out.zs))
      refine bodyPost_ret (v := .tuple #[.agg #[.int .i64 0, .int .i64 0, .int .i64 0, .int .i64 0], .int .i64 3]) (by simp [results, Try.results10, go_sem, *]) rfl ⟨rfl, ?_⟩
      exact (((K6.out.d.setCell (Nat.le_refl _) _).setCell (Nat.le_refl _) _).setCell (Nat.le_refl _) _).setCell (Nat.le_refl _) _
  · rw [if_neg (fun h => h0 h.1)]
    clear HF
    go_enter Try.func10, Try.ntmps10
    go_wp2_with (first | (go_at_call 23; refine (H4.out _ _ K3.out.r).mono ?_; rintro r4 v4 ⟨rfl, st4⟩; have K4 := hidA (K3.out.step st4); clear st4 K3) | (go_at_call 23; refine (H3.out _ _ K2.out.r).mono ?_; rintro r3 v3 ⟨rfl, st3⟩; have K3 := hidA (K2.out.step st3); clear st3 K2) | (go_at_call 23; refine (H2.out _ _ K1.out.r).mono ?_; rintro r2 v2 ⟨rfl, st2⟩; have K2 := hidA (K1.out.step st2); clear st2 K1) | (go_at_call 23; refine (H1.out _ _ K0.out.r).mono ?_; rintro r1 v1 ⟨rfl, st1⟩; have K1 := hidA (K0.out.step st1); clear st1 K0) | (go_at_call 15; refine (read_at s _).mono ?_; rintro r0 v0 ⟨b, rfl, hr, hlt, hb0⟩; have K0 : Hid (Rp W v0 b s 0) := ⟨(hb0.block _ (by simp)).trans (new_at W _), hr, by simp at hlt; omega, ((Below.refl W.heap.size W).alloc (Nat.le_refl _) _).trans (hb0.mono (by simp))⟩; clear hr hlt hb0) | (go_at_call 18; refine (HE.out _ _ (K4.out.r.below ((Below.refl _ _).alloc (Nat.le_refl _) _))).mono ?_; rintro r5 v5 ⟨rfl, rfl⟩; have K5 := hidA (K4.out.below ((Below.refl _ _).alloc (Nat.le_refl _) (Obj.cells #[.int .i64 n1, .int .i64 n2, .int .i64 n3, .int .i64 n4] 34))); have S6 : Hid (¬ v4.heap.size = W.heap.size) := (by have h1 := K4.out.hb; have h2 := K4.out.r.lt; show ¬ _ = _; omega); clear K4; obtain ⟨z0, z1, z2, z3, y0, y1, y2, y3⟩ := K5.out.zs))
    refine bodyPost_ret (v := .tuple #[.agg #[.int .i64 0, .int .i64 0, .int .i64 0, .int .i64 0], .int .i64 3]) (by simp [results, Try.results10, go_sem, *]) rfl ⟨rfl, ?_⟩
    exact (((K5.out.d.setCell (Nat.le_refl _) _).setCell (Nat.le_refl _) _).setCell (Nat.le_refl _) _).setCell (Nat.le_refl _) _
theorem readp_any (s : ByteArray) (hs : s.size ≤ 60) (W : World) :
    Calls Try.prog 10 #[.string s] W fun r w' => r = .returned (if okR s = true then .tuple #[.agg #[.int .i64 (rd1 s).2.2, .int .i64 (rd2 s).2.2, .int .i64 (rd3 s).2.2, .int .i64 (rd4 s).2.2], .int .i64 0] else .tuple #[.agg #[.int .i64 0, .int .i64 0, .int .i64 0, .int .i64 0], .int .i64 3]) ∧ Below W.heap.size W w' := by
  have := readp_core s (rd1 s).1 (rd2 s).1 (rd3 s).1 (rd4 s).1 (rd1 s).2.1 (rd2 s).2.1 (rd3 s).2.1 (rd4 s).2.1 (rd1 s).2.2 (rd2 s).2.2 (rd3 s).2.2 (rd4 s).2.2 (endI (rd4 s).1 (rd4 s).2.1) (fitsB (rd1 s).2.2 (rd2 s).2.2 (rd3 s).2.2 (rd4 s).2.2) hs W
    (hidA fun b w h => number_any b _ _ w h) (hidA fun b w h => number_any b _ _ w h) (hidA fun b w h => number_any b _ _ w h) (hidA fun b w h => number_any b _ _ w h)
    (hidA fun b w h => rd_End b _ _ w h) (hidA (fits_any _ _ _ _))
  have e : (okR s = true) = (endI (rd4 s).1 (rd4 s).2.1 = 0 ∧ fitsB (rd1 s).2.2 (rd2 s).2.2 (rd3 s).2.2 (rd4 s).2.2 = true) := by
    unfold okR
    rw [Bool.and_eq_true, decide_eq_true_eq]
  simp only [e]
  exact this
end Pa
end Go.Proofs.Ytghapohempogkaa
