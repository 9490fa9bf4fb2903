/- PackvRing over the seat's translation: all cases. -/
import Derived.Test.YtcejppibcemdeaaPvW
import Derived.Test.YtcejppibcemdeaaPvU
namespace Go.Proofs.Ytcejppibcemdeaa
open Go.RowKit
open Cb Rg
open Tw (pm)
namespace Pv

/-- What Times answers for any two lists. -/
theorem times_gen (k : Nat) (hk : k < 8) (N : Nat) (hN : N = 2 ^ k) (a1 a2 : Option Addr) (c1 c2 : Nat) (s t : List (Nat × Nat)) (ls : ltE s) (lt : ltE t) (h1 : s.length ≤ 100000) (h2 : t.length ≤ 100000) (k1 : s.length ≤ c1) (k2 : t.length ≤ c2) (W : World) (rs : ERow W a1 s) (rt : ERow W a2 t) :
    Calls Try.prog 17 #[.int .i64 (k : Int), .slice a1 s.length c1, .slice a2 t.length c2] W fun e w' => ∃ v, e = .returned (.tuple #[v, .int .i64 (hdv k N [s, t] [])]) ∧ Below W.heap.size W w' := by
  by_cases hE : hdv k N [s, t] [] = 0
  · obtain ⟨z1, z2, z3, z4⟩ := hdv_zero hE
    have n0 : 0 < N := by rw [hN]; exact Nat.two_pow_pos k
    obtain ⟨b1, o1, e1, _⟩ := rs.cells 0 (by omega)
    obtain ⟨b2, o2, e2, _⟩ := rt.cells 0 (by omega)
    subst e1
    subst e2
    have := times_ok k hk N hN b1 o1 c1 b2 o2 c2 s t z1 z2 ls lt z3 z4 (by omega) (by omega) W rs rt
    rw [hE, z1, z2]
    exact this.mono fun e w' ⟨b, f, c, h, _, _, hb⟩ => ⟨_, h, hb⟩
  · exact (times_no (k : Int) _ a1 a2 s.length c1 t.length c2 hE W (hind_two k hk N hN a1 a2 c1 c2 s t ls lt h1 h2 W rs rt)).mono fun e w' h => ⟨_, h.1, h.2⟩
theorem pg_any (l : Int) (a1 a2 a3 : Option Addr) (c1 c2 c3 : Nat) (A B C : List (Nat × Nat)) (la : ltE A) (lb : ltE B) (lc : ltE C) (k1 : A.length ≤ c1) (k2 : B.length ≤ c2) (k3 : C.length ≤ c3) (W : World) (ra : ERow W a1 A) (rb : ERow W a2 B) (rc : ERow W a3 C) :
    Calls Try.prog 6 #[.int .i64 l, .agg #[.slice a1 A.length c1, .slice a2 B.length c2, .slice a3 C.length c3]] W fun e w' => e = .returned (.bool true) ∧ Below W.heap.size W w' := by
  by_cases hl3 : 3 < l
  · exact pg_far l hl3 a1 a2 a3 _ c1 _ c2 _ c3 W
  have HF : ∀ w, Calls Try.prog 15 #[.int .i64 l, .slice (some ⟨w.heap.size, 0, none⟩) 3 3] (w.alloc (Obj.cells #[.slice a1 A.length c1, .slice a2 B.length c2, .slice a3 C.length c3] 25)) fun e w' => e = .returned (.bool (fw19 l [(a1, A.length, c1), (a2, B.length, c2), (a3, C.length, c3)])) ∧ Below w.heap.size w w' := fun w => by
    have := few19 l (some ⟨w.heap.size, 0, none⟩) 3 3 [(a1, A.length, c1), (a2, B.length, c2), (a3, C.length, c3)] rfl (by decide) _ (grid_new w 25 [(a1, A.length, c1), (a2, B.length, c2), (a3, C.length, c3)] _ rfl)
    exact this.mono fun e w' h => ⟨h.1, ((Below.refl w.heap.size w).alloc (Nat.le_refl _) _).trans (h.2.mono (by simp))⟩
  cases hfw : fw19 l [(a1, A.length, c1), (a2, B.length, c2), (a3, C.length, c3)] with
  | false =>
    rw [hfw] at HF
    exact pg_few l hl3 a1 a2 a3 _ c1 _ c2 _ c3 W HF
  | true =>
    rw [hfw] at HF
    have h20 : A.length ≤ 20 ∧ B.length ≤ 20 ∧ C.length ≤ 20 := by
      unfold fw19 at hfw
      simp at hfw
      exact hfw.2
    by_cases hl : 0 ≤ l ∧ l ≤ 7
    · obtain ⟨k, rfl⟩ : ∃ k : Nat, l = (k : Int) := ⟨l.toNat, by omega⟩
      have hk : k < 8 := by omega
      obtain ⟨N, hN⟩ : ∃ N, N = 2 ^ k := ⟨_, rfl⟩
      have n0 : 0 < N := by rw [hN]; exact Nat.two_pow_pos k
      have T1 := fun w (hw : Below W.heap.size W w) => times_gen k hk N hN a1 a2 c1 c2 A B la lb (by omega) (by omega) k1 k2 w (ra.below hw) (rb.below hw)
      have T2 := fun w (hw : Below W.heap.size W w) => times_gen k hk N hN a2 a3 c2 c3 B C lb lc (by omega) (by omega) k2 k3 w (rb.below hw) (rc.below hw)
      have T3 := fun w (hw : Below W.heap.size W w) => times_gen k hk N hN a1 a3 c1 c3 A C la lc (by omega) (by omega) k1 k3 w (ra.below hw) (rc.below hw)
      by_cases e1 : hdv k N [A, B] [] = 0
      · by_cases e2 : hdv k N [B, C] [] = 0
        · obtain ⟨z1, z2, z3, z4⟩ := hdv_zero e1
          obtain ⟨_, z5, _, z6⟩ := hdv_zero e2
          obtain ⟨b1, o1, f1, _⟩ := ra.cells 0 (by omega)
          obtain ⟨b2, o2, f2, _⟩ := rb.cells 0 (by omega)
          obtain ⟨b3, o3, f3, _⟩ := rc.cells 0 (by omega)
          subst f1
          subst f2
          subst f3
          rw [z1, z2, z5] at HF ⊢
          exact pg_ok k (by omega) N hN b1 o1 c1 b2 o2 c2 b3 o3 c3 A B C ⟨z1, la, z3⟩ ⟨z2, lb, z4⟩ ⟨z5, lc, z6⟩ (by omega) (by omega) (by omega) W ra rb rc HF
        · rw [e1] at T1
          exact pg_err2 (k : Int) _ _ e2 hl3 a1 a2 a3 _ c1 _ c2 _ c3 W HF T1 T2 T3
      · exact pg_err1 (k : Int) _ _ _ e1 hl3 a1 a2 a3 _ c1 _ c2 _ c3 W HF T1 T2 T3
    · have HH := fun (a b : Option Addr) (n c n2 c2 : Nat) w => phind_lev l hl a b n c n2 c2 w
      have T := fun (a b : Option Addr) (n c n2 c2 : Nat) w (_ : Below W.heap.size W w) => (times_no l 1 a b n c n2 c2 (by decide) w ((HH none _ 0 0 2 2 _).mono fun e w' h => ⟨h.1, ((Below.refl w.heap.size w).alloc (Nat.le_refl _) _).trans (h.2.mono (by simp))⟩)).mono fun e w' h => (⟨_, h.1, h.2⟩ : ∃ v, e = .returned (.tuple #[v, .int .i64 1]) ∧ Below w.heap.size w w')
      exact pg_err1 l 1 1 1 (by decide) hl3 a1 a2 a3 _ c1 _ c2 _ c3 W HF (T a1 a2 _ c1 _ c2) (T a2 a3 _ c2 _ c3) (T a1 a3 _ c1 _ c3)
end Pv
end Go.Proofs.Ytcejppibcemdeaa
