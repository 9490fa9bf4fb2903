/- The awake of steeplelaw29 and the walk of ProofParams over the seat's translation. -/
import Derived.Test.YtghapohempogkaaPaC
namespace Go.Proofs.Ytghapohempogkaa
open Go.RowKit
namespace Pa

/-- Four ints in a box. -/
structure P4 (w : World) (b : Nat) (l r t q : Int) : Prop where
  c0 : w.cell? ⟨b, 0, none⟩ = some (.int .i64 l)
  c1 : w.cell? ⟨b, 1, none⟩ = some (.int .i64 r)
  c2 : w.cell? ⟨b, 2, none⟩ = some (.int .i64 t)
  c3 : w.cell? ⟨b, 3, none⟩ = some (.int .i64 q)
theorem P4.below {w w' : World} {b : Nat} {l r t q : Int} (h : P4 w b l r t q) (hb : Below w.heap.size w w') : P4 w' b l r t q := ⟨keepc hb h.c0, keepc hb h.c1, keepc hb h.c2, keepc hb h.c3⟩
theorem P4.new (w : World) (l r t q : Int) (T : TypeId) : P4 (w.alloc (Obj.cells #[.int .i64 l, .int .i64 r, .int .i64 t, .int .i64 q] T)) w.heap.size l r t q := ⟨by simp [go_sem], by simp [go_sem], by simp [go_sem], by simp [go_sem]⟩
theorem P4.alloc {w : World} {b : Nat} {l r t q : Int} (h : P4 w b l r t q) (o : Obj) : P4 (w.alloc o) b l r t q := h.below ((Below.refl _ _).alloc (Nat.le_refl _) _)
set_option maxHeartbeats 4000000 in
theorem awake29 : Ret 4 #[] (.bool true) := by
  intro W
  have HP := hidA (params_yes 3 0 1 2 (by decide))
  rw [three] at HP
  have HR := hidA (fun w => show Calls Try.prog 10 #[.string ⟨#[0, 0, 0, 3, 0, 0, 0, 0, 0, 0, 0, 1, 0, 0, 0, 2]⟩] w fun e w' => e = .returned (.tuple #[.agg #[.int .i64 3, .int .i64 0, .int .i64 1, .int .i64 2], .int .i64 0]) ∧ Below w.heap.size w w' from by
    have := readp_any (bytesP 3 0 1 2) (by rw [three]; decide) w
    obtain ⟨h0, h1, h2, h3, h4⟩ := bytes_read (l := 3) (r := 0) (t := 1) (q := 2) (by decide)
    rw [if_pos h0, h1, h2, h3, h4, three] at this
    exact this)
  go_enter Try.func4, Try.ntmps4
  go_upto_region 4 with (first
    | (go_at_call 9; refine (HP.out.go _).mono ?_; rintro e w1 ⟨rfl, hb1⟩; have K1 := hidA (And.intro ((P4.new W 3 0 1 2 34).below hb1) (((Below.refl W.heap.size W).alloc (Nat.le_refl _) _).trans (hb1.mono (by simp)))); clear hb1)
    | (go_at_call 10; refine (HR.out _).mono ?_; rintro e w2 ⟨rfl, hb2⟩; have K2 := hidA (And.intro (K1.out.1.below hb2) (K1.out.2.trans (hb2.mono K1.out.2.size))); clear hb2 K1))
  obtain ⟨f0, f1, f2, f3⟩ := K2.out.1.alloc (Obj.cells #[.int .i64 3, .int .i64 0, .int .i64 1, .int .i64 2] 34)
  obtain ⟨g0, g1, g2, g3⟩ := P4.new w2 3 0 1 2 34
  have D := hidA (K2.out.2.alloc K2.out.2.size (Obj.cells #[.int .i64 3, .int .i64 0, .int .i64 1, .int .i64 2] 34))
  generalize (w2.alloc (Obj.cells #[.int .i64 3, .int .i64 0, .int .i64 1, .int .i64 2] 34)) = w3 at *
  generalize w2.heap.size = b at *
  clear K2
  go_wp2
  go_ret
  exact ⟨rfl, D.out⟩
end Pa
end Go.Proofs.Ytghapohempogkaa
