/- Contracts of weave.joined over the seat's translation: halves joined to one element. -/
import Derived.Test.YtflkchhdgiojgaaSlA
import Derived.Test.YtflkchhdgiojgaaTwBl
import Derived.Deep.OwnRows
import Derived.BigQuiet
namespace Go.Proofs.Ytflkchhdgiojgaa
open Go.RowKit

/-- Two halves as one element of the level k. -/
def jn (k : Nat) (x y : Nat × Nat) : Nat × Nat := if k = 7 then (x.2, y.2) else (0, 2 ^ 2 ^ (k - 1) * x.2 + y.2)
def jnd : Nat → Nat → List (Nat × Nat) → Nat × Nat
  | 0, _, es => es.getD 0 (0, 0)
  | d + 1, k, es => jn k (jnd d (k - 1) (es.drop (2 ^ d))) (jnd d (k - 1) (es.take (2 ^ d)))
theorem ERow.drop {w : World} {b off n : Nat} {es : List (Nat × Nat)} (h : ERow w (some ⟨b, off, none⟩) es) : ERow w (some ⟨b, off + n * 2, none⟩) (es.drop n) := ⟨fun i hi => by
  have hi' : n + i < es.length := by simp at hi; omega
  obtain ⟨b', o', e, h1, h2, h3⟩ := h.cells (n + i) hi'
  simp only [Option.some.injEq, Addr.mk.injEq] at e
  obtain ⟨rfl, rfl, _⟩ := e
  have eg : (es.drop n).getD i (0, 0) = es.getD (n + i) (0, 0) := by simp [List.getD]
  refine ⟨_, _, rfl, h1, ?_, ?_⟩
  · rw [eg, ← h2]; congr 2; omega
  · rw [eg, ← h3]; congr 2; omega⟩
theorem ERow.take {w : World} {a : Option Addr} {n : Nat} {es : List (Nat × Nat)} (h : ERow w a es) : ERow w a (es.take n) := ⟨fun i hi => by
  have hi' : i < es.length ∧ i < n := by simp at hi; omega
  obtain ⟨b', o', e, h1, h2, h3⟩ := h.cells i hi'.1
  have eg : (es.take n).getD i (0, 0) = es.getD i (0, 0) := by simp [List.getD, hi'.2]
  exact ⟨_, _, e, h1, by rw [eg]; exact h2, by rw [eg]; exact h3⟩⟩
set_option maxHeartbeats 1000000 in
theorem joined_one (l : Int) (b off cap : Nat) (es : List (Nat × Nat)) (h1 : es.length = 1) (W : World) (hr : ERow W (some ⟨b, off, none⟩) es) :
    Calls Try.prog 36 #[.int .i64 l, .slice (some ⟨b, off, none⟩) 1 cap] W fun e w' => e = .returned (.agg #[.int .u64 ((es.getD 0 (0, 0)).1 : Nat), .int .u64 ((es.getD 0 (0, 0)).2 : Nat)]) ∧ Below W.heap.size W w' := by
  obtain ⟨b', o', e, hb, c1, c0⟩ := hr.cells 0 (by omega)
  simp only [Option.some.injEq, Addr.mk.injEq] at e
  obtain ⟨rfl, rfl, _⟩ := e
  rw [Nat.zero_mul, Nat.add_zero] at c1 c0
  clear hr
  generalize es.getD 0 (0, 0) = x at *
  go_enter Try.func36, Try.ntmps36
  go_wp2
  refine bodyPost_ret (v := .agg #[.int .u64 (x.1 : Nat), .int .u64 (x.2 : Nat)]) (by simp [results, Try.results36, go_sem, *]) rfl ⟨rfl, ?_⟩
  go_grown
set_option maxHeartbeats 1000000 in
theorem joined_step (l l1 : Int) (b off cap n h : Nat) (x y z : Nat × Nat) (hn : n = h + h) (h2 : 0 < h) (hm : n ≤ 1000) (hc : n ≤ cap) (hw : IntKind.i64.wrap (l - 1) = l1) (W : World)
    (HH : Hid (∀ w, Below W.heap.size W w → Calls Try.prog 36 #[.int .i64 l1, .slice (some ⟨b, off + h * 2, none⟩) h (cap - h)] w fun e w' => e = .returned (.agg #[.int .u64 (x.1 : Nat), .int .u64 (x.2 : Nat)]) ∧ Below w.heap.size w w'))
    (HL : Hid (∀ w, Below W.heap.size W w → Calls Try.prog 36 #[.int .i64 l1, .slice (some ⟨b, off, none⟩) h cap] w fun e w' => e = .returned (.agg #[.int .u64 (y.1 : Nat), .int .u64 (y.2 : Nat)]) ∧ Below w.heap.size w w'))
    (HJ : Hid (Ret 48 #[.int .i64 l, .agg #[.int .u64 (x.1 : Nat), .int .u64 (x.2 : Nat)], .agg #[.int .u64 (y.1 : Nat), .int .u64 (y.2 : Nat)]] (.agg #[.int .u64 (z.1 : Nat), .int .u64 (z.2 : Nat)]))) :
    Calls Try.prog 36 #[.int .i64 l, .slice (some ⟨b, off, none⟩) n cap] W fun e w' => e = .returned (.agg #[.int .u64 (z.1 : Nat), .int .u64 (z.2 : Nat)]) ∧ Below W.heap.size W w' := by
  have hne : ¬ (n : Int) = 1 := by omega
  have hne' : ¬ n = 1 := by omega
  have hq : (n : Int).tdiv 2 = (h : Int) := by rw [hn, Int.tdiv_eq_ediv_of_nonneg (by omega)]; omega
  have i1 : (0 : Int) ≤ (h : Int) := by omega
  have i2 : (h : Int) ≤ (n : Int) := by omega
  have i3 : (n : Int) ≤ (cap : Int) := by omega
  have i4 : (h : Int) ≤ (cap : Int) := by omega
  have i5 : n - h = h := by omega
  have i6 : ¬ cap = h := by omega
  have i7 : ¬ cap = 0 := by omega
  have HN : Hid (n = h + h) := hn
  clear hn
  go_enter Try.func36, Try.ntmps36
  go_wp2_with fail
  have B : Bl W (W.alloc (Obj.cells #[.int .u64 0, .int .u64 0] 54)) [] [W.heap.size] := ⟨trivial, ⟨⟨by simp [go_sem], by simp [go_sem], by simp [go_sem], by simp [go_sem]⟩, trivial⟩, by go_grown⟩
  generalize W.alloc (Obj.cells #[.int .u64 0, .int .u64 0] 54) = w3 at *
  have F := B.facts
  simp only [Els, Wrs, and_true] at F
  go_region_held3 (fun _ => True) (trivial) (first | (go_at_call_of 36 (#[.int .i64 l1, .slice (some ⟨b, off + h * 2, none⟩) h (cap - h)] : Array Value); refine (HH.out _ (by first | exact B.b | exact B.drew.b)).mono ?_; rintro e w' ⟨rfl, hb'⟩; have B'' := Bl.below (w' := w') (by first | exact B | exact B.drew) hb'; clear F B hb'; have B := B''; clear B''; (try simp only [World.size_drew] at B); have F := B.facts; simp only [Els, Wrs, and_true] at F) | (go_at_call_of 36 (#[.int .i64 l1, .slice (some ⟨b, off, none⟩) h cap] : Array Value); refine (HL.out _ (by first | exact B.b | exact B.drew.b)).mono ?_; rintro e w' ⟨rfl, hb'⟩; have B'' := Bl.below (w' := w') (by first | exact B | exact B.drew) hb'; clear F B hb'; have B := B''; clear B''; (try simp only [World.size_drew] at B); have F := B.facts; simp only [Els, Wrs, and_true] at F) | (go_at_call 48; refine (HJ.out.go _).mono ?_; rintro e w' ⟨rfl, hb'⟩; have B'' := Bl.below (w' := w') (by first | exact B | exact B.drew) hb'; clear F B hb'; have B := B''; clear B''; (try simp only [World.size_drew] at B); have F := B.facts; simp only [Els, Wrs, and_true] at F))
  all_goals
    go_wp2
    refine bodyPost_ret (v := .agg #[.int .u64 (z.1 : Nat), .int .u64 (z.2 : Nat)]) (by simp [results, Try.results36, go_sem, *]) rfl ⟨rfl, ?_⟩
    exact (B.b.setCell (Nat.le_refl _) _).setCell (Nat.le_refl _) _
end Go.Proofs.Ytflkchhdgiojgaa
