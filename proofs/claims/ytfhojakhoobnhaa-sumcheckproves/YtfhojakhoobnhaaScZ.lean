/- SumcheckProves over the seat's translation, whatever is given. -/
import Derived.Test.YtfhojakhoobnhaaScY
namespace Go.Proofs.Ytfhojakhoobnhaa
open Go.RowKit
open Cb Ln Sc
open Tw (pm)

theorem scp_any (lv : Int) (sa a ra : Option Addr) (scap cap rcap : Nat) (l : List Stp) (ts : List (List (Nat × Nat))) (r : List (Nat × Nat)) (hl : ∀ o ∈ l, o.ok) (ht : ltT ts) (hr : ltE r) (W : World) (hR : ORow W sa l) (hT : TRow W a ts) (hE : ERow W ra r) :
    Calls Try.prog 4 #[.int .i64 lv, .agg #[.slice sa l.length scap, .slice a ts.length cap], .slice ra r.length rcap] W fun e w' => e = .returned (.bool true) ∧ Below W.heap.size W w' := by
  by_cases hfar : few20 l ts = false ∨ 6 < r.length
  · exact scp_far lv sa a ra scap cap rcap l ts r W hT hfar
  have h1 : few20 l ts = true := by
    cases h : few20 l ts
    · exact absurd (Or.inl h) hfar
    · rfl
  have h6 : r.length ≤ 6 := by
    rcases Nat.lt_or_ge 6 r.length with h | h
    · exact absurd (Or.inr h) hfar
    · exact h
  by_cases h0 : sck lv l ts = 0
  · obtain ⟨k, n, rfl, _, hFn⟩ := sck_zero (by have := (few20_true h1).2.1; omega) h0
    by_cases hn : r.length = n
    · rcases hB : (r.all fun e => ofB (k : Int) (e.1 : Int) (e.2 : Int)) with _ | _
      · exact scp_fld k n sa a ra scap cap rcap l ts r hl ht hr W hR hT hE h1 h6 hFn hn hB
      · exact scp_main k n sa a ra scap cap rcap l ts r hl ht hr W hR hT hE h1 h6 hFn hn (fun e he => List.all_eq_true.1 hB e he)
    · exact scp_arg k n sa a ra scap cap rcap l ts r hl ht hr W hR hT hE h1 h6 hFn hn
  · exact scp_chk lv sa a ra scap cap rcap l ts r hl ht hr W hR hT hE h1 h6 h0
end Go.Proofs.Ytfhojakhoobnhaa
