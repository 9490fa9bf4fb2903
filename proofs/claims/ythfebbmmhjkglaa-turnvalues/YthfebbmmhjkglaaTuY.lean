/- TurnValues: the law, whatever is given. -/
import Derived.Test.YthfebbmmhjkglaaTuX
namespace Go.Proofs.Ythfebbmmhjkglaa
open Go.RowKit
open Cb

theorem hd1_zero {l : Int} {q : Nat} {p : List (Nat × Nat)} (h : hd1 l q p = 0) : ∃ m : Nat, m < 8 ∧ l = (m : Int) ∧ p.length = q ∧ ofT m p := by
  unfold hd1 at h
  by_cases h1 : 0 ≤ l ∧ l ≤ 7
  · rw [if_pos h1] at h
    by_cases h2 : p.length = q
    · rw [if_pos h2] at h
      by_cases h3 : (p.all fun e => ofB l (e.1 : Int) (e.2 : Int)) = true
      · obtain ⟨m, rfl⟩ : ∃ m : Nat, l = (m : Int) := ⟨l.toNat, by omega⟩
        exact ⟨m, by omega, rfl, h2, fun e he => List.all_eq_true.1 h3 e he⟩
      · rw [if_neg h3] at h; exact absurd h (by decide)
    · rw [if_neg h2] at h; exact absurd h (by decide)
  · rw [if_neg h1] at h; exact absurd h (by decide)
theorem tv_any (l k v s : Int) (ba ea : Option Addr) (bc ec : Nat) (bs : List Bool) (ps : List (Nat × Nat)) (hp : ltE ps) (W : World) (hbow : Bow W ba bs) (hrow : ERow W ea ps) :
    Calls Try.prog 5 #[.int .i64 l, .agg #[.int .i64 k, .int .i64 v, .int .i64 s], .agg #[.slice ba bs.length bc, .slice ea ps.length ec]] W fun e w' => e = .returned (.bool true) ∧ Below W.heap.size W w' := by
  cases hf : ftB k v s
  · exact tv_a l k v s ba ea bc ec bs ps hf W
  · obtain ⟨h1, h2, _⟩ := ftB_true hf
    by_cases h6 : v = 6
    · subst h6
      exact tv_b l k s ba ea bc ec bs ps hf W
    · obtain ⟨q, rfl⟩ : ∃ q : Nat, v = (q : Int) := ⟨v.toNat, by omega⟩
      obtain ⟨t, rfl⟩ : ∃ t : Nat, s = (t : Int) := ⟨s.toNat, by omega⟩
      obtain ⟨n, hn, hn2, _, _⟩ := pw_nat q (by omega)
      by_cases hb : bs.length = n
      · by_cases hx : 5 < ps.length
        · exact tv_d l k q t n (by omega) hn2 hf ba ea bc ec bs ps hb hx W
        · by_cases hc : hd1 l q ps = 0
          · obtain ⟨m, hm, rfl, hpl, op⟩ := hd1_zero hc
            exact tv_ok m hm k q t n (by omega) hn hn2 hf ba ea bc ec bs ps hb hx hp W hbow hrow hpl op
          · exact tv_e l k q t n (by omega) hn hn2 hf ba ea bc ec bs ps hb hx hp W hbow hrow _ rfl hc
      · exact tv_c l k q t n (by omega) hn2 hf ba ea bc ec bs ps hb W
end Go.Proofs.Ythfebbmmhjkglaa
