/- TurnSigns: the law, whatever is given. -/
import Derived.Test.YthfebbmmhjkglaaTuV
namespace Go.Proofs.Ythfebbmmhjkglaa
open Go.RowKit
open Cb
open Tw (pm)

theorem hd1_none {l : Int} {q : Nat} {p : List (Nat × Nat)} (h : hd1 l q p = 0) : ∃ m : Nat, m < 8 ∧ l = (m : Int) ∧ p.length = q ∧ ofT m p := by
  unfold hd1 at h
  by_cases h1 : 0 ≤ l ∧ l ≤ 7
  · rw [if_pos h1] at h
    by_cases h2 : p.length = q
    · rw [if_pos h2] at h
      by_cases h3 : (p.all fun e => ofB l (e.1 : Int) (e.2 : Int)) = true
      · obtain ⟨m, rfl⟩ : ∃ m : Nat, l = (m : Int) := ⟨l.toNat, by omega⟩
        exact ⟨m, by omega, rfl, h2, fun e he => List.all_eq_true.1 h3 e he⟩
      · rw [if_neg h3] at h; exact absurd h (by decide)
    · rw [if_neg h2] at h; exact absurd h (by decide)
  · rw [if_neg h1] at h; exact absurd h (by decide)
theorem ts_any (l k v s : Int) (pa ra : Option Addr) (pc rc : Nat) (p r : List (Nat × Nat)) (hp : ltE p) (hr : ltE r) (W : World) (hP : ERow W pa p) (hR : ERow W ra r) :
    Calls Try.prog 4 #[.int .i64 l, .agg #[.int .i64 k, .int .i64 v, .int .i64 s], .agg #[.slice pa p.length pc, .slice ra r.length rc]] W fun e w' => e = .returned (.bool true) ∧ Below W.heap.size W w' := by
  by_cases hfar : (4 < v ∧ v ≤ 6) ∨ 6 < p.length ∨ 6 < r.length
  · exact ts_far l k v s pa ra pc rc p r hfar W
  have h1 : ¬ (4 < v ∧ v ≤ 6) := fun h => hfar (.inl h)
  have h2 : ¬ 6 < p.length := fun h => hfar (.inr (.inl h))
  have h3 : ¬ 6 < r.length := fun h => hfar (.inr (.inr h))
  by_cases h0 : my18 l k v s p = 0
  case neg => exact ts_no l k v s pa ra pc rc p r h1 h2 h3 hp hr W hP hR h0
  cases hf : ftB k v s with
  | false => rw [my18_no hf] at h0; exact absurd h0 (by decide)
  | true =>
    obtain ⟨⟨f1, f2⟩, ⟨f3, f4⟩, _⟩ := ftB_true hf
    obtain ⟨q, rfl⟩ : ∃ q : Nat, v = q := ⟨v.toNat, by omega⟩
    obtain ⟨t, rfl⟩ : ∃ t : Nat, s = t := ⟨s.toNat, by omega⟩
    obtain ⟨n, hn, hn2, _, _⟩ := pw_nat q (by omega)
    have ea := h0
    rw [my18_hd1 hf] at ea
    obtain ⟨m, hm, rfl, hpl, op⟩ := hd1_none ea
    have htn : t < n := by rw [hn] at f4; omega
    have hpn : 2 ^ p.length = n := by
      have h := hn
      unfold pw at h
      rw [hpl]
      simpa using Int.ofNat.inj h
    have eb := my18_hd1 hf (m : Int) r
    refine ts_ok m k (hd1 m q r) q t n (by omega) hn hn2 pa ra pc rc p r h2 h3 hp hr W hP hR h0 eb (if hd1 m q r = 0 then sgn2 k p r t else (0, 0)) (sgn2 k p r t) (fun h => if_neg h) (fun h => if_pos h) ((List.range n).map (sgn k p t)) (by simp) ?_ ?_ ?_ ?_
    · intro y hy w xA xc hx
      have h := rsignat k q t n y (by omega) hn htn hy xA xc p hp (by omega) w hx
      have hg : ((List.range n).map (sgn k p t)).getD y (0, 0) = sgn k p t y := by simp [List.getD, hy]
      have hs := sgn_ws k p t y (by omega) (by omega)
      rw [hpn] at hs
      rw [hg, hs]
      exact h
    · intro w xA xc ya yc hx hy
      have h := rsign k q t n (by omega) hn htn xA ya xc yc p r hp hr (by omega) (by omega) w hx hy
      rw [sgn2_ws k p r t n hpn htn]
      exact h
    · intro w hw
      by_cases hr0 : hd1 m q r = 0
      · obtain ⟨m', _, hm', hrl, or⟩ := hd1_none hr0
        have : m' = m := by omega
        subst this
        rw [if_pos hr0, hr0, hpl, hrl]
        exact tat_ok m' hm k q t n (by omega) hn hf pa ra pc rc p r hp hr hpl hrl op or w (hP.below hw) (hR.below hw)
      · rw [if_neg hr0]
        have e2 := hd2_hd1 m q p r
        rw [if_pos (.inl ea)] at e2
        rw [← e2] at hr0 ⊢
        exact tat_err m k q t _ pa ra pc rc p r w hr0 fun w' b hb' hc hc' => thind2 m k q t hf b pa ra pc rc p r hp hr (by omega) (by omega) w' ((hP.below hw).below hb') ((hR.below hw).below hb') hc hc'
    · intro w hw
      rw [hpl]
      exact trow_ok m hm k q t n (by omega) hn hf pa pc p hp hpl op w (hP.below hw)
end Go.Proofs.Ythfebbmmhjkglaa
