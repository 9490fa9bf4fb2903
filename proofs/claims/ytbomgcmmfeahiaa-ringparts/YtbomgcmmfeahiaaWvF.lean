/- Contracts of slices.Clone, weave.Cut and steeplelaw09.awake over the seat's translation. -/
import Derived.Test.YtbomgcmmfeahiaaWvD
import Derived.Test.YtbomgcmmfeahiaaPWvB
namespace Go.Proofs.Ytbomgcmmfeahiaa
open Go.RowKit

theorem flat_ones (es : List (Nat × Nat)) : ∀ u ∈ flat es, u.oneCell' = true := by
  intro u hu
  unfold flat at hu
  obtain ⟨e, _, he⟩ := List.mem_flatMap.1 hu
  simp at he
  rcases he with rfl | rfl <;> rfl
theorem ERow.flatOn {w : World} {b off : Nat} {es : List (Nat × Nat)} (h : ERow w (some ⟨b, off, none⟩) es) (j : Nat) (u : Value) (hu : (flat es)[j]? = some u) : w.cell? ((⟨b, off, none⟩ : Addr).add j) = some u := by
  have hj : j < es.length * 2 := by
    rw [← flat_len]
    obtain ⟨h1, _⟩ := List.getElem?_eq_some_iff.1 hu
    exact h1
  have ha : (⟨b, off, none⟩ : Addr).add j = ⟨b, off + j, none⟩ := by unfold Addr.add; split <;> simp_all
  rw [ha]
  have hi : j / 2 < es.length := by omega
  obtain ⟨b2, off2, e, _, c1, c0⟩ := h.cells (j / 2) hi
  have hf := flat_at es (j / 2) hi
  simp only [Option.some.injEq, Addr.mk.injEq] at e
  obtain ⟨rfl, rfl, _⟩ := e
  rcases Nat.mod_two_eq_zero_or_one j with h2 | h2
  · have e2 : j / 2 * 2 = j := by omega
    rw [e2] at c1 hf
    rw [hf.1] at hu
    rw [c1]; exact hu
  · have e2 : j / 2 * 2 + 1 = j := by omega
    rw [Nat.add_assoc, e2] at c0
    rw [e2] at hf
    rw [hf.2] at hu
    rw [c0]; exact hu
/-- A row of one's own, as elements. -/
theorem own_elems {w : World} {base : Nat} {T : TypeId} {v : Value} {es : List (Nat × Nat)} (h : w.ownsRow base T 2 v es.length (flat es)) :
    ∃ a b cap, v = .slice a es.length cap ∧ (es.length = 0 ∨ a = some ⟨b, 0, none⟩) ∧ es.length ≤ cap ∧ ERow w a es := by
  obtain ⟨a', cap', e, hE⟩ := own_row h
  rcases h.2 with ⟨h1, h0⟩ | ⟨g, cap, cur, e2, _, _, hn, _⟩
  · refine ⟨a', 0, cap', e, .inl h0, by omega, hE⟩
  · rw [e2] at e
    injection e with e3 e4 e5
    subst e3 e5
    exact ⟨_, g, cap, e2, .inr rfl, hn, hE⟩
theorem own_base {w : World} {base base' : Nat} {T : TypeId} {size n : Nat} {v : Value} {xs : List Value} (h : w.ownsRow base T size v n xs) (hb : base' ≤ base) : w.ownsRow base' T size v n xs := by
  obtain ⟨h1, h2⟩ := h
  refine ⟨h1, ?_⟩
  rcases h2 with h3 | ⟨g, cap, cur, e, hbb, rest⟩
  · exact .inl h3
  · exact .inr ⟨g, cap, cur, e, Nat.le_trans hb hbb, rest⟩
/-- Gather, where nothing hinders it. -/
theorem gather_ok (f t d q : Nat) (hd : f + d = t) (ht : t < 8) (a : Option Addr) (b off cap : Nat) (es gs : List (Nat × Nat)) (ha : es.length = 0 ∨ a = some ⟨b, off, none⟩) (hq : es.length = q * 2 ^ d) (hn : es.length ≤ 100000) (hc : es.length ≤ cap) (hes : ltE es)
    (ho : (es.all fun e => ofB (f : Int) (e.1 : Int) (e.2 : Int)) = true) (hg : gs.length = q) (hgs : ∀ i, i < q → gs.getD i (0, 0) = jnd d t ((es.drop (i * 2 ^ d)).take (2 ^ d))) (W : World) (hr : ERow W a es) :
    Calls Try.prog 51 #[.int .i64 (f : Int), .int .i64 (t : Int), .slice a es.length cap] W fun e w' => ∃ p, e = .returned (.tuple #[.slice (some ⟨p, 0, none⟩) q q, .int .i64 0]) ∧ ERow w' (some ⟨p, 0, none⟩) gs ∧ W.heap.size ≤ p ∧ Below W.heap.size W w' := by
  have h8 : 2 ^ d ≤ 2 ^ 7 := Nat.pow_le_pow_right (by decide) (by omega)
  refine gather_core f t d (2 ^ d) q es.length hd ht rfl a b off cap ha hq hn hc gs hg W ?_ ?_
  · intro w hb
    have := wall_any (f : Int) a cap es hes w (hr.below hb) hn
    rw [ho] at this
    exact this
  · intro i hi w hb
    have hlt : (i + 1) * 2 ^ d ≤ es.length := by rw [hq]; exact Nat.mul_le_mul_right _ hi
    rw [Nat.add_mul, Nat.one_mul] at hlt
    have hl : ((es.drop (i * 2 ^ d)).take (2 ^ d)).length = 2 ^ d := by rw [List.length_take, List.length_drop]; omega
    obtain rfl : a = some ⟨b, off, none⟩ := by
      rcases ha with h | h
      · have := Nat.two_pow_pos d; omega
      · exact h
    have hE : ERow w (some ⟨b, off + i * 2 ^ d * 2, none⟩) ((es.drop (i * 2 ^ d)).take (2 ^ d)) := ERow.take (ERow.drop (hr.below hb))
    have hso : t - d = f := by omega
    have := joined_any d t _ (by omega) ht hl (fun e he => by rw [hso]; exact List.all_eq_true.1 ho e (List.mem_of_mem_drop (List.mem_of_mem_take he))) b (off + i * 2 ^ d * 2) (2 ^ d) (by omega) w hE
    rw [hl] at this
    rw [hgs i hi]
    exact this
end Go.Proofs.Ytbomgcmmfeahiaa
