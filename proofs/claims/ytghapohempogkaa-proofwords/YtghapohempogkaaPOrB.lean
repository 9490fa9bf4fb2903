/- Slices of elements: what lies in memory; contracts of tower.Sum and steeplelaw01.Ref over the seat's translation. -/
import Derived.Test.YtghapohempogkaaTwBl
import Derived.Test.YtghapohempogkaaPOrA
namespace Go.Proofs.Ytghapohempogkaa
open Go.RowKit

/-- Elements in memory, as a slice has them. -/
structure ERow (w : World) (a : Option Addr) (es : List (Nat × Nat)) : Prop where
  cells : ∀ i, i < es.length → ∃ b off : Nat, a = some ⟨b, off, none⟩ ∧ b < w.heap.size ∧ w.cell? ⟨b, off + i * 2, none⟩ = some (.int .u64 ((es.getD i (0, 0)).1 : Nat)) ∧ w.cell? ⟨b, off + i * 2 + 1, none⟩ = some (.int .u64 ((es.getD i (0, 0)).2 : Nat))
theorem ERow.below {w w' : World} {a : Option Addr} {es : List (Nat × Nat)} (h : ERow w a es) (hb : Below w.heap.size w w') : ERow w' a es := ⟨fun i hi => by
  obtain ⟨b, off, h1, h2, h3, h4⟩ := h.cells i hi
  exact ⟨b, off, h1, Nat.lt_of_lt_of_le h2 hb.size, by rw [hb.cell (p := ⟨b, off + i * 2, none⟩) h2]; exact h3, by rw [hb.cell (p := ⟨b, off + i * 2 + 1, none⟩) h2]; exact h4⟩⟩
theorem ERow.drew {w : World} {a : Option Addr} {es : List (Nat × Nat)} (h : ERow w a es) : ERow w.drew a es := ⟨h.cells⟩
def ltE (es : List (Nat × Nat)) : Prop := ∀ e ∈ es, e.1 < 2 ^ 64 ∧ e.2 < 2 ^ 64
theorem ltE.at {es : List (Nat × Nat)} (h : ltE es) (i : Nat) : (es.getD i (0, 0)).1 < 2 ^ 64 ∧ (es.getD i (0, 0)).2 < 2 ^ 64 := by
  by_cases hi : i < es.length
  · rw [show es.getD i (0, 0) = es[i] by simp [hi]]; exact h _ (List.getElem_mem hi)
  · rw [show es.getD i (0, 0) = (0, 0) by simp [List.getD, List.getElem?_eq_none (Nat.not_lt.1 hi)]]; exact ⟨Nat.two_pow_pos 64, Nat.two_pow_pos 64⟩
theorem flat_at (es : List (Nat × Nat)) : ∀ i, i < es.length → (flat es)[i * 2]? = some (.int .u64 ((es.getD i (0, 0)).1 : Nat)) ∧ (flat es)[i * 2 + 1]? = some (.int .u64 ((es.getD i (0, 0)).2 : Nat)) := by
  induction es with
  | nil => intro i hi; simp at hi
  | cons e l ih =>
    intro i hi
    have ef : flat (e :: l) = .int .u64 (e.1 : Int) :: .int .u64 (e.2 : Int) :: flat l := by simp [flat]
    rw [ef]
    rcases i with _ | i
    · simp
    · have := ih i (by simpa using hi)
      rw [show (i + 1) * 2 = i * 2 + 1 + 1 by omega, show i * 2 + 1 + 1 + 1 = (i * 2 + 1) + 1 + 1 by omega]
      simpa using this
theorem own_row {w : World} {base : Nat} {T : TypeId} {v : Value} {es : List (Nat × Nat)} (h : w.ownsRow base T 2 v es.length (flat es)) :
    ∃ a cap, v = .slice a es.length cap ∧ ERow w a es := by
  rcases h.2 with ⟨h1, h0⟩ | ⟨g, cap, cur, rfl, _⟩
  · refine ⟨none, 0, ?_, ⟨fun i hi => by omega⟩⟩
    rw [h1, h0]
  · refine ⟨_, cap, rfl, ⟨fun i hi => ?_⟩⟩
    have e1 := h.cellAt (i * 2) (by omega)
    have e0 := h.cellAt (i * 2 + 1) (by omega)
    rw [(flat_at es i hi).1] at e1
    rw [(flat_at es i hi).2] at e0
    refine ⟨g, 0, rfl, ?_, by rw [Nat.zero_add]; exact e1, by rw [Nat.zero_add]; exact e0⟩
    rcases Nat.lt_or_ge g w.heap.size with h2 | h2
    · exact h2
    · simp [World.cell?, Array.getElem?_eq_none h2] at e1

theorem info_relem : ∃ i, Try.prog.info? 50 = some i ∧ i.zero = some (.agg #[.int .u64 0, .int .u64 0]) ∧ i.size = 2 ∧ i.bytes = 16 := by
  have h : (Try.prog.info? 50).map (fun i => (i.zero, i.size, i.bytes)) = some (some (.agg #[.int .u64 0, .int .u64 0]), 2, 16) := by kernel_rfl
  obtain ⟨i, hi, he⟩ := Option.map_eq_some_iff.1 h
  simp only [Prod.mk.injEq] at he
  exact ⟨i, hi, he.1, he.2.1, he.2.2⟩
end Go.Proofs.Ytghapohempogkaa

/- The contract of (*octet.Reader).List over the seat's translation. -/
namespace Go.Proofs.Ytghapohempogkaa
open Go.RowKit

theorem info_text : ∃ i, Try.prog.info? 9 = some i ∧ i.zero = some (.string ⟨#[]⟩) ∧ i.size = 1 ∧ i.bytes = 16 := by
  have h : (Try.prog.info? 9).map (fun i => (i.zero, i.size, i.bytes)) = some (some (.string ⟨#[]⟩), 1, 16) := by kernel_rfl
  obtain ⟨i, hi, he⟩ := Option.map_eq_some_iff.1 h
  simp only [Prod.mk.injEq] at he
  exact ⟨i, hi, he.1, he.2.1, he.2.2⟩
theorem Step.grown {b : Nat} {s : ByteArray} {e : Int} {W w w' : World} {r : Option Nat} (h : Step b s e W w) (k : w.grownBy w' r) (hr : ∀ g, r = some g → W.heap.size ≤ g) (hb : b < W.heap.size) : Step b s e W w' := by
  have hne : ∀ j, j < W.heap.size → r ≠ some j := fun j hj e => by have := hr j e; omega
  refine ⟨k.os.trans h.os, k.tape.trans h.tape, k.output.trans h.output, Nat.le_trans h.size k.size, fun j hj hjb => ?_, ?_⟩
  · rw [k.block j (Nat.lt_of_lt_of_le hj h.size) (fun x => hne j hj x.symm)]
    exact h.rest j hj hjb
  · have hh := h.here
    unfold Rd at hh ⊢
    rw [k.block b (Nat.lt_of_lt_of_le hb h.size) (fun x => hne b hb x.symm)]
    exact hh
theorem own_step {w w' : World} {base : Nat} {T : TypeId} {v : Value} {n b : Nat} {xs : List Value} {s : ByteArray} {e : Int} (h : w.ownsRow base T 1 v n xs) (hb : b < base) (k : Step b s e w w') : w'.ownsRow base T 1 v n xs := by
  obtain ⟨h1, h2⟩ := h
  refine ⟨h1, ?_⟩
  rcases h2 with h3 | ⟨g, cap, cur, rfl, hg, hh, hrest⟩
  · exact .inl h3
  · have hl : g < w.heap.size := by
      rcases Nat.lt_or_ge g w.heap.size with h' | h'
      · exact h'
      · rw [Array.getElem?_eq_none h'] at hh; cases hh
    exact .inr ⟨g, cap, cur, rfl, hg, by rw [k.rest g hl (by omega)]; exact hh, hrest⟩
/-- Texts, one behind the other, until one fails. -/
def rdTexts (long : Int) : Nat → ByteArray → List ByteArray → ByteArray × Int × Option (List ByteArray)
  | 0, s, acc => (s, 0, some acc)
  | n + 1, s, acc => if (rdText s 0 long).2.1 = 0 then rdTexts long n (rdText s 0 long).1 (acc ++ [(rdText s 0 long).2.2]) else ((rdText s 0 long).1, (rdText s 0 long).2.1, none)
/-- What 'List' makes of a reader: what is left, the error, the texts. -/
def rdList (s : ByteArray) (e m long : Int) : ByteArray × Int × Option (List ByteArray) :=
  if (rdNum s e m).2.1 = 0 then rdTexts long (rdNum s e m).2.2.toNat (rdNum s e m).1 [] else ((rdNum s e m).1, (rdNum s e m).2.1, some [])
/-- A slice of texts, or none. -/
def TxS (w : World) (v : Value) : Option (List ByteArray) → Prop
  | none => v = .slice none 0 0
  | some ss => ∃ a cap, v = .slice a ss.length cap ∧ StrRow w a ss
theorem own_texts {w : World} {base : Nat} {T : TypeId} {v : Value} {n : Nat} {ss : List ByteArray} (hn : ss.length = n) (h : w.ownsRow base T 1 v n (ss.map Value.string)) : TxS w v (some ss) := by
  subst hn
  rcases h.2 with ⟨h1, h0⟩ | ⟨g, cap, cur, rfl, _⟩
  · exact ⟨none, 0, by rw [h1, h0], .inl (List.eq_nil_of_length_eq_zero h0)⟩
  · rcases ss with _ | ⟨x, ss⟩
    · exact ⟨_, cap, rfl, .inl rfl⟩
    · have hc : ∀ i, i < (x :: ss).length → w.cell? ⟨g, i, none⟩ = some (.string ((x :: ss).getD i ByteArray.empty)) := fun i hi => by
        have e := h.cellAt i (by omega)
        have e2 : (x :: ss)[i]? = some ((x :: ss)[i]) := List.getElem?_eq_getElem hi
        rw [e, List.getElem?_map, e2, List.getD_eq_getElem?_getD, e2]
        rfl
      exact ⟨_, cap, rfl, .inr ⟨g, 0, rfl, cell_lt (hc 0 (by simp)), fun i hi => by rw [Nat.zero_add]; exact hc i hi⟩⟩
theorem TxS.below {w w' : World} {v : Value} {o : Option (List ByteArray)} (h : TxS w v o) (k : Below w.heap.size w w') : TxS w' v o := by
  rcases o with _ | ss
  · exact h
  · obtain ⟨a, cap, e, hs⟩ := h
    refine ⟨a, cap, e, ?_⟩
    rcases hs with hs | ⟨b, off, e1, hb, hc⟩
    · exact .inl hs
    · exact .inr ⟨b, off, e1, Nat.lt_of_lt_of_le hb k.size, fun i hi => keepc k (hc i hi)⟩
end Go.Proofs.Ytghapohempogkaa
