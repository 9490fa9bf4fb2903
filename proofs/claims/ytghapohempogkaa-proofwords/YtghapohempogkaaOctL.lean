/- Contract of octet.List over the seat's translation: the bytes of a list of texts. -/
import Derived.Test.YtghapohempogkaaPOctOf
import Derived.Test.YtghapohempogkaaPOrA
import Derived.Test.YtghapohempogkaaShelf
import Derived.Handy
namespace Go.Proofs.Ytghapohempogkaa
open Go.RowKit

theorem builder_below {T e : TypeId} {B b : Nat} {bs : List Value} {W w2 : World} (h : Lib.IsBuilderF T e B b bs W) (k : Below W.heap.size W w2) : Lib.IsBuilderF T e B b bs w2 := by
  have old : ∀ (g : Nat) (o : Obj), W.heap[g]? = some o → w2.heap[g]? = some o := by
    intro g o hg
    have hl : g < W.heap.size := by
      rcases Nat.lt_or_ge g W.heap.size with h1 | h1
      · exact h1
      · rw [Array.getElem?_eq_none h1] at hg; cases hg
    rw [k.block g hl]; exact hg
  have one : ∀ p, Lib.BuilderAtF T e B b p bs W → Lib.BuilderAtF T e B b p bs w2 := by
    rintro p ⟨hB, v, hbk, ⟨hl, hown⟩, hne⟩
    refine ⟨hB, v, old _ _ hbk, ⟨hl, ?_⟩, hne⟩
    rcases hown with hn | ⟨g, cap, cur, fz, hv, hb, hg, rest⟩
    · exact .inl hn
    · exact .inr ⟨g, cap, cur, fz, hv, hb, old _ _ hg, rest⟩
  exact h.elim (fun x => .inl (one _ x)) (fun x => .inr (one _ x))

/-- The bytes of texts, one behind the other. -/
def textsL (ss : List ByteArray) : List UInt8 := ss.flatMap fun s => (numS s.size).data.toList ++ s.data.toList
/-- The bytes of a list of texts. -/
def listL (ss : List ByteArray) : List UInt8 := (numS ss.length).data.toList ++ textsL ss

theorem textsL_snoc (ss : List ByteArray) (s : ByteArray) : textsL (ss ++ [s]) = textsL ss ++ (numS s.size).data.toList ++ s.data.toList := by simp [textsL]
theorem textsL_len (ss : List ByteArray) (h : ∀ s ∈ ss, s.size ≤ 10000) : (textsL ss).length ≤ ss.length * 10004 := by
  induction ss with
  | nil => simp [textsL]
  | cons s l ih =>
    have h1 := ih (fun x hx => h x (List.mem_cons_of_mem _ hx))
    have h2 := h s (List.mem_cons_self ..)
    have h3 := numS_size s.size
    have e : (textsL (s :: l)).length = ((numS s.size).data.toList.length + s.data.toList.length) + (textsL l).length := by simp [textsL]; omega
    have e1 : (numS s.size).data.toList.length = (numS s.size).size := by rw [Array.length_toList]; rfl
    have e2 : s.data.toList.length = s.size := by rw [Array.length_toList]; rfl
    rw [e, e1, e2, List.length_cons]; omega

end Go.Proofs.Ytghapohempogkaa
