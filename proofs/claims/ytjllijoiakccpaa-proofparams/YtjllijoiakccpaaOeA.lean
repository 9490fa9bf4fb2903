/- Contracts of (*strings.Builder).Write at a builder that has been used, and of octet.Elems, over the seat's translation. -/
import Derived.Test.YtjllijoiakccpaaOctD
import Derived.Test.YtjllijoiakccpaaOctL
import Derived.Test.YtjllijoiakccpaaSlA
import Derived.Lib.FrozenHead2
namespace Go.Proofs.Ytjllijoiakccpaa
open Go.RowKit

theorem hidE {p : Prop} (h : p) : Hid p := h
theorem builder_used (b : Nat) (w : World) (h0 : w.cell? ⟨b, 0, none⟩ = some (.pointer (some ⟨b, 0, none⟩))) :
    Calls Try.prog 21 #[.pointer (some ⟨b, 0, none⟩)] w fun e w' => e = .returned (.tuple #[]) ∧ w' = w := Any.Builder_copyCheck_used (ρ := lays166_ren) { lays166 with } Builder_Extra_166.toX72 b w h0
theorem info_byte : ∃ i, Try.prog.info? 5 = some i ∧ i.zero = some (.int .u8 0) ∧ i.size = 1 ∧ i.bytes = 1 := by
  have h : (Try.prog.info? 5).map (fun i => (i.zero, i.size, i.bytes)) = some (some (.int .u8 0), 1, 1) := by kernel_rfl
  obtain ⟨i, hi, he⟩ := Option.map_eq_some_iff.1 h
  simp only [Prod.mk.injEq] at he
  exact ⟨i, hi, he.1, he.2.1, he.2.2⟩
theorem builderAt_below {T e : TypeId} {B b : Nat} {p : Value} {bs : List Value} {W w2 : World} (h : Lib.BuilderAtF T e B b p bs W) (k : Below W.heap.size W w2) : Lib.BuilderAtF T e B b p bs w2 := by
  have old : ∀ (g : Nat) (o : Obj), W.heap[g]? = some o → w2.heap[g]? = some o := by
    intro g o hg
    have hl : g < W.heap.size := by
      rcases Nat.lt_or_ge g W.heap.size with h1 | h1
      · exact h1
      · rw [Array.getElem?_eq_none h1] at hg; cases hg
    rw [k.block g hl]; exact hg
  obtain ⟨hB, v, hbk, ⟨hl, hown⟩, hne⟩ := h
  refine ⟨hB, v, old _ _ hbk, ⟨hl, ?_⟩, hne⟩
  rcases hown with hn | ⟨g, cap, cur, fz, hv, hb, hg, rest⟩
  · exact .inl hn
  · exact .inr ⟨g, cap, cur, fz, hv, hb, old _ _ hg, rest⟩
theorem cells_nums (xs : List Int) (h : ∀ x ∈ xs, 0 ≤ x ∧ x < 256) : Lib.byteCells (strOfNums xs).data.toList = xs.map (Value.int .u8) := by
  unfold Lib.byteCells strOfNums
  simp only [List.map_map]
  refine List.map_congr_left fun x hx => ?_
  obtain ⟨h0, h1⟩ := h x hx
  simp
  omega
theorem low_range (hi lo : Int) (h0 : 0 ≤ lo) (h1 : lo < 18446744073709551616) (h2 : 0 ≤ hi) (h3 : hi < 18446744073709551616) : ∀ x ∈ lowL hi lo, 0 ≤ x ∧ x < 256 := by
  intro x hx
  simp only [lowL, List.mem_cons, List.not_mem_nil, or_false] at hx
  rcases hx with rfl | rfl | rfl | rfl | rfl | rfl | rfl | rfl | rfl | rfl | rfl | rfl | rfl | rfl | rfl | rfl <;> omega
/-- The bytes of elements, one behind the other. -/
def elemsL (l : Int) (es : List (Nat × Nat)) : List UInt8 := es.flatMap fun e => (elemS l (e.1 : Int) (e.2 : Int)).data.toList
theorem elemsL_snoc (l : Int) (es : List (Nat × Nat)) (e : Nat × Nat) : elemsL l (es ++ [e]) = elemsL l es ++ (elemS l (e.1 : Int) (e.2 : Int)).data.toList := by simp [elemsL]
def allB (l : Int) (es : List (Nat × Nat)) : Bool := es.all fun e => ofB l (e.1 : Int) (e.2 : Int)
/-- What octet.Elems answers. -/
def elemsS (l : Int) (es : List (Nat × Nat)) : ByteArray := if wideI l = 0 then ⟨#[]⟩ else if allB l es = true then ⟨((numS es.length).data.toList ++ elemsL l es).toArray⟩ else ⟨#[]⟩
theorem elemS_len (l hi lo : Int) : (elemS l hi lo).data.toList.length ≤ 16 := by
  unfold elemS
  have h : (strOfNums (if ofB l hi lo = true then (lowL hi lo).take (wideI l).toNat else [])).data.toList.length = (if ofB l hi lo = true then (lowL hi lo).take (wideI l).toNat else []).length := by simp [strOfNums]
  rw [h]
  split
  · rw [List.length_take]; simp [lowL]; omega
  · simp
theorem elemsL_len (l : Int) (es : List (Nat × Nat)) : (elemsL l es).length ≤ es.length * 16 := by
  induction es with
  | nil => simp [elemsL]
  | cons e es ih =>
    have := elemS_len l (e.1 : Int) (e.2 : Int)
    have e1 : elemsL l (e :: es) = (elemS l (e.1 : Int) (e.2 : Int)).data.toList ++ elemsL l es := by simp [elemsL]
    rw [e1, List.length_append, List.length_cons]
    omega
theorem wide_nat (l : Int) : ∃ n : Nat, wideI l = (n : Int) ∧ n ≤ 16 := ⟨(wideI l).toNat, by unfold wideI; split <;> (try split) <;> (try split) <;> (try split) <;> (try split) <;> decide, by unfold wideI; split <;> (try split) <;> (try split) <;> (try split) <;> (try split) <;> decide⟩
end Go.Proofs.Ytjllijoiakccpaa
