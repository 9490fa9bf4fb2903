/- Contract of octet.List over the seat's translation: the bytes of a list of texts. -/
import Derived.Test.YtccpbpajappckaaOctNum
import Derived.Test.YtccpbpajappckaaPOrA
import Derived.Test.YtccpbpajappckaaShelf
import Derived.Handy
namespace Go.Proofs.Ytccpbpajappckaa
open Go.RowKit

theorem builder_below {T e : TypeId} {B b : Nat} {bs : List Value} {W w2 : World} (h : Lib.IsBuilderF T e B b bs W) (k : Below W.heap.size W w2) : Lib.IsBuilderF T e B b bs w2 := by
  have old : ∀ (g : Nat) (o : Obj), W.heap[g]? = some o → w2.heap[g]? = some o := by
    intro g o hg
    have hl : g < W.heap.size := by
      rcases Nat.lt_or_ge g W.heap.size with h1 | h1
      · exact h1
      · rw [Array.getElem?_eq_none h1] at hg; cases hg
    rw [k.block g hl]; exact hg
  have one : ∀ p, Lib.BuilderAtF T e B b p bs W → Lib.BuilderAtF T e B b p bs w2 := by
    rintro p ⟨hB, v, hbk, ⟨hl, hown⟩, hne⟩
    refine ⟨hB, v, old _ _ hbk, ⟨hl, ?_⟩, hne⟩
    rcases hown with hn | ⟨g, cap, cur, fz, hv, hb, hg, rest⟩
    · exact .inl hn
    · exact .inr ⟨g, cap, cur, fz, hv, hb, old _ _ hg, rest⟩
  exact h.elim (fun x => .inl (one _ x)) (fun x => .inr (one _ x))

/-- The bytes of texts, one behind the other. -/
def textsL (ss : List ByteArray) : List UInt8 := ss.flatMap fun s => (numS s.size).data.toList ++ s.data.toList
/-- The bytes of a list of texts. -/
def listL (ss : List ByteArray) : List UInt8 := (numS ss.length).data.toList ++ textsL ss

theorem textsL_snoc (ss : List ByteArray) (s : ByteArray) : textsL (ss ++ [s]) = textsL ss ++ (numS s.size).data.toList ++ s.data.toList := by simp [textsL]
theorem textsL_len (ss : List ByteArray) (h : ∀ s ∈ ss, s.size ≤ 10000) : (textsL ss).length ≤ ss.length * 10004 := by
  induction ss with
  | nil => simp [textsL]
  | cons s l ih =>
    have h1 := ih (fun x hx => h x (List.mem_cons_of_mem _ hx))
    have h2 := h s (List.mem_cons_self ..)
    have h3 := numS_size s.size
    have e : (textsL (s :: l)).length = ((numS s.size).data.toList.length + s.data.toList.length) + (textsL l).length := by simp [textsL]; omega
    have e1 : (numS s.size).data.toList.length = (numS s.size).size := by rw [Array.length_toList]; rfl
    have e2 : s.data.toList.length = s.size := by rw [Array.length_toList]; rfl
    rw [e, e1, e2, List.length_cons]; omega

set_option maxHeartbeats 1000000 in
set_option maxRecDepth 100000 in
theorem list_row (b off : Nat) (ss : List ByteArray) (cap : Nat) (hn : ss.length ≤ 1000) (hs : ∀ s ∈ ss, s.size ≤ 10000) (w : World) (hb : b < w.heap.size) (hc : ∀ i, i < ss.length → w.cell? ⟨b, off + i, none⟩ = some (.string (ss.getD i ByteArray.empty))) :
    Calls Try.prog 15 #[.slice (some ⟨b, off, none⟩) ss.length cap] w fun e w' => e = .returned (.string ⟨(listL ss).toArray⟩) ∧ Below w.heap.size w w' := by
  have HC : Hid (∀ i, i < ss.length → w.cell? ⟨b, off + i, none⟩ = some (.string (ss.getD i ByteArray.empty))) := hc
  have HS : Hid (∀ s ∈ ss, s.size ≤ 10000) := hs
  clear hc hs
  have hz := numS_size ss.length
  go_enter Try.func15, Try.ntmps15
  go_wp2_with (go_at_call 13; refine (num_any _ _).mono ?_; rintro e w1 ⟨rfl, hb1⟩)
  refine (builder_WriteString w.heap.size w.heap.size [] _ _ (builder_below (Lib.IsBuilderF.of (Lib.fresh_isBuilder 78 5 w)) hb1) (by simp; omega) (by have := hb1.size; simp at this; omega)).mono ?_
  rintro e w2 ⟨rfl, h2, hb2, hk2⟩
  have B2 : Below w.heap.size w w2 := (((Below.refl _ _).alloc (Nat.le_refl _) _).trans (hb1.mono (by simp))).trans hb2
  go_wp2
  go_loopw [12] (fun v wr => ∃ k : Nat, k ≤ ss.length ∧ v = .int .i64 k ∧ Lib.IsBuilderF 78 5 w.heap.size w.heap.size (Lib.byteCells ((numS ss.length).data.toList ++ textsL (ss.take k))) wr ∧ Below w.heap.size w wr) (fun v _ => ss.length - (intOf v).toNat)
  case atStart =>
    refine ⟨0, Nat.zero_le _, rfl, .inr ?_, B2⟩
    simpa [textsL, Lib.strCells_eq] using h2
  case round =>
    obtain ⟨k, hk, rfl, hI, hbw⟩ := hrel
    by_cases hlt : k < ss.length
    · have hcell : wr.cell? ⟨b, off + k, none⟩ = some (.string (ss.getD k ByteArray.empty)) := by
        rw [hbw.cell (p := ⟨b, off + k, none⟩) hb]; exact HC.out k hlt
      have hsk : (ss.getD k ByteArray.empty).size ≤ 10000 := HS.out _ (by simp [List.getD_eq_getElem?_getD, hlt])
      have hts := take_snoc' ss k hlt
      have hlen := textsL_len (ss.take k) (fun x hx => HS.out x (List.mem_of_mem_take hx))
      have hlk : (ss.take k).length = k := by simp; omega
      rw [hlk] at hlen
      have H : Hid (ss.take (k + 1) = ss.take k ++ [ss.getD k ByteArray.empty]) := hts
      clear hts hlk
      generalize ss.getD k ByteArray.empty = t at *
      generalize ss.take k = pre at *
      have hz2 := numS_size t.size
      go_wp2_with (go_at_call 13; refine (num_any _ _).mono ?_; rintro e w3 ⟨rfl, hb3⟩)
      have e1 : ∀ x : ByteArray, x.data.toList.length = x.size := fun x => by rw [Array.length_toList]; rfl
      refine (builder_WriteString w.heap.size w.heap.size _ _ _ (builder_below hI hb3) (by rw [Lib.byteCells_length, List.length_append, e1]; omega) (by have := hb3.size; have := hbw.size; omega)).mono ?_
      rintro e w4 ⟨rfl, h4, hb4, hk4⟩
      have B4 : Below w.heap.size w w4 := (hbw.trans (hb3.mono hbw.size)).trans hb4
      go_wp2_with fail
      refine (builder_WriteString w.heap.size w.heap.size _ _ _ (.inr h4) (by rw [List.length_append, Lib.byteCells_length, List.length_append, e1, Lib.strCells_length]; omega) (by have := B4.size; omega)).mono ?_
      rintro e w5 ⟨rfl, h5, hb5, hk5⟩
      go_wp2
      go_roundw
      case rel =>
        refine ⟨k + 1, by omega, by go_num, .inr ?_, B4.trans hb5⟩
        rw [H.out, textsL_snoc]
        simpa [Lib.byteCells_append, Lib.strCells_eq] using h5
      case measure => simp [intOf]; omega
    · have hke : k = ss.length := by omega
      subst hke
      rw [List.take_length] at hI
      go_wp2_with fail
      refine (builder_String w.heap.size w.heap.size _ _ hI (by have := hbw.size; omega)).mono ?_
      rintro e w4 ⟨rfl, h4, hb4, hk4⟩
      go_wp2
      go_ret
      exact ⟨rfl, hbw.trans hb4⟩

set_option maxHeartbeats 1000000 in
set_option maxRecDepth 100000 in
theorem list_nil (a : Option Addr) (cap : Nat) (w : World) : Calls Try.prog 15 #[.slice a 0 cap] w fun e w' => e = .returned (.string ⟨(listL []).toArray⟩) ∧ Below w.heap.size w w' := by
  have hz := numS_size 0
  go_enter Try.func15, Try.ntmps15
  go_wp2_with (go_at_call 13; refine (num_any _ _).mono ?_; rintro e w1 ⟨rfl, hb1⟩)
  refine (builder_WriteString w.heap.size w.heap.size [] _ _ (builder_below (Lib.IsBuilderF.of (Lib.fresh_isBuilder 78 5 w)) hb1) (by simp; omega) (by have := hb1.size; simp at this; omega)).mono ?_
  rintro e w2 ⟨rfl, h2, hb2, hk2⟩
  have B2 : Below w.heap.size w w2 := (((Below.refl _ _).alloc (Nat.le_refl _) _).trans (hb1.mono (by simp))).trans hb2
  have h3 : Lib.IsBuilderF 78 5 w.heap.size w.heap.size (Lib.byteCells (listL [])) w2 := .inr (by simpa [listL, textsL, Lib.strCells_eq] using h2)
  clear h2 hk2
  go_wp2
  refine wp_loop_rounds 1 ?_
  rw [rounds_succ]
  go_wp2_with fail
  refine (builder_String w.heap.size w.heap.size _ _ h3 (by have := B2.size; omega)).mono ?_
  rintro e w4 ⟨rfl, h4, hb4, hk4⟩
  go_wp2
  go_ret
  exact ⟨rfl, B2.trans hb4⟩

theorem list_any (a : Option Addr) (ss : List ByteArray) (cap : Nat) (hn : ss.length ≤ 1000) (hs : ∀ s ∈ ss, s.size ≤ 10000) (w : World) (h : StrRow w a ss) :
    Calls Try.prog 15 #[.slice a ss.length cap] w fun e w' => e = .returned (.string ⟨(listL ss).toArray⟩) ∧ Below w.heap.size w w' := by
  rcases h with rfl | ⟨b, off, rfl, hb, hcell⟩
  · exact list_nil a cap w
  · exact list_row b off ss cap hn hs w hb hcell
end Go.Proofs.Ytccpbpajappckaa
