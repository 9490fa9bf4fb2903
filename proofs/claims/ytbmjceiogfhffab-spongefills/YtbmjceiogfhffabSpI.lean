/- The contracts of sponge's finish and Sum, of the law's awake, and the walk of SpongePresses, over the seat's translation. -/
import Derived.Test.YtbmjceiogfhffabSpG
namespace Go.Proofs.Ytbmjceiogfhffab
open Go.RowKit

/-- The digest of a text of n bytes of which h is the chain value ahead of its rest. -/
def fin (h rest : ByteArray) (n : Nat) : ByteArray := cls (prl h (blks (rest ++ fil n) ((rest ++ fil n).size / 64)))
theorem cls_size (h : ByteArray) : (cls h).size = 32 := by unfold cls; rw [ByteArray.size_extract, add2_size]; rfl
theorem fin_size (h rest : ByteArray) (n : Nat) : (fin h rest n).size = 32 := cls_size _
theorem finish_ok (g : Nat) (h rest : ByteArray) (n : Nat) (hh : h.size = 64) (hr : rest.size ≤ 100000000) (hn : n ≤ 100000000) (W : World) (hT : Tab W g) :
    Calls Try.prog 23 #[.pointer (some ⟨g, 0, none⟩), .string h, .string rest, .int .i64 (n : Int)] W fun e w' => e = .returned (.string (fin h rest n)) ∧ Below W.heap.size W w' := by
  have H1 : Hid (Ret 12 #[.int .i64 (n : Int)] (.string (fil n))) := filling_any n (by omega)
  have hf := fil_size n
  have hl : (fil n).size ≤ 200 := by rw [hf]; unfold nb; omega
  have hz : (rest ++ fil n).size ≤ 1000000000000 := by rw [ByteArray.size_append]; omega
  have hp := prl_size h hh (blks (rest ++ fil n) ((rest ++ fil n).size / 64))
  have HE : Hid (fin h rest n = cls (prl h (blks (rest ++ fil n) ((rest ++ fil n).size / 64)))) := (rfl : fin h rest n = _)
  have H2 : Hid (∀ w, Tab w g → Calls Try.prog 19 #[.pointer (some ⟨g, 0, none⟩), .string h, .string (rest ++ fil n)] w fun e w' => e = .returned (.string (prl h (blks (rest ++ fil n) ((rest ++ fil n).size / 64)))) ∧ Below w.heap.size w w') := fun w t => pressed_ok g h _ hh hz w t
  have H3 : Hid (∀ w, Tab w g → Calls Try.prog 38 #[.pointer (some ⟨g, 0, none⟩), .string (prl h (blks (rest ++ fil n) ((rest ++ fil n).size / 64)))] w fun e w' => e = .returned (.tuple #[.string (cls (prl h (blks (rest ++ fil n) ((rest ++ fil n).size / 64)))), .int .i64 0]) ∧ Below w.heap.size w w') := fun w t => close_ok g _ hp w t
  have HT : Hid (Hold W W g) := ⟨hT, Below.refl _ _⟩
  clear hT hf hz hp
  generalize cls (prl h (blks (rest ++ fil n) ((rest ++ fil n).size / 64))) = c at *
  generalize prl h (blks (rest ++ fil n) ((rest ++ fil n).size / 64)) = p at *
  generalize fil n = x at *
  have hrx : rest.size ≤ 100000000 := hr
  go_enter Try.func23, Try.ntmps23
  go_wp2_with (first | (go_at_call 12; refine (H1.out.go _).mono ?_; rintro e w1 ⟨rfl, hb1⟩; have HT1 : Hid (Hold W w1 g) := HT.out.below hb1; clear hb1) | (go_at_call 19; refine (H2.out _ HT1.out.t).mono ?_; rintro e w2 ⟨rfl, hb2⟩; have HT2 : Hid (Hold W w2 g) := HT1.out.below hb2; clear hb2) | (go_at_call 38; refine (H3.out _ HT2.out.t).mono ?_; rintro e w3 ⟨rfl, hb3⟩; have HT3 : Hid (Hold W w3 g) := HT2.out.below hb3; clear hb3))
  go_ret
  exact ⟨by rw [HE.out]; rfl, HT3.out.d⟩
/-- A text's digest. -/
def smv (s : ByteArray) : ByteArray := fin fst0 s s.size
theorem sum_ok (g : Nat) (s : ByteArray) (hs : s.size ≤ 1048576) (W : World) (hT : Tab W g) :
    Calls Try.prog 10 #[.pointer (some ⟨g, 0, none⟩), .string s] W fun e w' => e = .returned (.string (smv s)) ∧ Below W.heap.size W w' := by
  have H1 : Hid (Ret 20 #[] (.string fst0)) := first_any
  have H2 : Hid (∀ w, Tab w g → Calls Try.prog 23 #[.pointer (some ⟨g, 0, none⟩), .string fst0, .string s, .int .i64 (s.size : Int)] w fun e w' => e = .returned (.string (smv s)) ∧ Below w.heap.size w w') := fun w t => finish_ok g fst0 s s.size fst0_size (by omega) (by omega) w t
  have HT : Hid (Hold W W g) := ⟨hT, Below.refl _ _⟩
  have hl : ¬ (1048576 : Int) < (s.size : Int) := by omega
  clear hT
  generalize smv s = c at *
  generalize fst0 = x at *
  go_enter Try.func10, Try.ntmps10
  go_wp2_with (first | (go_at_call 20; refine (H1.out.go _).mono ?_; rintro e w1 ⟨rfl, hb1⟩; have HT1 : Hid (Hold W w1 g) := HT.out.below hb1; clear hb1) | (go_at_call 23; refine (H2.out _ HT1.out.t).mono ?_; rintro e w2 ⟨rfl, hb2⟩; have HT2 : Hid (Hold W w2 g) := HT1.out.below hb2; clear hb2))
  go_ret
  exact ⟨rfl, HT2.out.d⟩
theorem ful_nil : ful (ByteArray.mk #[]) = ByteArray.mk #[128, 0, 0, 0, 0, 0, 0, 0, 0, 0, 0, 0, 0, 0, 0, 0, 0, 0, 0, 0, 0, 0, 0, 0, 0, 0, 0, 0, 0, 0, 0, 0, 0, 0, 0, 0, 0, 0, 0, 0, 0, 0, 0, 0, 0, 0, 0, 0, 0, 0, 0, 0, 0, 0, 0, 0, 0, 0, 0, 0, 0, 0, 0, 1] := by decide +kernel
set_option maxRecDepth 100000 in
theorem awake11 : Ret 5 #[] (.bool true) := by
  intro W
  have H1 : Hid (Ret 6 #[.string (ByteArray.mk #[])] (.string (ful (ByteArray.mk #[])))) := fill_any _ (by decide)
  rw [ful_nil] at H1
  have H2 : Hid (Same 8 #[.int .i64 55] (.int .i64 1)) := blocks_ok 55 (by omega)
  have H3 : Hid (Same 8 #[.int .i64 56] (.int .i64 2)) := blocks_ok 56 (by omega)
  have H4 : Hid (∀ g w, Tab w g → Calls Try.prog 10 #[.pointer (some ⟨g, 0, none⟩), .string (ByteArray.mk #[97])] w fun e w' => e = .returned (.string (smv (ByteArray.mk #[97]))) ∧ Below w.heap.size w w') := fun g w t => sum_ok g _ (by decide) w t
  have hz : (smv (ByteArray.mk #[97])).size = 32 := fin_size _ _ _
  generalize smv (ByteArray.mk #[97]) = c at *
  go_enter Try.func5, Try.ntmps5
  go_wp2_with (first | (go_at_call 6; refine (H1.out.go _).mono ?_; rintro e w1 ⟨rfl, hb1⟩) | (go_at_call_of 8 (55 : Int); refine (H2.out.go _).mono ?_; rintro e w2 ⟨rfl, rfl⟩) | (go_at_call_of 8 (56 : Int); refine (H3.out.go _).mono ?_; rintro e w3 ⟨rfl, rfl⟩) | (go_at_call 7; refine (make_any _).mono ?_; rintro e w4 ⟨g, rfl, hg, ht, hb4⟩; have HT : Hid (Hold W w4 g) := ⟨ht, hb1.trans (hb4.mono hb1.size)⟩; clear ht hb4) | (go_at_call 10; refine (H4.out _ _ HT.out.t).mono ?_; rintro e w5 ⟨rfl, hb5⟩; have HT5 : Hid (Hold W w5 g) := HT.out.below hb5; clear hb5))
  go_ret
  exact ⟨rfl, HT5.out.d⟩


theorem none_none : ((ByteArray.mk #[]) ++ (ByteArray.mk #[])).toList.isEmpty = true := by decide +kernel
end Go.Proofs.Ytbmjceiogfhffab
