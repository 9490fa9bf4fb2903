/- The contracts of sponge's finish and Sum, of the law's awake, and the walk of SpongePresses, over the seat's translation. -/
import Derived.Test.YtbmjceiogfhffaaSpG
namespace Go.Proofs.Ytbmjceiogfhffaa
open Go.RowKit

/-- The digest of a text of n bytes of which h is the chain value ahead of its rest. -/
def fin (h rest : ByteArray) (n : Nat) : ByteArray := cls (prl h (blks (rest ++ fil n) ((rest ++ fil n).size / 64)))
theorem cls_size (h : ByteArray) : (cls h).size = 32 := by unfold cls; rw [ByteArray.size_extract, add2_size]; rfl
theorem fin_size (h rest : ByteArray) (n : Nat) : (fin h rest n).size = 32 := cls_size _
theorem finish_ok (g : Nat) (h rest : ByteArray) (n : Nat) (hh : h.size = 64) (hr : rest.size ≤ 100000000) (hn : n ≤ 100000000) (W : World) (hT : Tab W g) :
    Calls Try.prog 62 #[.pointer (some ⟨g, 0, none⟩), .string h, .string rest, .int .i64 (n : Int)] W fun e w' => e = .returned (.string (fin h rest n)) ∧ Below W.heap.size W w' := by
  have H1 : Hid (Ret 60 #[.int .i64 (n : Int)] (.string (fil n))) := filling_any n (by omega)
  have hf := fil_size n
  have hl : (fil n).size ≤ 200 := by rw [hf]; unfold nb; omega
  have hz : (rest ++ fil n).size ≤ 1000000000000 := by rw [ByteArray.size_append]; omega
  have hp := prl_size h hh (blks (rest ++ fil n) ((rest ++ fil n).size / 64))
  have HE : Hid (fin h rest n = cls (prl h (blks (rest ++ fil n) ((rest ++ fil n).size / 64)))) := (rfl : fin h rest n = _)
  have H2 : Hid (∀ w, Tab w g → Calls Try.prog 74 #[.pointer (some ⟨g, 0, none⟩), .string h, .string (rest ++ fil n)] w fun e w' => e = .returned (.string (prl h (blks (rest ++ fil n) ((rest ++ fil n).size / 64)))) ∧ Below w.heap.size w w') := fun w t => pressed_ok g h _ hh hz w t
  have H3 : Hid (∀ w, Tab w g → Calls Try.prog 23 #[.pointer (some ⟨g, 0, none⟩), .string (prl h (blks (rest ++ fil n) ((rest ++ fil n).size / 64)))] w fun e w' => e = .returned (.tuple #[.string (cls (prl h (blks (rest ++ fil n) ((rest ++ fil n).size / 64)))), .int .i64 0]) ∧ Below w.heap.size w w') := fun w t => close_ok g _ hp w t
  have HT : Hid (Hold W W g) := ⟨hT, Below.refl _ _⟩
  clear hT hf hz hp
  generalize cls (prl h (blks (rest ++ fil n) ((rest ++ fil n).size / 64))) = c at *
  generalize prl h (blks (rest ++ fil n) ((rest ++ fil n).size / 64)) = p at *
  generalize fil n = x at *
  have hrx : rest.size ≤ 100000000 := hr
  go_enter Try.func62, Try.ntmps62
  go_wp2_with (first | (go_at_call 60; refine (H1.out.go _).mono ?_; rintro e w1 ⟨rfl, hb1⟩; have HT1 : Hid (Hold W w1 g) := HT.out.below hb1; clear hb1) | (go_at_call 74; refine (H2.out _ HT1.out.t).mono ?_; rintro e w2 ⟨rfl, hb2⟩; have HT2 : Hid (Hold W w2 g) := HT1.out.below hb2; clear hb2) | (go_at_call 23; refine (H3.out _ HT2.out.t).mono ?_; rintro e w3 ⟨rfl, hb3⟩; have HT3 : Hid (Hold W w3 g) := HT2.out.below hb3; clear hb3))
  go_ret
  exact ⟨by rw [HE.out]; rfl, HT3.out.d⟩
/-- A text's digest. -/
def smv (s : ByteArray) : ByteArray := fin fst0 s s.size
theorem sum_ok (g : Nat) (s : ByteArray) (hs : s.size ≤ 1048576) (W : World) (hT : Tab W g) :
    Calls Try.prog 41 #[.pointer (some ⟨g, 0, none⟩), .string s] W fun e w' => e = .returned (.string (smv s)) ∧ Below W.heap.size W w' := by
  have H1 : Hid (Ret 63 #[] (.string fst0)) := first_any
  have H2 : Hid (∀ w, Tab w g → Calls Try.prog 62 #[.pointer (some ⟨g, 0, none⟩), .string fst0, .string s, .int .i64 (s.size : Int)] w fun e w' => e = .returned (.string (smv s)) ∧ Below w.heap.size w w') := fun w t => finish_ok g fst0 s s.size fst0_size (by omega) (by omega) w t
  have HT : Hid (Hold W W g) := ⟨hT, Below.refl _ _⟩
  have hl : ¬ (1048576 : Int) < (s.size : Int) := by omega
  clear hT
  generalize smv s = c at *
  generalize fst0 = x at *
  go_enter Try.func41, Try.ntmps41
  go_wp2_with (first | (go_at_call 63; refine (H1.out.go _).mono ?_; rintro e w1 ⟨rfl, hb1⟩; have HT1 : Hid (Hold W w1 g) := HT.out.below hb1; clear hb1) | (go_at_call 62; refine (H2.out _ HT1.out.t).mono ?_; rintro e w2 ⟨rfl, hb2⟩; have HT2 : Hid (Hold W w2 g) := HT1.out.below hb2; clear hb2))
  go_ret
  exact ⟨rfl, HT2.out.d⟩
theorem ful_nil : ful (ByteArray.mk #[]) = ByteArray.mk #[128, 0, 0, 0, 0, 0, 0, 0, 0, 0, 0, 0, 0, 0, 0, 0, 0, 0, 0, 0, 0, 0, 0, 0, 0, 0, 0, 0, 0, 0, 0, 0, 0, 0, 0, 0, 0, 0, 0, 0, 0, 0, 0, 0, 0, 0, 0, 0, 0, 0, 0, 0, 0, 0, 0, 0, 0, 0, 0, 0, 0, 0, 0, 1] := by decide +kernel
set_option maxRecDepth 100000 in
theorem awake11 : Ret 21 #[] (.bool true) := by
  intro W
  have H1 : Hid (Ret 39 #[.string (ByteArray.mk #[])] (.string (ful (ByteArray.mk #[])))) := fill_any _ (by decide)
  rw [ful_nil] at H1
  have H2 : Hid (Same 40 #[.int .i64 55] (.int .i64 1)) := blocks_ok 55 (by omega)
  have H3 : Hid (Same 40 #[.int .i64 56] (.int .i64 2)) := blocks_ok 56 (by omega)
  have H4 : Hid (∀ g w, Tab w g → Calls Try.prog 41 #[.pointer (some ⟨g, 0, none⟩), .string (ByteArray.mk #[97])] w fun e w' => e = .returned (.string (smv (ByteArray.mk #[97]))) ∧ Below w.heap.size w w') := fun g w t => sum_ok g _ (by decide) w t
  have hz : (smv (ByteArray.mk #[97])).size = 32 := fin_size _ _ _
  generalize smv (ByteArray.mk #[97]) = c at *
  go_enter Try.func21, Try.ntmps21
  go_wp2_with (first | (go_at_call 39; refine (H1.out.go _).mono ?_; rintro e w1 ⟨rfl, hb1⟩) | (go_at_call_of 40 (55 : Int); refine (H2.out.go _).mono ?_; rintro e w2 ⟨rfl, rfl⟩) | (go_at_call_of 40 (56 : Int); refine (H3.out.go _).mono ?_; rintro e w3 ⟨rfl, rfl⟩) | (go_at_call 9; refine (make_any _).mono ?_; rintro e w4 ⟨g, rfl, hg, ht, hb4⟩; have HT : Hid (Hold W w4 g) := ⟨ht, hb1.trans (hb4.mono hb1.size)⟩; clear ht hb4) | (go_at_call 41; refine (H4.out _ _ HT.out.t).mono ?_; rintro e w5 ⟨rfl, hb5⟩; have HT5 : Hid (Hold W w5 g) := HT.out.below hb5; clear hb5))
  go_ret
  exact ⟨rfl, HT5.out.d⟩


theorem none_none : ((ByteArray.mk #[]) ++ (ByteArray.mk #[])).toList.isEmpty = true := by decide +kernel
theorem sp_long1 (h m : ByteArray) (hh : 100 < h.size) : Ret 8 #[.string h, .string m] (.bool true) := by
  intro W
  have h1 : (100 : Int) < (h.size : Int) := by omega
  go_enter Try.func8, Try.ntmps8
  go_wp2_with (go_at_call 21; refine (awake11.go _).mono ?_; rintro e w1 ⟨rfl, hb1⟩)
  go_ret
  exact ⟨rfl, hb1⟩
theorem sp_long2 (h m : ByteArray) (hh : ¬ 100 < h.size) (hm : 100 < m.size) : Ret 8 #[.string h, .string m] (.bool true) := by
  intro W
  have h1 : ¬ (100 : Int) < (h.size : Int) := by omega
  have h2 : (100 : Int) < (m.size : Int) := by omega
  go_enter Try.func8, Try.ntmps8
  go_wp2_with (go_at_call 21; refine (awake11.go _).mono ?_; rintro e w1 ⟨rfl, hb1⟩)
  go_ret
  exact ⟨rfl, hb1⟩
set_option maxHeartbeats 1600000 in
theorem sp_size (h m : ByteArray) (hh : h.size ≤ 100) (hm : m.size ≤ 100) (h64 : h.size ≠ 64)
    (H1 : Hid (∀ g w, Tab w g → Calls Try.prog 22 #[.pointer (some ⟨g, 0, none⟩), .string h, .string m] w fun e w' => e = .returned (.tuple #[.string (ByteArray.mk #[]), .int .i64 6]) ∧ Below w.heap.size w w'))
    (H2 : Hid (∀ g w, Tab w g → Calls Try.prog 23 #[.pointer (some ⟨g, 0, none⟩), .string h] w fun e w' => e = .returned (.tuple #[.string (ByteArray.mk #[]), .int .i64 6]) ∧ Below w.heap.size w w'))
    (H3 : Hid (Ret 22 #[.pointer none, .string h, .string m] (.tuple #[.string (ByteArray.mk #[]), .int .i64 1])))
    (H4 : Hid (Ret 23 #[.pointer none, .string h] (.tuple #[.string (ByteArray.mk #[]), .int .i64 1]))) :
    Ret 8 #[.string h, .string m] (.bool true) := by
  intro W
  have h1 : ¬ (100 : Int) < (h.size : Int) := by omega
  have h2 : ¬ (100 : Int) < (m.size : Int) := by omega
  have h3 : ¬ ((h.size : Int) = 64) := by omega
  go_enter Try.func8, Try.ntmps8
  go_wp2_with (first | (go_at_call 21; refine (awake11.go _).mono ?_; rintro e w0 ⟨rfl, hb0⟩) | (go_at_call 9; refine (make_any _).mono ?_; rintro e w1 ⟨g, rfl, hg, ht, hb1⟩; have HT : Hid (Hold W w1 g) := ⟨ht, hb0.trans (hb1.mono hb0.size)⟩; clear ht hb1 hb0) | (go_at_call_of 22 (some (⟨g, 0, none⟩ : Addr)); refine (H1.out g _ HT.out.t).mono ?_; rintro e w2 ⟨rfl, hb2⟩; have HT2 : Hid (Hold W w2 g) := HT.out.below hb2; clear HT hb2; have HT := HT2; clear HT2) | (go_at_call_of 23 (some (⟨g, 0, none⟩ : Addr)); refine (H2.out g _ HT.out.t).mono ?_; rintro e w2 ⟨rfl, hb2⟩; have HT2 : Hid (Hold W w2 g) := HT.out.below hb2; clear HT hb2; have HT := HT2; clear HT2) | (go_at_call_of 22 (none : Option Addr); refine (H3.out.go _).mono ?_; rintro e w2 ⟨rfl, hb2⟩; have HT2 : Hid (Hold W w2 g) := HT.out.below hb2; clear HT hb2; have HT := HT2; clear HT2) | (go_at_call_of 23 (none : Option Addr); refine (H4.out.go _).mono ?_; rintro e w2 ⟨rfl, hb2⟩; have HT2 : Hid (Hold W w2 g) := HT.out.below hb2; clear HT hb2; have HT := HT2; clear HT2))
  refine (rmake_any _).mono ?_
  rintro e w3 ⟨gB, cB, gT, cT, gs, cs, rfl, hr, hb3⟩
  have RT : Hid (RTab w3 gB gT gs cs ∧ Below W.heap.size W w3) := ⟨hr, HT.out.d.trans (hb3.mono HT.out.d.size)⟩
  clear hr hb3 HT
  go_wp2
  go_ret
  exact ⟨by show Ending.returned (Value.bool ((ByteArray.mk #[]) ++ (ByteArray.mk #[])).toList.isEmpty) = _; rw [none_none], RT.out.2.trans ((below_laid _ _).mono RT.out.2.size)⟩
set_option maxHeartbeats 1600000 in
theorem sp_block (h m b : ByteArray) (h64 : h.size = 64) (hm : m.size ≤ 100) (m64 : m.size ≠ 64)
    (H1 : Hid (∀ g w, Tab w g → Calls Try.prog 22 #[.pointer (some ⟨g, 0, none⟩), .string h, .string m] w fun e w' => e = .returned (.tuple #[.string (ByteArray.mk #[]), .int .i64 6]) ∧ Below w.heap.size w w'))
    (H2 : Hid (∀ g w, Tab w g → Calls Try.prog 23 #[.pointer (some ⟨g, 0, none⟩), .string h] w fun e w' => e = .returned (.tuple #[.string b, .int .i64 0]) ∧ Below w.heap.size w w'))
    (H3 : Hid (Ret 22 #[.pointer none, .string h, .string m] (.tuple #[.string (ByteArray.mk #[]), .int .i64 1])))
    (H4 : Hid (Ret 23 #[.pointer none, .string h] (.tuple #[.string (ByteArray.mk #[]), .int .i64 1])))
    (H5 : Hid (∀ gB cB gT cT gs cs w, RTab w gB gT gs cs → Calls Try.prog 24 #[.agg #[.slice (some ⟨gB, 0, none⟩) 256 cB, .slice (some ⟨gT, 0, none⟩) 8 cT], .string h] w fun e w' => e = .returned (.string b) ∧ Below w.heap.size w w')) :
    Ret 8 #[.string h, .string m] (.bool true) := by
  intro W
  have h1 : ¬ (100 : Int) < (h.size : Int) := by omega
  have h2 : ¬ (100 : Int) < (m.size : Int) := by omega
  have h3 : (h.size : Int) = 64 := by omega
  have m3 : ¬ ((m.size : Int) = 64) := by omega
  go_enter Try.func8, Try.ntmps8
  go_wp2_with (first | (go_at_call 21; refine (awake11.go _).mono ?_; rintro e w0 ⟨rfl, hb0⟩) | (go_at_call 9; refine (make_any _).mono ?_; rintro e w1 ⟨g, rfl, hg, ht, hb1⟩; have HT : Hid (Hold W w1 g) := ⟨ht, hb0.trans (hb1.mono hb0.size)⟩; clear ht hb1 hb0) | (go_at_call_of 22 (some (⟨g, 0, none⟩ : Addr)); refine (H1.out g _ HT.out.t).mono ?_; rintro e w2 ⟨rfl, hb2⟩; have HT2 : Hid (Hold W w2 g) := HT.out.below hb2; clear HT hb2; have HT := HT2; clear HT2) | (go_at_call_of 23 (some (⟨g, 0, none⟩ : Addr)); refine (H2.out g _ HT.out.t).mono ?_; rintro e w2 ⟨rfl, hb2⟩; have HT2 : Hid (Hold W w2 g) := HT.out.below hb2; clear HT hb2; have HT := HT2; clear HT2) | (go_at_call_of 22 (none : Option Addr); refine (H3.out.go _).mono ?_; rintro e w2 ⟨rfl, hb2⟩; have HT2 : Hid (Hold W w2 g) := HT.out.below hb2; clear HT hb2; have HT := HT2; clear HT2) | (go_at_call_of 23 (none : Option Addr); refine (H4.out.go _).mono ?_; rintro e w2 ⟨rfl, hb2⟩; have HT2 : Hid (Hold W w2 g) := HT.out.below hb2; clear HT hb2; have HT := HT2; clear HT2))
  refine (rmake_any _).mono ?_
  rintro e w3 ⟨gB, cB, gT, cT, gs, cs, rfl, hr, hb3⟩
  have RT : Hid (RTab w3 gB gT gs cs ∧ Below W.heap.size W w3) := ⟨hr, HT.out.d.trans (hb3.mono HT.out.d.size)⟩
  clear hr hb3 HT
  go_wp2_with (go_at_call 24; refine (H5.out gB cB gT cT gs cs _ (RT.out.1.below (by go_grown))).mono ?_; rintro e w4 ⟨rfl, hb4⟩; have B4 : Below w3.heap.size w3 w4 := ((Below.refl _ _).alloc (Nat.le_refl _) _).trans (hb4.mono (by simp)); have R4 : Hid (RTab w4 gB gT gs cs ∧ Below W.heap.size W w4) := ⟨RT.out.1.below B4, RT.out.2.trans (B4.mono RT.out.2.size)⟩; have q0 : w4.cell? ⟨w3.heap.size, 0, none⟩ = some (.slice (some ⟨gB, 0, none⟩) 256 cB) := keepc hb4 (by simp [go_sem]); have q1 : w4.cell? ⟨w3.heap.size, 1, none⟩ = some (.slice (some ⟨gT, 0, none⟩) 8 cT) := keepc hb4 (by simp [go_sem]); clear hb4 B4)
  go_ret
  exact ⟨rfl, R4.out.2⟩
set_option maxHeartbeats 1600000 in
theorem sp_core (h m a b : ByteArray) (h64 : h.size = 64) (m64 : m.size = 64)
    (H1 : Hid (∀ g w, Tab w g → Calls Try.prog 22 #[.pointer (some ⟨g, 0, none⟩), .string h, .string m] w fun e w' => e = .returned (.tuple #[.string a, .int .i64 0]) ∧ Below w.heap.size w w'))
    (H2 : Hid (∀ g w, Tab w g → Calls Try.prog 23 #[.pointer (some ⟨g, 0, none⟩), .string h] w fun e w' => e = .returned (.tuple #[.string b, .int .i64 0]) ∧ Below w.heap.size w w'))
    (H3 : Hid (Ret 22 #[.pointer none, .string h, .string m] (.tuple #[.string (ByteArray.mk #[]), .int .i64 1])))
    (H4 : Hid (Ret 23 #[.pointer none, .string h] (.tuple #[.string (ByteArray.mk #[]), .int .i64 1])))
    (H5 : Hid (∀ gB cB gT cT gs cs w, RTab w gB gT gs cs → Calls Try.prog 24 #[.agg #[.slice (some ⟨gB, 0, none⟩) 256 cB, .slice (some ⟨gT, 0, none⟩) 8 cT], .string h] w fun e w' => e = .returned (.string b) ∧ Below w.heap.size w w'))
    (H6 : Hid (∀ gB cB gT cT gs cs w, RTab w gB gT gs cs → Calls Try.prog 25 #[.agg #[.slice (some ⟨gB, 0, none⟩) 256 cB, .slice (some ⟨gT, 0, none⟩) 8 cT], .string h, .string m] w fun e w' => e = .returned (.string a) ∧ Below w.heap.size w w')) :
    Ret 8 #[.string h, .string m] (.bool true) := by
  intro W
  have h1 : ¬ (100 : Int) < (h.size : Int) := by omega
  have h2 : ¬ (100 : Int) < (m.size : Int) := by omega
  have h3 : (h.size : Int) = 64 := by omega
  have m3 : (m.size : Int) = 64 := by omega
  go_enter Try.func8, Try.ntmps8
  go_wp2_with (first | (go_at_call 21; refine (awake11.go _).mono ?_; rintro e w0 ⟨rfl, hb0⟩) | (go_at_call 9; refine (make_any _).mono ?_; rintro e w1 ⟨g, rfl, hg, ht, hb1⟩; have HT : Hid (Hold W w1 g) := ⟨ht, hb0.trans (hb1.mono hb0.size)⟩; clear ht hb1 hb0) | (go_at_call_of 22 (some (⟨g, 0, none⟩ : Addr)); refine (H1.out g _ HT.out.t).mono ?_; rintro e w2 ⟨rfl, hb2⟩; have HT2 : Hid (Hold W w2 g) := HT.out.below hb2; clear HT hb2; have HT := HT2; clear HT2) | (go_at_call_of 23 (some (⟨g, 0, none⟩ : Addr)); refine (H2.out g _ HT.out.t).mono ?_; rintro e w2 ⟨rfl, hb2⟩; have HT2 : Hid (Hold W w2 g) := HT.out.below hb2; clear HT hb2; have HT := HT2; clear HT2) | (go_at_call_of 22 (none : Option Addr); refine (H3.out.go _).mono ?_; rintro e w2 ⟨rfl, hb2⟩; have HT2 : Hid (Hold W w2 g) := HT.out.below hb2; clear HT hb2; have HT := HT2; clear HT2) | (go_at_call_of 23 (none : Option Addr); refine (H4.out.go _).mono ?_; rintro e w2 ⟨rfl, hb2⟩; have HT2 : Hid (Hold W w2 g) := HT.out.below hb2; clear HT hb2; have HT := HT2; clear HT2))
  refine (rmake_any _).mono ?_
  rintro e w3 ⟨gB, cB, gT, cT, gs, cs, rfl, hr, hb3⟩
  have RT : Hid (RTab w3 gB gT gs cs ∧ Below W.heap.size W w3) := ⟨hr, HT.out.d.trans (hb3.mono HT.out.d.size)⟩
  clear hr hb3 HT
  go_wp2_with (first | (go_at_call 24; refine (H5.out gB cB gT cT gs cs _ (RT.out.1.below (by go_grown))).mono ?_; rintro e w4 ⟨rfl, hb4⟩; have B4 : Below w3.heap.size w3 w4 := ((Below.refl _ _).alloc (Nat.le_refl _) _).trans (hb4.mono (by simp)); have R4 : Hid (RTab w4 gB gT gs cs ∧ Below W.heap.size W w4) := ⟨RT.out.1.below B4, RT.out.2.trans (B4.mono RT.out.2.size)⟩; have q0 : w4.cell? ⟨w3.heap.size, 0, none⟩ = some (.slice (some ⟨gB, 0, none⟩) 256 cB) := keepc hb4 (by simp [go_sem]); have q1 : w4.cell? ⟨w3.heap.size, 1, none⟩ = some (.slice (some ⟨gT, 0, none⟩) 8 cT) := keepc hb4 (by simp [go_sem]); clear hb4 B4) | (go_at_call 25; refine (H6.out gB cB gT cT gs cs _ R4.out.1).mono ?_; rintro e w5 ⟨rfl, hb5⟩; have D5 : Hid (Below W.heap.size W w5) := R4.out.2.trans (hb5.mono R4.out.2.size); clear hb5))
  go_ret
  exact ⟨rfl, D5.out⟩
theorem sp_any (h m : ByteArray) : Ret 8 #[.string h, .string m] (.bool true) := by
  by_cases hh : 100 < h.size
  · exact sp_long1 h m hh
  by_cases hm : 100 < m.size
  · exact sp_long2 h m hh hm
  have H3 : Hid (Ret 22 #[.pointer none, .string h, .string m] (.tuple #[.string (ByteArray.mk #[]), .int .i64 1])) := press_nil h m
  have H4 : Hid (Ret 23 #[.pointer none, .string h] (.tuple #[.string (ByteArray.mk #[]), .int .i64 1])) := close_err none h 1 (.inl ⟨rfl, rfl⟩)
  by_cases h64 : h.size = 64
  · by_cases m64 : m.size = 64
    · exact sp_core h m (prs h m) (cls h) h64 m64 (fun g w t => press_ok g h m h64 m64 w t) (fun g w t => close_ok g h h64 w t) H3 H4 (fun gB cB gT cT gs cs w r => rclose_any gB cB gT cT gs cs h h64 w r) (fun gB cB gT cT gs cs w r => rpress_any gB cB gT cT gs cs h m h64 m64 w r)
    · exact sp_block h m (cls h) h64 (by omega) m64 (fun g w _ => press_m g h m h64 m64 w) (fun g w t => close_ok g h h64 w t) H3 H4 (fun gB cB gT cT gs cs w r => rclose_any gB cB gT cT gs cs h h64 w r)
  · exact sp_size h m (by omega) (by omega) h64 (fun g w _ => press_h g h m h64 w) (fun g w _ => close_err _ h 6 (.inr ⟨⟨g, rfl⟩, h64, rfl⟩) w) H3 H4
end Go.Proofs.Ytbmjceiogfhffaa
