/- The walk of MerkleProves over the seat's translation. -/
import Derived.Test.YtfepgoddoohpbaaMkH
namespace Go.Proofs.Ytfepgoddoohpbaa
open Go.RowKit

set_option maxHeartbeats 1600000 in
set_option maxRecDepth 100000 in
theorem mp_few (a : Option Addr) (ss : List ByteArray) (cap : Nat) (i : Int) (hm : ss.length ≤ maxLen) (W : World) (h : StrRow W a ss) (hf : fewB ss 16 100 = false) :
    Calls Try.prog 3 #[.slice a ss.length cap, .int .i64 i] W fun e w' => e = .returned (.bool true) ∧ Below W.heap.size W w' := by
  have HF : Hid (Calls Try.prog 6 #[.slice a ss.length cap, .int .i64 16, .int .i64 100] W fun e w' => e = .returned (.bool false) ∧ w' = W) := by
    have := few_any a ss cap 16 100 hm W h
    rw [hf] at this
    exact this
  clear h hf
  go_enter Try.func3, Try.ntmps3
  go_wp2_with (first | (go_at_call 6; refine HF.out.mono ?_; rintro e w9 ⟨rfl, hw⟩; obtain rfl := hw.symm; clear hw) | (go_at_call 8; refine (awake12.go _).mono ?_; rintro e w1 ⟨rfl, hb1⟩))
  go_ret
  exact ⟨rfl, hb1⟩
set_option maxHeartbeats 1600000 in
set_option maxRecDepth 100000 in
theorem mp_no (a : Option Addr) (ss : List ByteArray) (cap : Nat) (i : Int) (hm : ss.length ≤ maxLen) (W : World) (h : StrRow W a ss) (hf : fewB ss 16 100 = true) (hn : ∀ h, h ≤ 12 → ss.length ≠ 2 ^ h) :
    Calls Try.prog 3 #[.slice a ss.length cap, .int .i64 i] W fun e w' => e = .returned (.bool true) ∧ Below W.heap.size W w' := by
  have HF : Hid (Calls Try.prog 6 #[.slice a ss.length cap, .int .i64 16, .int .i64 100] W fun e w' => e = .returned (.bool true) ∧ w' = W) := by
    have := few_any a ss cap 16 100 hm W h
    rw [hf] at this
    exact this
  have HH : Hid (Same 7 #[.int .i64 (ss.length : Int)] (.int .i64 (-1))) := height_no _ hn
  clear h hf hn
  go_enter Try.func3, Try.ntmps3
  go_wp2_with (first | (go_at_call 6; refine HF.out.mono ?_; rintro e w9 ⟨rfl, hw⟩; obtain rfl := hw.symm; clear hw) | (go_at_call 7; refine (HH.out _).mono ?_; rintro e w9 ⟨rfl, hw⟩; obtain rfl := hw.symm; clear hw) | (go_at_call 8; refine (awake12.go _).mono ?_; rintro e w1 ⟨rfl, hb1⟩))
  go_ret
  exact ⟨rfl, hb1⟩
set_option maxHeartbeats 3200000 in
set_option maxRecDepth 100000 in
theorem mp_core (a : Option Addr) (n cap h q : Nat) (i c : Int) (f : Nat → ByteArray) (hh : h ≤ 12) (hn : n = 2 ^ h) (hn16 : n ≤ 16) (hs : ∀ i, i < n → (f i).size ≤ 100) (t1 : i.tmod (n : Int) = c) (c1 : -16 ≤ c) (c2 : c ≤ 16) (t2 : (c + (n : Int)).tmod (n : Int) = (q : Int)) (hq : q < n)
    (W : World) (hX : Txs W a n f) (HF : Hid (Calls Try.prog 6 #[.slice a n cap, .int .i64 16, .int .i64 100] W fun e w' => e = .returned (.bool true) ∧ w' = W)) :
    Calls Try.prog 3 #[.slice a n cap, .int .i64 i] W fun e w' => e = .returned (.bool true) ∧ Below W.heap.size W w' := by
  have HH : Hid (Same 7 #[.int .i64 (n : Int)] (.int .i64 (h : Int))) := height_ok h n hh hn
  have hs' : ∀ i, i < n → (f i).size ≤ 1048575 := fun i hi => by have := hs i hi; omega
  have HR : Hid (∀ g w, Tab w g → Txs w a n f → Calls Try.prog 10 #[.pointer (some ⟨g, 0, none⟩), .slice a n cap] w fun e w' => ∃ G cap' bl, e = .returned (.tuple #[.slice (some ⟨G, 0, none⟩) (h + 1) cap', .int .i64 0]) ∧ h + 1 ≤ cap' ∧ Tree w' G h bl f ∧ Below w.heap.size w w') := fun g w t x => rows_ok g a n cap h f hh hn hs' w t x
  have HO : Hid (∀ g w, Tab w g → Txs w a n f → Calls Try.prog 11 #[.pointer (some ⟨g, 0, none⟩), .slice a n cap] w fun e w' => e = .returned (.tuple #[.string (lv f h 0), .int .i64 0]) ∧ Below w.heap.size w w') := fun g w t x => root_ok g a n cap h f hh hn hs' w t x
  have HP : Hid (∀ G cap' bl w, h + 1 ≤ cap' → Tree w G h bl f → Calls Try.prog 12 #[.slice (some ⟨G, 0, none⟩) (h + 1) cap', .int .i64 (q : Int)] w fun e w' => ∃ b', e = .returned (.tuple #[.slice (some ⟨b', 0, none⟩) h h, .int .i64 0]) ∧ w'.rowIs b' 9 h (fun k => .string (lv f k (sib q k))) ∧ Below w.heap.size w w') := fun G cap' bl w hc t => by
    refine (path_ok (some ⟨G, 0, none⟩) h cap' q _ _ _ _ (by rw [hn] at hq; exact hq) hc (by omega) (fun k _ => Nat.le_trans (szr_le hh k) (by decide)) ?_ (szr_top h) w t.gr).mono ?_
    · unfold hvB
      rw [List.all_eq_true]
      intro k hk
      have : k < h := by simpa using hk
      simp [szr_step this]
    · rintro e w' ⟨b', rfl, _, hr, hb⟩
      exact ⟨b', rfl, hr, hb⟩
  have HC : Hid (∀ g b' w, Tab w g → w.rowIs b' 9 h (fun k => .string (lv f k (sib q k))) → Calls Try.prog 13 #[.pointer (some ⟨g, 0, none⟩), .string (lv f h 0), .int .i64 (h : Int), .int .i64 (q : Int), .string (f q), .slice (some ⟨b', 0, none⟩) h h] w fun e w' => e = .returned (.bool true) ∧ Below w.heap.size w w') := fun g b' w t r => by
    have := check_any g (some ⟨b', 0, none⟩) h h q (lv f h 0) (f q) (fun k => lv f k (sib q k)) hh (by rw [← hn]; exact hq) (hs' q hq) (fun k _ => lv_size f k _) w t (Txs.of_row r)
    rw [clv_path f q h, show q / 2 ^ h = 0 by rw [← hn]; exact Nat.div_eq_of_lt hq] at this
    simpa using this
  obtain ⟨bq, oq, rfl, hbq, cq⟩ := hX.cells q hq
  have HX : Hid (Txs W (some ⟨bq, oq, none⟩) n f) := hX
  have n0 : ¬ (n : Int) = 0 := by omega
  have n1 : ¬ n = 0 := by omega
  have q1 : (q : Int) < (n : Int) := by omega
  have h0 : ¬ (h : Int) < 0 := by omega
  clear hX hs hs' hn hq
  generalize lv f h 0 = r at *
  generalize f q = sq at *
  go_enter Try.func3, Try.ntmps3
  go_wp2_with (first
    | (go_at_call 6; refine HF.out.mono ?_; rintro e w9 ⟨rfl, hw⟩; obtain rfl := hw.symm; clear hw)
    | (go_at_call 7; refine (HH.out _).mono ?_; rintro e w9 ⟨rfl, hw⟩; obtain rfl := hw.symm; clear hw)
    | (go_at_call 8; refine (awake12.go _).mono ?_; rintro e w1 ⟨rfl, hb1⟩)
    | (go_at_call 9; refine (make_any _).mono ?_; rintro e w2 ⟨g, rfl, hg, ht, hb2⟩; have HT : Hid (Hold W w2 g) := ⟨ht, hb1.trans (hb2.mono hb1.size)⟩; clear ht hb2 hb1)
    | (go_at_call 10; refine (HR.out _ _ HT.out.t (HX.out.below HT.out.d)).mono ?_; rintro e w3 ⟨G, cap', bl, rfl, hcp, hTr, hb3⟩; have HT3 : Hid (Hold W w3 g) := HT.out.below hb3; have HTr : Hid (Tree w3 G h bl f) := hTr; clear hTr hb3 HT)
    | (go_at_call 11; refine (HO.out _ _ HT3.out.t (HX.out.below HT3.out.d)).mono ?_; rintro e w4 ⟨rfl, hb4⟩; have HT4 : Hid (Hold W w4 g) := HT3.out.below hb4; have HTr4 : Hid (Tree w4 G h bl f) := HTr.out.below hb4; clear hb4 HT3 HTr)
    | (go_at_call 12; refine (HP.out _ _ _ _ hcp HTr4.out).mono ?_; rintro e w5 ⟨b', rfl, hr5, hb5⟩; have HT5 : Hid (Hold W w5 g) := HT4.out.below hb5; have HR5 : Hid (w5.rowIs b' 9 h (fun k => .string (lv f k (sib q k)))) := hr5; have d5 := keepc HT5.out.d cq; clear hb5 HT4 HTr4 hr5)
    | (go_at_call 13; refine (HC.out _ _ _ HT5.out.t HR5.out).mono ?_; rintro e w6 ⟨rfl, hb6⟩; have HT6 : Hid (Hold W w6 g) := HT5.out.below hb6; clear hb6))
  go_ret
  exact ⟨rfl, HT6.out.d⟩
theorem mp_any (a : Option Addr) (ss : List ByteArray) (cap : Nat) (i : Int) (hm : ss.length ≤ maxLen) (W : World) (h : StrRow W a ss) :
    Calls Try.prog 3 #[.slice a ss.length cap, .int .i64 i] W fun e w' => e = .returned (.bool true) ∧ Below W.heap.size W w' := by
  cases hf : fewB ss 16 100
  · exact mp_few a ss cap i hm W h hf
  · rcases fil_cases ss.length with ⟨_, k, hk, hn⟩ | ⟨_, hn⟩
    · obtain ⟨h16, hs⟩ := fewB_of hf
      have hp : 0 < ss.length := by rw [hn]; exact Nat.two_pow_pos k
      have b1 := Int.lt_tmod_of_pos i (show (0 : Int) < (ss.length : Int) by omega)
      have b2 := Int.tmod_lt_of_pos i (show (0 : Int) < (ss.length : Int) by omega)
      have hnn : 0 ≤ i.tmod (ss.length : Int) + (ss.length : Int) := by omega
      have b3 := Int.tmod_lt_of_pos (i.tmod (ss.length : Int) + (ss.length : Int)) (show (0 : Int) < (ss.length : Int) by omega)
      have b4 := Int.tmod_nonneg (ss.length : Int) hnn
      refine mp_core a ss.length cap k ((i.tmod (ss.length : Int) + (ss.length : Int)).tmod (ss.length : Int)).toNat i (i.tmod (ss.length : Int)) _ hk hn (by omega) (fun i hi => ?_) rfl (by omega) (by omega) (by omega) (by omega) W h.txs ?_
      · have := hs (ss.getD i ByteArray.empty) (by simp [List.getD_eq_getElem?_getD, hi])
        omega
      · have := few_any a ss cap 16 100 hm W h
        rw [hf] at this
        exact this
    · exact mp_no a ss cap i hm W h hf hn
end Go.Proofs.Ytfepgoddoohpbaa
