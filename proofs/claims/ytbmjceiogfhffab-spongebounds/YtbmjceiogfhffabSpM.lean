/- The contracts of sponge's Sum and Stream at a text that is too long, and the walk of the law SpongeBounds, over the seat's translation. -/
import Derived.Test.YtbmjceiogfhffabSpG
import Derived.Test.YtbmjceiogfhffabOctNum
import Derived.Laws.IdiomStrings
import Derived.Deep.OwnRows
import Derived.OwnWalk
namespace Go.Proofs.Ytbmjceiogfhffab
open Go.RowKit

theorem sum_long (g : Nat) (s : ByteArray) (hs : 1048576 < s.size) : Same 10 #[.pointer (some ⟨g, 0, none⟩), .string s] (.string (ByteArray.mk #[])) := by
  intro W
  have h1 : (1048576 : Int) < (s.size : Int) := by omega
  go_enter Try.func10, Try.ntmps10
  go_wp2
  go_ret
  exact ⟨rfl, rfl⟩
theorem numS_zero : numS 0 = ByteArray.mk #[0, 0, 0, 0] := by decide +kernel
theorem stream_long (g : Nat) (s : ByteArray) (hs : 1048572 < s.size) (hz : s.size ≤ 1000000000000) : Ret 9 #[.pointer (some ⟨g, 0, none⟩), .string s, .int .i64 1] (.string (ByteArray.mk #[])) := by
  intro W
  have H1 : Hid (∀ w, Calls Try.prog 11 #[.int .i64 0] w fun e w' => e = .returned (.string (ByteArray.mk #[0, 0, 0, 0])) ∧ Below w.heap.size w w') := fun w => by have := num_any 0 w; rw [numS_zero] at this; exact this
  have h1 : (1048576 : Int) < (s.size : Int) + 4 := by omega
  go_enter Try.func9, Try.ntmps9
  go_wp2_with (go_at_call 11; refine (H1.out _).mono ?_; rintro e w1 ⟨rfl, hb1⟩)
  go_ret
  exact ⟨rfl, hb1⟩
/-- Zeros are laid, and they can be read as a text. -/
theorem wp_zeros {ops : Array Oper} {rest : List Oper} {o : Oper} {a : Act} {w : World} {Q : Exit → Act → World → Prop} (n : Nat) (hn : n ≤ 16777216) (c : Int) (hc : c = (n : Int)) (hg : o.guard = none) (ho : o.op = .makeSlice 25 (.const (.int .i64 c)) (.const (.int .i64 c)))
    (h : ∀ (m : Nat) (s : ByteArray) (w' : World), s.size = n → (convert 25 9 (.slice (some ⟨w.heap.size, 0, none⟩) m m)).run Try.prog w' = .ok (.string s) w' → Below w.heap.size w w' →
      wpList Try.prog ops Q rest (a.put o.dst (.slice (some ⟨w.heap.size, 0, none⟩) m m)) w') : wpList Try.prog ops Q (o :: rest) a w := by
  have hinfo : (Try.prog.info? 5).map (fun i => (i.zero, i.size, i.bytes)) = some (some (.int .u8 0), 1, 1) := by kernel_rfl
  obtain ⟨i, hi, hz, hs, hb⟩ := info_parts hinfo
  subst hc
  have hr := run_makeSlice (P := Try.prog) w 25 5 i (.int .u8 0) Try.underlying25 hi hz .i64 .i64 (n : Int) (n : Int) (by omega) (Int.le_refl _) (by rw [hs]; simp; omega) (by rw [hb]; omega) (by omega)
  rw [hs, Int.toNat_natCast, Nat.mul_one] at hr
  have hrow := World.rowIs_made w (.int .u8 0) n 5
  have hcv := run_convert_bytes_back (P := Try.prog) (w.alloc (.cells (madeCells #[.int .u8 0] n) 5)) 25 9 5 ⟨w.heap.size, 0, none⟩ n (List.replicate n (0 : UInt8)) Try.underlying25 Try.underlying5 Try.underlying9 (fun j hj => by
    have hj' : j < n := by simpa using hj
    rw [Addr.add_mid, Nat.zero_add, hrow.cell hj']
    simp)
  rw [List.length_replicate] at hcv
  refine wpList_plain hg fun _ hK => ?_
  unfold Oper.wp execOp
  simp only [ho]
  have hk := h n _ _ (by show (List.replicate n (0 : UInt8)).toArray.size = n; simp) hcv ((Below.refl _ w).alloc (Nat.le_refl _) _)
  have hr2 : (Instr.makeSlice 25 (.int .i64 (n : Int)) (.int .i64 (n : Int))).run Try.prog w = .ok (.slice (some ⟨w.heap.size, 0, none⟩) n n) (w.alloc (.cells (madeCells #[.int .u8 0] n) 5)) := hr
  clear hr hcv hrow h
  generalize w.alloc (.cells (madeCells #[.int .u8 0] n) 5) = w2 at *
  simp [go_sem, hr2]
  exact hK _ _ hk
set_option maxHeartbeats 1600000 in
theorem sb_neg (n : Int) (q : Int) (hq : q = 0) (hn : n < 0) (HA : Hid (Ret 5 #[] (.bool true))) (HM : Hid (∀ W, Calls Try.prog 7 #[] W fun e w' => ∃ g, e = .returned (.pointer (some ⟨g, 0, none⟩)) ∧ Below W.heap.size W w'))
    (HB : Hid (Same 8 #[.int .i64 n] (.int .i64 q))) :
    Ret 4 #[.int .i64 n] (.bool true) := by
  intro W
  have H1 : Hid (∀ w, Calls Try.prog 11 #[.int .i64 0] w fun e w' => e = .returned (.string (ByteArray.mk #[0, 0, 0, 0])) ∧ Below w.heap.size w w') := fun w => by have := num_any 0 w; rw [numS_zero] at this; exact this
  have HS : Hid (∀ g s, s.size = 1048573 → Ret 9 #[.pointer (some ⟨g, 0, none⟩), .string s, .int .i64 1] (.string (ByteArray.mk #[]))) := fun g s h => stream_long g s (by omega) (by omega)
  have HU : Hid (∀ g s, s.size = 1048573 → Same 10 #[.pointer (some ⟨g, 0, none⟩), .string (s ++ ByteArray.mk #[0, 0, 0, 0])] (.string (ByteArray.mk #[]))) := fun g s h => sum_long g _ (by rw [ByteArray.size_append, h]; decide)
  subst hq
  have h1 : ¬ 0 ≤ n := by omega
  go_enter Try.func4, Try.ntmps4
  go_wp2_with (first | (go_at_call 5; refine (HA.out.go _).mono ?_; rintro e w1 ⟨rfl, hb1⟩; have D : Hid (Below W.heap.size W w1) := hb1; clear hb1) | (refine wp_zeros 1048573 (by omega) _ rfl rfl rfl ?_; intro m s w2 hs hcv hb2; have D2 : Hid (Below W.heap.size W w2) := D.out.trans (hb2.mono D.out.size); clear D hb2; have D := D2; clear D2; have S0 : Hid (s.size = 1048573) := hs; have hs2 : s.size ≤ 2000000 := (by omega); clear hs) | (go_at_call 7; refine (HM.out _).mono ?_; rintro e w3 ⟨g, rfl, hb3⟩; have D2 : Hid (Below W.heap.size W w3) := D.out.trans (hb3.mono D.out.size); clear D hb3; have D := D2; clear D2) | (go_at_call 8; refine (HB.out.go _).mono ?_; rintro e w4 ⟨rfl, rfl⟩) | (go_at_call 9; refine ((HS.out _ _ S0.out).go _).mono ?_; rintro e w5 ⟨rfl, hb5⟩; have D2 : Hid (Below W.heap.size W w5) := D.out.trans (hb5.mono D.out.size); clear D hb5; have D := D2; clear D2) | (go_at_call 11; refine (H1.out _).mono ?_; rintro e w6 ⟨rfl, hb6⟩; have D2 : Hid (Below W.heap.size W w6) := D.out.trans (hb6.mono D.out.size); clear D hb6; have D := D2; clear D2) | (go_at_call 10; refine ((HU.out _ _ S0.out).go _).mono ?_; rintro e w7 ⟨rfl, rfl⟩))
  go_ret
  exact ⟨rfl, D.out⟩
set_option maxHeartbeats 1600000 in
theorem sb_far (n : Int) (q : Int) (hq : q = 0) (hn : 1048576 < n) (HA : Hid (Ret 5 #[] (.bool true))) (HM : Hid (∀ W, Calls Try.prog 7 #[] W fun e w' => ∃ g, e = .returned (.pointer (some ⟨g, 0, none⟩)) ∧ Below W.heap.size W w'))
    (HB : Hid (Same 8 #[.int .i64 n] (.int .i64 q))) :
    Ret 4 #[.int .i64 n] (.bool true) := by
  intro W
  have H1 : Hid (∀ w, Calls Try.prog 11 #[.int .i64 0] w fun e w' => e = .returned (.string (ByteArray.mk #[0, 0, 0, 0])) ∧ Below w.heap.size w w') := fun w => by have := num_any 0 w; rw [numS_zero] at this; exact this
  have HS : Hid (∀ g s, s.size = 1048573 → Ret 9 #[.pointer (some ⟨g, 0, none⟩), .string s, .int .i64 1] (.string (ByteArray.mk #[]))) := fun g s h => stream_long g s (by omega) (by omega)
  have HU : Hid (∀ g s, s.size = 1048573 → Same 10 #[.pointer (some ⟨g, 0, none⟩), .string (s ++ ByteArray.mk #[0, 0, 0, 0])] (.string (ByteArray.mk #[]))) := fun g s h => sum_long g _ (by rw [ByteArray.size_append, h]; decide)
  subst hq
  have h1 : 0 ≤ n := by omega
  have h2 : ¬ n ≤ 1048576 := by omega
  go_enter Try.func4, Try.ntmps4
  go_wp2_with (first | (go_at_call 5; refine (HA.out.go _).mono ?_; rintro e w1 ⟨rfl, hb1⟩; have D : Hid (Below W.heap.size W w1) := hb1; clear hb1) | (refine wp_zeros 1048573 (by omega) _ rfl rfl rfl ?_; intro m s w2 hs hcv hb2; have D2 : Hid (Below W.heap.size W w2) := D.out.trans (hb2.mono D.out.size); clear D hb2; have D := D2; clear D2; have S0 : Hid (s.size = 1048573) := hs; have hs2 : s.size ≤ 2000000 := (by omega); clear hs) | (go_at_call 7; refine (HM.out _).mono ?_; rintro e w3 ⟨g, rfl, hb3⟩; have D2 : Hid (Below W.heap.size W w3) := D.out.trans (hb3.mono D.out.size); clear D hb3; have D := D2; clear D2) | (go_at_call 8; refine (HB.out.go _).mono ?_; rintro e w4 ⟨rfl, rfl⟩) | (go_at_call 9; refine ((HS.out _ _ S0.out).go _).mono ?_; rintro e w5 ⟨rfl, hb5⟩; have D2 : Hid (Below W.heap.size W w5) := D.out.trans (hb5.mono D.out.size); clear D hb5; have D := D2; clear D2) | (go_at_call 11; refine (H1.out _).mono ?_; rintro e w6 ⟨rfl, hb6⟩; have D2 : Hid (Below W.heap.size W w6) := D.out.trans (hb6.mono D.out.size); clear D hb6; have D := D2; clear D2) | (go_at_call 10; refine ((HU.out _ _ S0.out).go _).mono ?_; rintro e w7 ⟨rfl, rfl⟩))
  go_ret
  exact ⟨rfl, D.out⟩
set_option maxHeartbeats 1600000 in
theorem sb_in1 (n : Int) (q : Int) (h0 : 0 ≤ n) (h2 : n ≤ 1048576) (h55 : ¬ 55 < n % 64) (hq : n / 64 + 1 = q) (HA : Hid (Ret 5 #[] (.bool true))) (HM : Hid (∀ W, Calls Try.prog 7 #[] W fun e w' => ∃ g, e = .returned (.pointer (some ⟨g, 0, none⟩)) ∧ Below W.heap.size W w'))
    (HB : Hid (Same 8 #[.int .i64 n] (.int .i64 q))) :
    Ret 4 #[.int .i64 n] (.bool true) := by
  intro W
  have H1 : Hid (∀ w, Calls Try.prog 11 #[.int .i64 0] w fun e w' => e = .returned (.string (ByteArray.mk #[0, 0, 0, 0])) ∧ Below w.heap.size w w') := fun w => by have := num_any 0 w; rw [numS_zero] at this; exact this
  have HS : Hid (∀ g s, s.size = 1048573 → Ret 9 #[.pointer (some ⟨g, 0, none⟩), .string s, .int .i64 1] (.string (ByteArray.mk #[]))) := fun g s h => stream_long g s (by omega) (by omega)
  have HU : Hid (∀ g s, s.size = 1048573 → Same 10 #[.pointer (some ⟨g, 0, none⟩), .string (s ++ ByteArray.mk #[0, 0, 0, 0])] (.string (ByteArray.mk #[]))) := fun g s h => sum_long g _ (by rw [ByteArray.size_append, h]; decide)
  have h1 : 0 ≤ n := h0
  have t1 : n.tdiv 64 = n / 64 := Int.tdiv_eq_ediv_of_nonneg h0
  have t2 : n.tmod 64 = n % 64 := Int.tmod_eq_emod_of_nonneg h0
  have d1 : n.tdiv 64 + 1 = q := by rw [t1]; exact hq
  have r1 : ¬ 55 < n.tmod 64 := by rw [t2]; exact h55
  have b1 : n / 64 ≤ 20000 := by omega
  have b2 : 0 ≤ n / 64 := by omega
  go_enter Try.func4, Try.ntmps4
  go_wp2_with (first | (go_at_call 5; refine (HA.out.go _).mono ?_; rintro e w1 ⟨rfl, hb1⟩; have D : Hid (Below W.heap.size W w1) := hb1; clear hb1) | (refine wp_zeros 1048573 (by omega) _ rfl rfl rfl ?_; intro m s w2 hs hcv hb2; have D2 : Hid (Below W.heap.size W w2) := D.out.trans (hb2.mono D.out.size); clear D hb2; have D := D2; clear D2; have S0 : Hid (s.size = 1048573) := hs; have hs2 : s.size ≤ 2000000 := (by omega); clear hs) | (go_at_call 7; refine (HM.out _).mono ?_; rintro e w3 ⟨g, rfl, hb3⟩; have D2 : Hid (Below W.heap.size W w3) := D.out.trans (hb3.mono D.out.size); clear D hb3; have D := D2; clear D2) | (go_at_call 8; refine (HB.out.go _).mono ?_; rintro e w4 ⟨rfl, rfl⟩) | (go_at_call 9; refine ((HS.out _ _ S0.out).go _).mono ?_; rintro e w5 ⟨rfl, hb5⟩; have D2 : Hid (Below W.heap.size W w5) := D.out.trans (hb5.mono D.out.size); clear D hb5; have D := D2; clear D2) | (go_at_call 11; refine (H1.out _).mono ?_; rintro e w6 ⟨rfl, hb6⟩; have D2 : Hid (Below W.heap.size W w6) := D.out.trans (hb6.mono D.out.size); clear D hb6; have D := D2; clear D2) | (go_at_call 10; refine ((HU.out _ _ S0.out).go _).mono ?_; rintro e w7 ⟨rfl, rfl⟩))
  go_ret
  exact ⟨rfl, D.out⟩
set_option maxHeartbeats 1600000 in
theorem sb_in2 (n : Int) (q : Int) (h0 : 0 ≤ n) (h2 : n ≤ 1048576) (h55 : 55 < n % 64) (hq : n / 64 + 1 + 1 = q) (HA : Hid (Ret 5 #[] (.bool true))) (HM : Hid (∀ W, Calls Try.prog 7 #[] W fun e w' => ∃ g, e = .returned (.pointer (some ⟨g, 0, none⟩)) ∧ Below W.heap.size W w'))
    (HB : Hid (Same 8 #[.int .i64 n] (.int .i64 q))) :
    Ret 4 #[.int .i64 n] (.bool true) := by
  intro W
  have H1 : Hid (∀ w, Calls Try.prog 11 #[.int .i64 0] w fun e w' => e = .returned (.string (ByteArray.mk #[0, 0, 0, 0])) ∧ Below w.heap.size w w') := fun w => by have := num_any 0 w; rw [numS_zero] at this; exact this
  have HS : Hid (∀ g s, s.size = 1048573 → Ret 9 #[.pointer (some ⟨g, 0, none⟩), .string s, .int .i64 1] (.string (ByteArray.mk #[]))) := fun g s h => stream_long g s (by omega) (by omega)
  have HU : Hid (∀ g s, s.size = 1048573 → Same 10 #[.pointer (some ⟨g, 0, none⟩), .string (s ++ ByteArray.mk #[0, 0, 0, 0])] (.string (ByteArray.mk #[]))) := fun g s h => sum_long g _ (by rw [ByteArray.size_append, h]; decide)
  have h1 : 0 ≤ n := h0
  have t1 : n.tdiv 64 = n / 64 := Int.tdiv_eq_ediv_of_nonneg h0
  have t2 : n.tmod 64 = n % 64 := Int.tmod_eq_emod_of_nonneg h0
  have d1 : n.tdiv 64 + 1 + 1 = q := by rw [t1]; exact hq
  have r1 : 55 < n.tmod 64 := by rw [t2]; exact h55
  have b1 : n / 64 ≤ 20000 := by omega
  have b2 : 0 ≤ n / 64 := by omega
  go_enter Try.func4, Try.ntmps4
  go_wp2_with (first | (go_at_call 5; refine (HA.out.go _).mono ?_; rintro e w1 ⟨rfl, hb1⟩; have D : Hid (Below W.heap.size W w1) := hb1; clear hb1) | (refine wp_zeros 1048573 (by omega) _ rfl rfl rfl ?_; intro m s w2 hs hcv hb2; have D2 : Hid (Below W.heap.size W w2) := D.out.trans (hb2.mono D.out.size); clear D hb2; have D := D2; clear D2; have S0 : Hid (s.size = 1048573) := hs; have hs2 : s.size ≤ 2000000 := (by omega); clear hs) | (go_at_call 7; refine (HM.out _).mono ?_; rintro e w3 ⟨g, rfl, hb3⟩; have D2 : Hid (Below W.heap.size W w3) := D.out.trans (hb3.mono D.out.size); clear D hb3; have D := D2; clear D2) | (go_at_call 8; refine (HB.out.go _).mono ?_; rintro e w4 ⟨rfl, rfl⟩) | (go_at_call 9; refine ((HS.out _ _ S0.out).go _).mono ?_; rintro e w5 ⟨rfl, hb5⟩; have D2 : Hid (Below W.heap.size W w5) := D.out.trans (hb5.mono D.out.size); clear D hb5; have D := D2; clear D2) | (go_at_call 11; refine (H1.out _).mono ?_; rintro e w6 ⟨rfl, hb6⟩; have D2 : Hid (Below W.heap.size W w6) := D.out.trans (hb6.mono D.out.size); clear D hb6; have D := D2; clear D2) | (go_at_call 10; refine ((HU.out _ _ S0.out).go _).mono ?_; rintro e w7 ⟨rfl, rfl⟩))
  go_ret
  exact ⟨rfl, D.out⟩
theorem sb_any (n : Int) : Ret 4 #[.int .i64 n] (.bool true) := by
  have HA : Hid (Ret 5 #[] (.bool true)) := awake11
  have HM : Hid (∀ W, Calls Try.prog 7 #[] W fun e w' => ∃ g, e = .returned (.pointer (some ⟨g, 0, none⟩)) ∧ Below W.heap.size W w') := fun W => (make_any W).mono fun e w' ⟨g, h1, _, _, h2⟩ => ⟨g, h1, h2⟩
  by_cases h0 : n < 0
  · exact sb_neg n 0 rfl h0 HA HM (blocks_no n (.inl h0))
  by_cases h2 : 1048576 < n
  · exact sb_far n 0 rfl h2 HA HM (blocks_no n (.inr h2))
  obtain ⟨k, rfl⟩ : ∃ k : Nat, n = (k : Int) := ⟨n.toNat, by omega⟩
  have HB : Hid (Same 8 #[.int .i64 (k : Int)] (.int .i64 ((nb k : Nat) : Int))) := blocks_ok k (by omega)
  by_cases h55 : 55 < (k : Int) % 64
  · exact sb_in2 k _ (by omega) (by omega) h55 (by unfold nb; omega) HA HM HB
  · exact sb_in1 k _ (by omega) (by omega) h55 (by unfold nb; omega) HA HM HB
end Go.Proofs.Ytbmjceiogfhffab
