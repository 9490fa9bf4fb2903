/- Contracts of steepleref01.Num, Text, List and of steeplelaw01.Few over the seat's translation. -/
import Derived.Test.YtopmkooegpaeaaaGreatOctL
namespace Go.Proofs.YtopmkooegpaeaaaGreat
open Go.RowKit

set_option maxHeartbeats 400000 in
set_option maxRecDepth 100000 in
theorem rnum_ok (n : Int) (h0 : 0 ≤ n) (h1 : n ≤ 2147483647) (w : World) : Calls Tryz.prog 53 #[.int .i64 n] w fun e w' => e = .returned (.string (strOfNums (numL n))) ∧ Below w.heap.size w w' := by
  have g := run_convert_bytes_arg (P := Tryz.prog) (w.alloc (Obj.cells #[.int .u8 (n / 16777216), .int .u8 (n / 65536 % 256), .int .u8 (n / 256 % 256), .int .u8 (n % 256)] 5)) 51 5 Tryz.underlying51 Tryz.underlying5 w.heap.size 0 4 4 (numL n) rfl (by
    intro i hi
    match i, hi with
    | 0, _ => simp [go_sem, numL]
    | 1, _ => simp [go_sem, numL]
    | 2, _ => simp [go_sem, numL]
    | 3, _ => simp [go_sem, numL]) 9 Tryz.underlying9
  go_enter Tryz.func53, Tryz.ntmps53
  go_wp2
  go_ret
  exact ⟨rfl, (Below.refl _ _).alloc (Nat.le_refl _) _⟩
set_option maxHeartbeats 400000 in
theorem rnum_bad (n : Int) (h : n < 0 ∨ 2147483647 < n) (w : World) : Calls Tryz.prog 53 #[.int .i64 n] w fun e w' => e = .returned (.string ⟨#[]⟩) ∧ w' = w := by
  rcases h with h | h
  · go_enter Tryz.func53, Tryz.ntmps53
    go_wp2
    go_ret
    exact ⟨rfl, rfl⟩
  · have h2 : ¬ n < 0 := by omega
    go_enter Tryz.func53, Tryz.ntmps53
    go_wp2
    go_ret
    exact ⟨rfl, rfl⟩
theorem rnum_any (n : Int) (w : World) : Calls Tryz.prog 53 #[.int .i64 n] w fun e w' => e = .returned (.string (numS n)) ∧ Below w.heap.size w w' := by
  by_cases h : 0 ≤ n ∧ n ≤ 2147483647
  · rw [numS_ok n h.1 h.2]
    exact rnum_ok n h.1 h.2 w
  · rw [numS_bad n (by omega)]
    refine (rnum_bad n (by omega) w).mono ?_
    rintro e w' ⟨rfl, rfl⟩
    exact ⟨rfl, Below.refl _ _⟩
set_option maxHeartbeats 400000 in
theorem rtext_any (s : ByteArray) (hs : s.size ≤ 140737488355328) (w : World) : Calls Tryz.prog 54 #[.string s] w fun e w' => e = .returned (.string (textS s)) ∧ Below w.heap.size w w' := by
  have hz := numS_size s.size
  go_enter Tryz.func54, Tryz.ntmps54
  go_wp2_with (go_at_call 53; refine (rnum_any _ _).mono ?_; rintro e w1 ⟨rfl, hb⟩)
  go_ret
  exact ⟨rfl, hb⟩

theorem ret_str {a b : ByteArray} (h : a = b) : Ending.returned (.string a) = .returned (.string b) := by rw [h]
theorem ba_ext {a b : ByteArray} (h : a.data.toList = b.data.toList) : a = b := by
  cases a; cases b; simp at h; subst h; rfl
theorem data_append (a b : ByteArray) : (a ++ b).data.toList = a.data.toList ++ b.data.toList := by simp
theorem data_size (x : ByteArray) : x.data.toList.length = x.size := by rw [Array.length_toList]; rfl

set_option maxHeartbeats 1000000 in
set_option maxRecDepth 100000 in
theorem rlist_row (b off : Nat) (ss : List ByteArray) (cap : Nat) (hn : ss.length ≤ 1000) (hs : ∀ s ∈ ss, s.size ≤ 10000) (w : World) (hb : b < w.heap.size) (hc : ∀ i, i < ss.length → w.cell? ⟨b, off + i, none⟩ = some (.string (ss.getD i ByteArray.empty))) :
    Calls Tryz.prog 27 #[.slice (some ⟨b, off, none⟩) ss.length cap] w fun e w' => e = .returned (.string ⟨(listL ss).toArray⟩) ∧ Below w.heap.size w w' := by
  have HC : Hid (∀ i, i < ss.length → w.cell? ⟨b, off + i, none⟩ = some (.string (ss.getD i ByteArray.empty))) := hc
  have HS : Hid (∀ s ∈ ss, s.size ≤ 10000) := hs
  clear hc hs
  have hz := numS_size ss.length
  go_enter Tryz.func27, Tryz.ntmps27
  go_wp2_with (go_at_call 53; refine (rnum_any _ _).mono ?_; rintro e w1 ⟨rfl, hb1⟩)
  go_loopw [3, 4] (fun u v wr => ∃ (k : Nat) (acc : ByteArray), k ≤ ss.length ∧ v = .int .i64 k ∧ u = .string acc ∧ acc.data.toList = (numS ss.length).data.toList ++ textsL (ss.take k) ∧ Below w.heap.size w wr) (fun _ v _ => ss.length - (intOf v).toNat)
  case atStart =>
    refine ⟨0, _, Nat.zero_le _, rfl, rfl, ?_, hb1⟩
    simp [textsL]
  case round =>
    obtain ⟨k, acc, hk, rfl, rfl, hacc, hbw⟩ := hrel
    by_cases hlt : k < ss.length
    · have hcell : wr.cell? ⟨b, off + k, none⟩ = some (.string (ss.getD k ByteArray.empty)) := by
        rw [hbw.cell (p := ⟨b, off + k, none⟩) hb]; exact HC.out k hlt
      have hsk : (ss.getD k ByteArray.empty).size ≤ 10000 := HS.out _ (by simp [List.getD_eq_getElem?_getD, hlt])
      have hts := take_snoc' ss k hlt
      have hlen := textsL_len (ss.take k) (fun x hx => HS.out x (List.mem_of_mem_take hx))
      have hlk : (ss.take k).length = k := by simp; omega
      rw [hlk] at hlen
      have H : Hid (ss.take (k + 1) = ss.take k ++ [ss.getD k ByteArray.empty]) := hts
      clear hts hlk
      generalize ss.getD k ByteArray.empty = t at *
      generalize ss.take k = pre at *
      have hsz : acc.size ≤ 4 + k * 10004 := by rw [← data_size, hacc, List.length_append, data_size]; omega
      have hz2 : (textS t).size ≤ 10004 := by have := numS_size t.size; unfold textS; rw [ByteArray.size_append]; omega
      have HA : Hid (acc.data.toList = (numS ss.length).data.toList ++ textsL pre) := hacc
      clear hacc
      go_wp2_with (go_at_call 54; refine (rtext_any _ (by omega) _).mono ?_; rintro e w3 ⟨rfl, hb3⟩)
      go_roundw
      case rel =>
        refine ⟨k + 1, _, by omega, by go_num, rfl, ?_, hbw.trans (hb3.mono hbw.size)⟩
        rw [data_append, HA.out, H.out, textsL_snoc, textS, data_append]
        simp
      case measure => simp [intOf]; omega
    · have hke : k = ss.length := by omega
      subst hke
      rw [List.take_length] at hacc
      have HA : Hid (acc = ⟨(listL ss).toArray⟩) := ba_ext (by simpa [listL] using hacc)
      clear hacc
      go_wp2
      go_ret
      exact ⟨ret_str HA.out, hbw⟩
set_option maxHeartbeats 1000000 in
theorem rlist_nil (a : Option Addr) (cap : Nat) (w : World) : Calls Tryz.prog 27 #[.slice a 0 cap] w fun e w' => e = .returned (.string ⟨(listL []).toArray⟩) ∧ Below w.heap.size w w' := by
  go_enter Tryz.func27, Tryz.ntmps27
  go_wp2_with (go_at_call 53; refine (rnum_any _ _).mono ?_; rintro e w1 ⟨rfl, hb1⟩)
  go_rounds 1
  go_ret
  have HA : numS 0 = ⟨(listL []).toArray⟩ := ba_ext (by simp [listL, textsL])
  exact ⟨ret_str HA, hb1⟩
theorem rlist_any (a : Option Addr) (ss : List ByteArray) (cap : Nat) (hn : ss.length ≤ 1000) (hs : ∀ s ∈ ss, s.size ≤ 10000) (w : World) (h : StrRow w a ss) :
    Calls Tryz.prog 27 #[.slice a ss.length cap] w fun e w' => e = .returned (.string ⟨(listL ss).toArray⟩) ∧ Below w.heap.size w w' := by
  rcases h with rfl | ⟨b, off, rfl, hb, hcell⟩
  · exact rlist_nil a cap w
  · exact rlist_row b off ss cap hn hs w hb hcell
end Go.Proofs.YtopmkooegpaeaaaGreat
