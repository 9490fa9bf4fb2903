/- The contracts of merkle's Leaf, Node, fills, leaves and nodes over the seat's translation. -/
import Derived.Test.YthmjbdmnlkbllaaGreatSpG
import Derived.Deep.OwnRows
import Derived.Deep.RegionHeld3
namespace Go.Proofs.YthmjbdmnlkbllaaGreat
open Go.RowKit

/-- A leaf's digest; a node's. -/
def lfv (s : ByteArray) : ByteArray := smv (ByteArray.mk #[0] ++ s)
def ndv (a b : ByteArray) : ByteArray := smv (ByteArray.mk #[1] ++ a ++ b)
theorem lfv_size (s : ByteArray) : (lfv s).size = 32 := fin_size _ _ _
theorem ndv_size (a b : ByteArray) : (ndv a b).size = 32 := fin_size _ _ _
theorem leaf_ok (g : Nat) (s : ByteArray) (hs : s.size ≤ 1048575) (W : World) (hT : Tab W g) :
    Calls Tryz.prog 17 #[.pointer (some ⟨g, 0, none⟩), .string s] W fun e w' => e = .returned (.string (lfv s)) ∧ Below W.heap.size W w' := by
  have h1 : (ByteArray.mk #[0]).size = 1 := rfl
  have hz : (ByteArray.mk #[0] ++ s).size = 1 + s.size := ByteArray.size_append
  have H : Hid (∀ w, Tab w g → Calls Tryz.prog 27 #[.pointer (some ⟨g, 0, none⟩), .string (ByteArray.mk #[0] ++ s)] w fun e w' => e = .returned (.string (lfv s)) ∧ Below w.heap.size w w') := fun w t => sum_ok g _ (by omega) w t
  have HT : Hid (Tab W g) := hT
  clear hT
  generalize lfv s = c at *
  go_enter Tryz.func17, Tryz.ntmps17
  go_wp2_with (go_at_call 27; refine (H.out _ HT.out).mono ?_; rintro e w1 ⟨rfl, hb1⟩)
  go_ret
  exact ⟨rfl, hb1⟩
theorem node_ok (g : Nat) (a b : ByteArray) (ha : a.size ≤ 1000) (hb : b.size ≤ 1000) (W : World) (hT : Tab W g) :
    Calls Tryz.prog 18 #[.pointer (some ⟨g, 0, none⟩), .string a, .string b] W fun e w' => e = .returned (.string (ndv a b)) ∧ Below W.heap.size W w' := by
  have h1 : (ByteArray.mk #[1]).size = 1 := rfl
  have hz : (ByteArray.mk #[1] ++ a).size = 1 + a.size := ByteArray.size_append
  have hy : (ByteArray.mk #[1] ++ a ++ b).size = (ByteArray.mk #[1] ++ a).size + b.size := ByteArray.size_append
  have H : Hid (∀ w, Tab w g → Calls Tryz.prog 27 #[.pointer (some ⟨g, 0, none⟩), .string (ByteArray.mk #[1] ++ a ++ b)] w fun e w' => e = .returned (.string (ndv a b)) ∧ Below w.heap.size w w') := fun w t => sum_ok g _ (by omega) w t
  have HT : Hid (Tab W g) := hT
  clear hT
  generalize ndv a b = c at *
  go_enter Tryz.func18, Tryz.ntmps18
  go_wp2_with (go_at_call 27; refine (H.out _ HT.out).mono ?_; rintro e w1 ⟨rfl, hb1⟩)
  go_ret
  exact ⟨rfl, hb1⟩
theorem sum_nil (s : ByteArray) : Same 27 #[.pointer none, .string s] (.string (ByteArray.mk #[])) := by
  intro W
  go_enter Tryz.func27, Tryz.ntmps27
  go_wp2
  go_ret
  exact ⟨rfl, rfl⟩
theorem leaf_nil (s : ByteArray) (hs : s.size ≤ 1048575) : Same 17 #[.pointer none, .string s] (.string (ByteArray.mk #[])) := by
  intro W
  have h1 : (ByteArray.mk #[0]).size = 1 := rfl
  have H : Hid (Same 27 #[.pointer none, .string (ByteArray.mk #[0] ++ s)] (.string (ByteArray.mk #[]))) := sum_nil _
  go_enter Tryz.func17, Tryz.ntmps17
  go_wp2_with (go_at_call 27; refine (H.out _).mono ?_; rintro e w1 ⟨rfl, rfl⟩)
  go_ret
  exact ⟨rfl, rfl⟩
theorem node_nil (a b : ByteArray) (ha : a.size ≤ 1000) (hb : b.size ≤ 1000) : Same 18 #[.pointer none, .string a, .string b] (.string (ByteArray.mk #[])) := by
  intro W
  have h1 : (ByteArray.mk #[1]).size = 1 := rfl
  have hz : (ByteArray.mk #[1] ++ a).size = 1 + a.size := ByteArray.size_append
  have H : Hid (Same 27 #[.pointer none, .string (ByteArray.mk #[1] ++ a ++ b)] (.string (ByteArray.mk #[]))) := sum_nil _
  go_enter Tryz.func18, Tryz.ntmps18
  go_wp2_with (go_at_call 27; refine (H.out _).mono ?_; rintro e w1 ⟨rfl, rfl⟩)
  go_ret
  exact ⟨rfl, rfl⟩
theorem i64_and_nat (a b : Nat) (ha : a < 9223372036854775808) (hb : b < 9223372036854775808) : bits .and .i64 (a : Int) (b : Int) = ((a &&& b : Nat) : Int) := by
  have hx : a &&& b < 2 ^ 63 := Nat.and_lt_two_pow _ (by omega)
  have h1 : (BitVec.ofInt 64 (a : Int)).toNat = a := by
    rw [BitVec.ofInt_natCast, BitVec.toNat_ofNat]; exact Nat.mod_eq_of_lt (by omega)
  have h2 : (BitVec.ofInt 64 (b : Int)).toNat = b := by
    rw [BitVec.ofInt_natCast, BitVec.toNat_ofNat]; exact Nat.mod_eq_of_lt (by omega)
  show IntKind.i64.wrap ((BitVec.ofInt 64 (a : Int) &&& BitVec.ofInt 64 (b : Int)).toNat : Int) = _
  rw [BitVec.toNat_and, h1, h2, IntKind.wrap_i64]
  omega
theorem i64_xor_nat (a b : Nat) (ha : a < 9223372036854775808) (hb : b < 9223372036854775808) : bits .xor .i64 (a : Int) (b : Int) = ((a ^^^ b : Nat) : Int) := by
  have hx : a ^^^ b < 2 ^ 63 := Nat.xor_lt_two_pow (by omega) (by omega)
  have h1 : (BitVec.ofInt 64 (a : Int)).toNat = a := by
    rw [BitVec.ofInt_natCast, BitVec.toNat_ofNat]; exact Nat.mod_eq_of_lt (by omega)
  have h2 : (BitVec.ofInt 64 (b : Int)).toNat = b := by
    rw [BitVec.ofInt_natCast, BitVec.toNat_ofNat]; exact Nat.mod_eq_of_lt (by omega)
  show IntKind.i64.wrap ((BitVec.ofInt 64 (a : Int) ^^^ BitVec.ofInt 64 (b : Int)).toNat : Int) = _
  rw [BitVec.toNat_xor, h1, h2, IntKind.wrap_i64]
  omega
/-- Do so many leaves fill a tree? -/
def filB (n : Nat) : Bool := decide (0 < n) && decide (n ≤ 4096) && decide (n &&& (n - 1) = 0)
theorem fil_pow (h : Nat) (hh : h ≤ 12) : filB (2 ^ h) = true := by
  have H : ∀ h : Nat, h < 13 → filB (2 ^ h) = true := by decide +kernel
  exact H h (by omega)
theorem two_of : ∀ n : Nat, 0 < n → n &&& (n - 1) = 0 → ∃ h, n = 2 ^ h := by
  intro n
  induction n using Nat.strongRecOn with
  | _ n ih =>
    intro h0 h
    have hd : (n / 2) &&& ((n - 1) / 2) = 0 := by rw [← Nat.and_div_two, h]
    by_cases e : n % 2 = 0
    · rw [show (n - 1) / 2 = n / 2 - 1 by omega] at hd
      obtain ⟨k, hk⟩ := ih (n / 2) (by omega) (by omega) hd
      exact ⟨k + 1, by rw [Nat.pow_succ]; omega⟩
    · rw [show (n - 1) / 2 = n / 2 by omega, Nat.and_self] at hd
      exact ⟨0, by omega⟩
theorem fil_two {n : Nat} (hn : filB n = true) : ∃ h, h ≤ 12 ∧ n = 2 ^ h := by
  simp [filB] at hn
  obtain ⟨h, rfl⟩ := two_of n hn.1.1 hn.2
  refine ⟨h, ?_, rfl⟩
  rcases Nat.lt_or_ge 12 h with h1 | h1
  · have := Nat.pow_le_pow_right (n := 2) (by decide) (show 13 ≤ h from h1)
    omega
  · exact h1
theorem fills_any (n : Nat) : Same 29 #[.int .i64 (n : Int)] (.bool (filB n)) := by
  intro W
  by_cases h0 : 0 < n
  · by_cases h1 : n ≤ 4096
    · have i0 : (0 : Int) < (n : Int) := by omega
      have i1 : (n : Int) ≤ 4096 := by omega
      have hx : bits .and .i64 (n : Int) ((n : Int) - 1) = ((n &&& (n - 1) : Nat) : Int) := by rw [show (n : Int) - 1 = ((n - 1 : Nat) : Int) by omega]; exact i64_and_nat n (n - 1) (by omega) (by omega)
      have HF : Hid (filB n = decide (n &&& (n - 1) = 0)) := by show _ = _; simp [filB, h0, h1]
      generalize n &&& (n - 1) = q at *
      go_enter Tryz.func29, Tryz.ntmps29
      go_wp2
      go_ret
      refine ⟨?_, rfl⟩
      rw [HF.out]
      show Ending.returned (Value.bool ((q : Int) == 0)) = _
      rw [show ((q : Int) == 0) = decide (q = 0) by by_cases e : q = 0 <;> simp [e]]
    · have i0 : (0 : Int) < (n : Int) := by omega
      have i1 : ¬ (n : Int) ≤ 4096 := by omega
      have HF : Hid (filB n = false) := by show _ = _; simp [filB, h1]
      go_enter Tryz.func29, Tryz.ntmps29
      go_wp2
      go_ret
      exact ⟨by rw [HF.out]; rfl, rfl⟩
  · have i0 : ¬ (0 : Int) < (n : Int) := by omega
    have HF : Hid (filB n = false) := by show _ = _; simp [filB, h0]
    go_enter Tryz.func29, Tryz.ntmps29
    go_wp2
    go_ret
    exact ⟨by rw [HF.out]; rfl, rfl⟩
end Go.Proofs.YthmjbdmnlkbllaaGreat
