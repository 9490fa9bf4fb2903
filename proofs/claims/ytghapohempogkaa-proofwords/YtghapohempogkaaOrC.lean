/- Contracts of octet.ofLowFirst, (*octet.Reader).Elem and Elems over the seat's translation. -/
import Derived.Test.YtghapohempogkaaPOrB
import Derived.Test.YtghapohempogkaaPOctD
import Derived.BigRegion
namespace Go.Proofs.Ytghapohempogkaa
open Go.RowKit

/-- A byte of a text. -/
def byt (s : ByteArray) (i : Nat) : Nat := (s.data.getD i 0).toNat
theorem byt_lt (s : ByteArray) (i : Nat) : byt s i < 256 := by unfold byt; exact UInt8.toNat_lt _
/-- The halves of an element, of the first so many bytes. -/
def lwv (s : ByteArray) : Nat → Nat × Nat
  | 0 => (0, 0)
  | i + 1 => if i < 8 then ((lwv s i).1, (lwv s i).2 + byt s i * 2 ^ (8 * i)) else ((lwv s i).1 + byt s i * 2 ^ (8 * (i - 8)), (lwv s i).2)
theorem lwv_lo (s : ByteArray) : ∀ i, i ≤ 8 → (lwv s i).1 = 0 ∧ (lwv s i).2 < 2 ^ (8 * i)
  | 0, _ => ⟨rfl, by show 0 < 2 ^ (8 * 0); decide⟩
  | i + 1, h => by
    have ih := lwv_lo s i (by omega)
    have hb := byt_lt s i
    unfold lwv
    rw [if_pos (by omega)]
    refine ⟨ih.1, ?_⟩
    show (lwv s i).2 + byt s i * 2 ^ (8 * i) < 2 ^ (8 * (i + 1))
    rw [show 8 * (i + 1) = 8 * i + 8 by omega, Nat.pow_add]
    have : byt s i * 2 ^ (8 * i) ≤ 255 * 2 ^ (8 * i) := Nat.mul_le_mul_right _ (by omega)
    have h2 := ih.2
    generalize 2 ^ (8 * i) = p at *
    omega
theorem lwv_hi (s : ByteArray) : ∀ i, i ≤ 8 → (lwv s (8 + i)).1 < 2 ^ (8 * i) ∧ (lwv s (8 + i)).2 < 2 ^ 64
  | 0, _ => by
    have h := lwv_lo s 8 (Nat.le_refl _)
    exact ⟨by show (lwv s 8).1 < _; rw [h.1]; decide, h.2⟩
  | i + 1, h => by
    have ih := lwv_hi s i (by omega)
    have hb := byt_lt s (8 + i)
    show (lwv s ((8 + i) + 1)).1 < _ ∧ (lwv s ((8 + i) + 1)).2 < _
    unfold lwv
    rw [if_neg (by omega)]
    refine ⟨?_, ih.2⟩
    show (lwv s (8 + i)).1 + byt s (8 + i) * 2 ^ (8 * (8 + i - 8)) < 2 ^ (8 * (i + 1))
    rw [show 8 * (i + 1) = 8 * i + 8 by omega, Nat.pow_add, show 8 + i - 8 = i by omega]
    have : byt s (8 + i) * 2 ^ (8 * i) ≤ 255 * 2 ^ (8 * i) := Nat.mul_le_mul_right _ (by omega)
    have h2 := ih.1
    generalize 2 ^ (8 * i) = p at *
    omega
theorem Ew.setLo {w : World} {q h l : Nat} (e : Ew w q h l) (x : Nat) : Ew (w.setCell ⟨q, 1, none⟩ (.int .u64 (x : Int))).drew q h x := by
  obtain ⟨⟨h1, h0⟩, f1, f0⟩ := e
  exact ⟨⟨by simp [go_sem, *], by simp [go_sem, *]⟩, by simp [go_sem, *], by simp [go_sem, *]⟩
theorem Ew.setHi {w : World} {q h l : Nat} (e : Ew w q h l) (x : Nat) : Ew (w.setCell ⟨q, 0, none⟩ (.int .u64 (x : Int))).drew q x l := by
  obtain ⟨⟨h1, h0⟩, f1, f0⟩ := e
  exact ⟨⟨by simp [go_sem, *], by simp [go_sem, *]⟩, by simp [go_sem, *], by simp [go_sem, *]⟩
theorem Ew.offO {w : World} {q r h l o : Nat} (e : Ew w r h l) (hn : r < q) (v : Value) : Ew (w.setCell ⟨q, o, none⟩ v).drew r h l := by
  obtain ⟨⟨h1, h0⟩, f1, f0⟩ := e
  have hn1 : ¬ q = r := by omega
  have hn2 : ¬ r = q := by omega
  exact ⟨⟨by simp [go_sem, *], by simp [go_sem, *]⟩, by simp [go_sem, *], by simp [go_sem, *]⟩
theorem or_disj (x y n : Nat) (hx : x < 2 ^ n) (hn : n + 8 ≤ 64) (hy : y < 256) : bits .or .u64 (x : Int) (IntKind.u64.wrap ((y : Int) * 2 ^ n)) = ((x + y * 2 ^ n : Nat) : Int) := by
  have hp : 2 ^ (n + 8) ≤ 2 ^ 64 := Nat.pow_le_pow_right (by decide) hn
  rw [Nat.pow_add] at hp
  have h1 : y * 2 ^ n < 2 ^ 64 := by
    have : y * 2 ^ n ≤ 255 * 2 ^ n := Nat.mul_le_mul_right _ (by omega)
    have h0 : 0 < 2 ^ n := Nat.two_pow_pos _
    omega
  have h2 : x < 2 ^ 64 := Nat.lt_of_lt_of_le hx (Nat.pow_le_pow_right (by decide) (by omega))
  have e2 : IntKind.u64.wrap ((y : Int) * 2 ^ n) = ((y * 2 ^ n : Nat) : Int) := by
    rw [IntKind.wrap_u64, show (y : Int) * 2 ^ n = ((y * 2 ^ n : Nat) : Int) by simp]
    omega
  rw [e2, u64_or_nat _ _ (by simpa using h2) (by simpa using h1)]
  have h3 := Nat.two_pow_add_eq_or_of_lt hx y
  rw [Nat.mul_comm y, Nat.or_comm, ← h3, Nat.add_comm]
set_option maxHeartbeats 4000000 in
set_option maxRecDepth 100000 in
theorem low_first (s : ByteArray) (hs : s.size ≤ 16) (W : World) : Calls Try.prog 51 #[.string s] W fun e w' => e = .returned (.agg #[.int .u64 ((lwv s s.size).1 : Int), .int .u64 ((lwv s s.size).2 : Int)]) ∧ Below W.heap.size W w' := by
  go_enter Try.func51, Try.ntmps51
  have K0 : Hid (Ew ((W.alloc (Obj.cells #[.int .u64 0, .int .u64 0] 65)).alloc (Obj.cells #[.int .u64 0, .int .u64 0] 65)) W.heap.size 0 0 ∧ Ew ((W.alloc (Obj.cells #[.int .u64 0, .int .u64 0] 65)).alloc (Obj.cells #[.int .u64 0, .int .u64 0] 65)) (W.heap.size + 1) (lwv s 0).1 (lwv s 0).2 ∧ Below W.heap.size W ((W.alloc (Obj.cells #[.int .u64 0, .int .u64 0] 65)).alloc (Obj.cells #[.int .u64 0, .int .u64 0] 65))) := ⟨⟨⟨by simp [go_sem], by simp [go_sem]⟩, by simp [go_sem], by simp [go_sem]⟩, ⟨⟨by simp [go_sem, lwv], by simp [go_sem, lwv]⟩, by simp [go_sem], by simp [go_sem]⟩, ((Below.refl _ _).alloc (Nat.le_refl _) _).alloc (by simp) _⟩
  go_wp2
  generalize (W.alloc (Obj.cells #[.int .u64 0, .int .u64 0] 65)).alloc (Obj.cells #[.int .u64 0, .int .u64 0] 65) = wb at *
  go_loopw [7] (fun u wr => ∃ i : Nat, i ≤ s.size ∧ u = .int .i64 i ∧ Hid (Ew wr W.heap.size 0 0 ∧ Ew wr (W.heap.size + 1) (lwv s i).1 (lwv s i).2 ∧ Below W.heap.size W wr)) (fun u _ => s.size - (intOf u).toNat)
  case atStart => exact ⟨0, Nat.zero_le _, rfl, K0⟩
  case round =>
    obtain ⟨i, hi, rfl, HK⟩ := hrel
    clear K0
    by_cases hlt : i < s.size
    · have i1 : (i : Int) < (s.size : Int) := by omega
      have i0' : (0 : Int) ≤ (i : Int) := by omega
      obtain ⟨⟨x1, x0⟩, f1, f0⟩ := HK.out.2.1
      by_cases h8 : i < 8
      · have i8 : (i : Int) < 8 := by omega
        have e8 : IntKind.i64.wrap (8 * (i : Int)) = ((8 * i : Nat) : Int) := by rw [IntKind.wrap_i64]; omega
        have e9 : ¬ ((8 * i : Nat) : Int) < 0 := by omega
        go_upto_region 6 with fail
        have HB2 : Hid ((lwv s i).2 < 2 ^ (8 * i)) := (lwv_lo s i (by omega)).2
        have HN : Hid (lwv s (i + 1) = ((lwv s i).1, (lwv s i).2 + byt s i * 2 ^ (8 * i))) := by show _ = _; show (if i < 8 then _ else _) = _; rw [if_pos h8]
        generalize (lwv s i).1 = h at *
        generalize (lwv s i).2 = lo at *
        have hbx : s[i].toNat < 256 := s[i].toNat_lt
        have HO := hidR (or_disj lo s[i].toNat (8 * i) HB2.out (by omega) hbx)
        have HV : Hid (byt s i = s[i].toNat) := by show _ = _; unfold byt; congr 1; simp [Array.getD, hlt]; rfl
        go_region
        go_wp2
        rw [HO.out]
        refine ⟨⟨i + 1, hlt, by simp, ⟨HK.out.1.offO (by omega) _, ?_, (HK.out.2.2.setCell (p := ⟨W.heap.size + 1, 1, none⟩) (by simp) _).drew⟩⟩, by simp [intOf]; omega⟩
        rw [HN.out, HV.out]
        exact HK.out.2.1.setLo _
      · have i8 : ¬ (i : Int) < 8 := by omega
        obtain ⟨j, hij⟩ : ∃ j, i = 8 + j := ⟨i - 8, by omega⟩
        have e7 : IntKind.i64.wrap ((i : Int) - 8) = (j : Int) := by rw [IntKind.wrap_i64]; omega
        have e8 : IntKind.i64.wrap (8 * (j : Int)) = ((8 * j : Nat) : Int) := by rw [IntKind.wrap_i64]; omega
        have e9 : ¬ ((8 * j : Nat) : Int) < 0 := by omega
        have j0 : (0 : Int) ≤ (j : Int) := by omega
        have j8 : (j : Int) < 8 := by omega
        have j9 : j < 8 := by omega
        have HB2 : Hid ((lwv s i).1 < 2 ^ (8 * j)) := by show _ < _; rw [hij]; exact (lwv_hi s j (by omega)).1
        have HN : Hid (lwv s (i + 1) = ((lwv s i).1 + byt s i * 2 ^ (8 * j), (lwv s i).2)) := by show _ = _; show (if i < 8 then _ else _) = _; rw [if_neg h8, show i - 8 = j by omega]
        have HIJ : Hid (i = 8 + j) := hij
        clear hij
        go_upto_region 7 with fail
        generalize (lwv s i).1 = h at *
        generalize (lwv s i).2 = lo at *
        have hbx : s[i].toNat < 256 := s[i].toNat_lt
        have HO := hidR (or_disj h s[i].toNat (8 * j) HB2.out (by have := HIJ.out; omega) hbx)
        have HV : Hid (byt s i = s[i].toNat) := by show _ = _; unfold byt; congr 1; simp [Array.getD, hlt]; rfl
        go_region
        go_wp2
        rw [HO.out]
        refine ⟨⟨i + 1, hlt, by simp, ⟨HK.out.1.offO (by omega) _, ?_, (HK.out.2.2.setCell (p := ⟨W.heap.size + 1, 0, none⟩) (by simp) _).drew⟩⟩, by simp [intOf]; omega⟩
        rw [HN.out, HV.out]
        exact HK.out.2.1.setHi _
    · obtain rfl : i = s.size := by omega
      obtain ⟨⟨x1, x0⟩, _, _⟩ := HK.out.2.1
      obtain ⟨⟨r1, r0⟩, f1, f0⟩ := HK.out.1
      go_wp2
      refine bodyPost_ret (v := .agg #[.int .u64 ((lwv s s.size).1 : Int), .int .u64 ((lwv s s.size).2 : Int)]) (by simp [results, Try.results51, go_sem, *]) rfl ⟨rfl, (HK.out.2.2.setCell (p := ⟨W.heap.size, 0, none⟩) (Nat.le_refl _) _).setCell (p := ⟨W.heap.size, 1, none⟩) (Nat.le_refl _) _⟩
end Go.Proofs.Ytghapohempogkaa
