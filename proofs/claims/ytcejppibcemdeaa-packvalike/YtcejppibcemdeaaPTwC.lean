/- Contract of tower.squares over the seat's translation. -/
import Derived.Test.YtcejppibcemdeaaTwA
import Derived.RegionTactic
import Derived.ChangeAlike
import Derived.Deep.QuietTactic
import Derived.BigQuiet
import Derived.BigRegion
namespace Go.Proofs.Ytcejppibcemdeaa
open Go.RowKit
open Tw (px)

theorem i_sq (n m P L t : Nat) (hP : P = 2 ^ m) (hn : n < 2 ^ 64) (hL : L * P < 2 ^ 64) (ht : t &&& L = t) (hd : (L <<< m) &&& L = 0) :
    bits .xor .u64 (bits .or .u64 (IntKind.u64.wrap ((t : Int) * (P : Int))) (bits .and .u64 (n : Int) (L : Int))) ((n >>> m &&& L : Nat) : Int) = ((((t <<< m) ^^^ (n &&& L)) ^^^ (n >>> m &&& L) : Nat) : Int) := by
  have hp : 1 ≤ P := by rw [hP]; exact Nat.one_le_two_pow
  have hL1 : L < 2 ^ 64 := Nat.lt_of_le_of_lt (Nat.le_mul_of_pos_right L hp) hL
  have h1 : (n &&& L) < 2 ^ 64 := Nat.lt_of_le_of_lt Nat.and_le_right hL1
  have h2 : (n >>> m &&& L) < 2 ^ 64 := Nat.lt_of_le_of_lt Nat.and_le_right hL1
  have h0 : t ≤ L := by rw [← ht]; exact Nat.and_le_right
  have h3 : t * P < 2 ^ 64 := Nat.lt_of_le_of_lt (Nat.mul_le_mul_right P h0) hL
  have e : ((t * P : Nat) : Int) % 18446744073709551616 = ((t * P : Nat) : Int) := by omega
  have h4 : t * P ||| (n &&& L) < 2 ^ 64 := Nat.or_lt_two_pow h3 h1
  rw [u64_and_nat _ _ hn hL1, ← Int.natCast_mul, IntKind.wrap_u64, e, u64_or_nat _ _ h3 h1, u64_xor_nat _ _ h4 h2]
  rw [show t * P = t <<< m by rw [Nat.shiftLeft_eq, hP], Tw.lanes_or ht (Tw.and_and_self n L) hd]

end Go.Proofs.Ytcejppibcemdeaa

/- Contract of tower.multiples over the seat's translation: a word times each element of level 2. -/
namespace Go.Proofs.Ytcejppibcemdeaa
open Go.RowKit
open Tw (px)

theorem x_px (a b n : Nat) : bits .xor .u64 ((px a n : Nat) : Int) ((px b n : Nat) : Int) = ((px (a ^^^ b) n : Nat) : Int) := by
  rw [u64_xor_nat _ _ (Tw.px_lt a n) (Tw.px_lt b n), Tw.px_comm a, Tw.px_comm b, Tw.px_comm (a ^^^ b), Tw.px_lin n a b]
theorem x_0 (a : Nat) (h : a < 2 ^ 64) : bits .xor .u64 0 (a : Int) = (a : Int) := by
  have := u64_xor_nat 0 a (by decide) h
  rw [Nat.zero_xor] at this
  exact this

/-- What stands at a place of the table when k places have been filled. -/
def mc (p : Nat → Nat) (k i : Nat) : Nat := if i < k ∨ i = 1 ∨ i = 2 ∨ i = 4 ∨ i = 8 then p i else 0
def marr (p : Nat → Nat) (k : Nat) : Array Value := ((List.range 16).map fun i => Value.int .u64 ((mc p k i : Nat) : Int)).toArray
theorem marr_get (p : Nat → Nat) (k i : Nat) (h : i < 16) : (marr p k)[i]? = some (.int .u64 ((mc p k i : Nat) : Int)) := by
  unfold marr; simp [h]
theorem marr_set (p : Nat → Nat) (k : Nat) : (marr p k).setIfInBounds k (.int .u64 ((p k : Nat) : Int)) = marr p (k + 1) := by
  apply Array.ext_getElem?
  intro i
  rw [Array.getElem?_setIfInBounds]
  by_cases hi : i < 16
  · by_cases hk : k = i
    · subst hk
      rw [if_pos rfl, marr_get p (k + 1) k hi]
      have : mc p (k + 1) k = p k := by unfold mc; rw [if_pos (by omega)]
      rw [this]
      simp [marr, hi]
    · rw [if_neg hk, marr_get p k i hi, marr_get p (k + 1) i hi]
      have : mc p (k + 1) i = mc p k i := by unfold mc; congr 1; apply propext; omega
      rw [this]
  · have e1 : (marr p k)[i]? = none := by unfold marr; simp; omega
    have e2 : (marr p (k + 1))[i]? = none := by unfold marr; simp; omega
    by_cases hk : k = i
    · subst hk
      have : ¬ k < (marr p k).size := by unfold marr; simp; omega
      rw [if_pos rfl, if_neg this, e2]
    · rw [if_neg hk, e1, e2]
/-- The lowest bit of a number below 16. -/
def lowb (k : Nat) : Nat := if k % 2 = 1 then 1 else if k % 4 = 2 then 2 else if k % 8 = 4 then 4 else if k % 16 = 8 then 8 else 0
theorem low_and (k : Nat) (h : k < 16) : bits .and .i64 (k : Int) (-(k : Int)) = (lowb k : Int) := by
  have all : ∀ j : Fin 16, bits .and .i64 (j.val : Int) (-(j.val : Int)) = (lowb j.val : Int) := by decide +kernel
  exact all ⟨k, h⟩
theorem low_xor (k : Nat) (h : k < 16) : lowb k ≤ k ∧ (k - lowb k) ^^^ lowb k = k ∧ (k - lowb k < k ∨ k - lowb k = 0 ∧ (k = 0 ∨ k = 1 ∨ k = 2 ∨ k = 4 ∨ k = 8)) ∧ (lowb k < k ∨ lowb k = k ∧ (k = 0 ∨ k = 1 ∨ k = 2 ∨ k = 4 ∨ k = 8)) := by
  have all : ∀ j : Fin 16, lowb j.val ≤ j.val ∧ (j.val - lowb j.val) ^^^ lowb j.val = j.val ∧ (j.val - lowb j.val < j.val ∨ j.val - lowb j.val = 0 ∧ (j.val = 0 ∨ j.val = 1 ∨ j.val = 2 ∨ j.val = 4 ∨ j.val = 8)) ∧ (lowb j.val < j.val ∨ lowb j.val = j.val ∧ (j.val = 0 ∨ j.val = 1 ∨ j.val = 2 ∨ j.val = 4 ∨ j.val = 8)) := by decide +kernel
  exact all ⟨k, h⟩

theorem set_top (X : World) (A : Array Value) (T : TypeId) (n k : Nat) (v : Value) (b : Nat) (hb : b = X.heap.size) : ((X.alloc (.cells A T)).drewN n).setCell ⟨b, k, none⟩ v = (X.alloc (.cells (A.setIfInBounds k v) T)).drewN n := by
  have e : ((X.alloc (.cells A T)).drewN n).setCell ⟨b, k, none⟩ v = ((X.alloc (.cells A T)).setCell ⟨b, k, none⟩ v).drewN n := rfl
  rw [e, World.setCell_alloc_at A T b k v hb]
theorem marr_full (p : Nat → Nat) : marr p 16 = #[.int .u64 ((p 0 : Nat) : Int), .int .u64 ((p 1 : Nat) : Int), .int .u64 ((p 2 : Nat) : Int), .int .u64 ((p 3 : Nat) : Int), .int .u64 ((p 4 : Nat) : Int), .int .u64 ((p 5 : Nat) : Int), .int .u64 ((p 6 : Nat) : Int), .int .u64 ((p 7 : Nat) : Int), .int .u64 ((p 8 : Nat) : Int), .int .u64 ((p 9 : Nat) : Int), .int .u64 ((p 10 : Nat) : Int), .int .u64 ((p 11 : Nat) : Int), .int .u64 ((p 12 : Nat) : Int), .int .u64 ((p 13 : Nat) : Int), .int .u64 ((p 14 : Nat) : Int), .int .u64 ((p 15 : Nat) : Int)] := by
  unfold marr mc
  simp [List.range_succ]

set_option maxHeartbeats 2000000 in
set_option maxRecDepth 100000 in
theorem mult_core (p : Nat → Nat) (H1 : Hid (∀ W, Calls Try.prog 81 #[.int .u64 (p 1 : Int)] W fun e w' => e = .returned (.int .u64 (p 2 : Nat)) ∧ w' = W)) (H2 : Hid (∀ W, Calls Try.prog 82 #[.int .u64 (p 1 : Int)] W fun e w' => e = .returned (.int .u64 (p 4 : Nat)) ∧ w' = W)) (H3 : Hid (∀ W, Calls Try.prog 82 #[.int .u64 (p 2 : Int)] W fun e w' => e = .returned (.int .u64 (p 8 : Nat)) ∧ w' = W))
    (hx : ∀ a b, bits .xor .u64 (p a : Int) (p b : Int) = (p (a ^^^ b) : Int)) (h0 : p 0 = 0) (W : World) :
    Calls Try.prog 77 #[.int .u64 (p 1 : Int)] W fun e w' => e = .returned (.agg #[.int .u64 ((p 0 : Nat) : Int), .int .u64 ((p 1 : Nat) : Int), .int .u64 ((p 2 : Nat) : Int), .int .u64 ((p 3 : Nat) : Int), .int .u64 ((p 4 : Nat) : Int), .int .u64 ((p 5 : Nat) : Int), .int .u64 ((p 6 : Nat) : Int), .int .u64 ((p 7 : Nat) : Int), .int .u64 ((p 8 : Nat) : Int), .int .u64 ((p 9 : Nat) : Int), .int .u64 ((p 10 : Nat) : Int), .int .u64 ((p 11 : Nat) : Int), .int .u64 ((p 12 : Nat) : Int), .int .u64 ((p 13 : Nat) : Int), .int .u64 ((p 14 : Nat) : Int), .int .u64 ((p 15 : Nat) : Int)]) ∧ Below W.heap.size W w' := by
  have HX : Hid (∀ a b, bits .xor .u64 (p a : Int) (p b : Int) = (p (a ^^^ b) : Int)) := hx
  have H0 : Hid (p 0 = 0) := h0
  clear hx h0
  go_enter Try.func77, Try.ntmps77
  go_wp2_with fail
  refine (H1.out _).mono ?_
  rintro e w1 ⟨rfl, rfl⟩
  go_wp2_with fail
  refine (H2.out _).mono ?_
  rintro e w1 ⟨rfl, rfl⟩
  go_wp2_with fail
  refine (H3.out _).mono ?_
  rintro e w1 ⟨rfl, rfl⟩
  go_wp2
  clear H1 H2 H3
  go_loopw [18] (fun v wr => ∃ k m : Nat, k ≤ 16 ∧ v = .int .i64 k ∧ wr = ((W.alloc (Obj.cells #[.int .u64 0, .int .u64 0, .int .u64 0, .int .u64 0, .int .u64 0, .int .u64 0, .int .u64 0, .int .u64 0, .int .u64 0, .int .u64 0, .int .u64 0, .int .u64 0, .int .u64 0, .int .u64 0, .int .u64 0, .int .u64 0] 100)).alloc (Obj.cells (marr p k) 100)).drewN m) (fun v _ => 16 - (intOf v).toNat)
  case atStart => exact ⟨0, 0, by omega, rfl, rfl⟩
  case round =>
    obtain ⟨k, m, hk, rfl, rfl⟩ := hrel
    by_cases hlt : k < 16
    · obtain ⟨l1, l2, l3, l4⟩ := low_xor k hlt
      have f1 := low_and k hlt
      have f2 : (k : Int) - (lowb k : Int) = ((k - lowb k : Nat) : Int) := by omega
      have hm1 : mc p k (k - lowb k) = p (k - lowb k) := by
        unfold mc
        by_cases hq : k - lowb k < k ∨ k - lowb k = 1 ∨ k - lowb k = 2 ∨ k - lowb k = 4 ∨ k - lowb k = 8
        · rw [if_pos hq]
        · rw [if_neg hq, show k - lowb k = 0 by omega]; exact H0.out.symm
      have hm2 : mc p k (lowb k) = p (lowb k) := by
        unfold mc
        by_cases hq : lowb k < k ∨ lowb k = 1 ∨ lowb k = 2 ∨ lowb k = 4 ∨ lowb k = 8
        · rw [if_pos hq]
        · rw [if_neg hq, show lowb k = 0 by omega]; exact H0.out.symm
      have c1 := marr_get p k (k - lowb k) (by omega)
      have c2 := marr_get p k (lowb k) (by omega)
      rw [hm1] at c1
      rw [hm2] at c2
      have hxx := HX.out (k - lowb k) (lowb k)
      rw [l2] at hxx
      have HS : Hid ((marr p k).setIfInBounds k (.int .u64 ((p k : Nat) : Int)) = marr p (k + 1)) := marr_set p k
      have hsz : (marr p k).size = 16 := by simp [marr]
      have la : k - lowb k < 16 := by omega
      have lb : lowb k < 16 := by omega
      clear l1 l2 l3 l4 hm1 hm2
      generalize k - lowb k = a at *
      generalize lowb k = b at *
      generalize p a = pa at *
      generalize p b = pb at *
      generalize p k = pk at *
      generalize hB : marr p (k + 1) = B at *
      replace hB := hB.symm
      generalize marr p k = A at *
      have HS0 : Hid (B = marr p (k + 1)) := hB
      clear hB
      have d1 : ∀ h : a < A.size, A[a]'h = .int .u64 (pa : Int) := fun h => by simpa [Array.getElem?_eq_getElem h] using c1
      have d2 : ∀ h : b < A.size, A[b]'h = .int .u64 (pb : Int) := fun h => by simpa [Array.getElem?_eq_getElem h] using c2
      clear c1 c2
      go_wp2
      go_region
      go_wp2
      refine ⟨⟨k + 1, m + 1, by omega, by go_num, ?_⟩, by simp [intOf]; omega⟩
      rw [← HS0.out, ← HS.out]
      exact set_top _ A _ (m + 1) k _ _ (by simp)
    · have hke : k = 16 := by omega
      subst hke
      rw [marr_full]
      clear HX H0 hk hlt
      have HB : Hid (Below W.heap.size W (((W.alloc (Obj.cells #[.int .u64 0, .int .u64 0, .int .u64 0, .int .u64 0, .int .u64 0, .int .u64 0, .int .u64 0, .int .u64 0, .int .u64 0, .int .u64 0, .int .u64 0, .int .u64 0, .int .u64 0, .int .u64 0, .int .u64 0, .int .u64 0] 100)).alloc (Obj.cells #[.int .u64 ((p 0 : Nat) : Int), .int .u64 ((p 1 : Nat) : Int), .int .u64 ((p 2 : Nat) : Int), .int .u64 ((p 3 : Nat) : Int), .int .u64 ((p 4 : Nat) : Int), .int .u64 ((p 5 : Nat) : Int), .int .u64 ((p 6 : Nat) : Int), .int .u64 ((p 7 : Nat) : Int), .int .u64 ((p 8 : Nat) : Int), .int .u64 ((p 9 : Nat) : Int), .int .u64 ((p 10 : Nat) : Int), .int .u64 ((p 11 : Nat) : Int), .int .u64 ((p 12 : Nat) : Int), .int .u64 ((p 13 : Nat) : Int), .int .u64 ((p 14 : Nat) : Int), .int .u64 ((p 15 : Nat) : Int)] 100)).drewN m)) := below_drewN (((Below.refl _ _).alloc (Nat.le_refl _) _).alloc (by simp) _) _
      go_wp2
      refine bodyPost_ret (v := .agg #[.int .u64 ((p 0 : Nat) : Int), .int .u64 ((p 1 : Nat) : Int), .int .u64 ((p 2 : Nat) : Int), .int .u64 ((p 3 : Nat) : Int), .int .u64 ((p 4 : Nat) : Int), .int .u64 ((p 5 : Nat) : Int), .int .u64 ((p 6 : Nat) : Int), .int .u64 ((p 7 : Nat) : Int), .int .u64 ((p 8 : Nat) : Int), .int .u64 ((p 9 : Nat) : Int), .int .u64 ((p 10 : Nat) : Int), .int .u64 ((p 11 : Nat) : Int), .int .u64 ((p 12 : Nat) : Int), .int .u64 ((p 13 : Nat) : Int), .int .u64 ((p 14 : Nat) : Int), .int .u64 ((p 15 : Nat) : Int)]) (by simp [results, Try.results77, go_sem]) rfl ⟨rfl, ?_⟩
      have hB := HB.out
      repeat' (first | (with_reducible exact hB) | (with_reducible refine Below.setCell ?_ ?_ _) | (with_reducible exact Nat.le_refl _))

theorem mult_any (n : Nat) (h : n < 2 ^ 64) (W : World) : Calls Try.prog 77 #[.int .u64 (n : Int)] W fun e w' => e = .returned (.agg #[.int .u64 ((px 0 n : Nat) : Int), .int .u64 ((px 1 n : Nat) : Int), .int .u64 ((px 2 n : Nat) : Int), .int .u64 ((px 3 n : Nat) : Int), .int .u64 ((px 4 n : Nat) : Int), .int .u64 ((px 5 n : Nat) : Int), .int .u64 ((px 6 n : Nat) : Int), .int .u64 ((px 7 n : Nat) : Int), .int .u64 ((px 8 n : Nat) : Int), .int .u64 ((px 9 n : Nat) : Int), .int .u64 ((px 10 n : Nat) : Int), .int .u64 ((px 11 n : Nat) : Int), .int .u64 ((px 12 n : Nat) : Int), .int .u64 ((px 13 n : Nat) : Int), .int .u64 ((px 14 n : Nat) : Int), .int .u64 ((px 15 n : Nat) : Int)]) ∧ Below W.heap.size W w' := by
  have e1 : px 1 n = n := by rw [Tw.px_comm, Tw.px_one n h]
  have e8 : px 4 (px 2 n) = px 8 n := by rw [← Tw.px_assoc, show px 4 2 = 8 by decide +kernel]
  have c := mult_core (fun i => px i n) (fun W => by show Calls Try.prog 81 #[.int .u64 (px 1 n : Nat)] W _; rw [e1]; exact t1_any n h W) (fun W => by show Calls Try.prog 82 #[.int .u64 (px 1 n : Nat)] W _; rw [e1]; exact t2_any n h W) (fun W => by show Calls Try.prog 82 #[.int .u64 (px 2 n : Nat)] W fun e w' => e = .returned (.int .u64 (px 8 n : Nat)) ∧ w' = W; rw [← e8]; exact t2_any (px 2 n) (Tw.px_lt _ _) W) (fun a b => x_px a b n) (by rw [Tw.px_comm]; exact Tw.px_zero n) W
  have e2 : #[Value.int .u64 ((px 1 n : Nat) : Int)] = #[Value.int .u64 (n : Int)] := by rw [e1]
  rw [← e2]
  exact c
end Go.Proofs.Ytcejppibcemdeaa
