/- Contract of weave.cut over the seat's translation: the pieces of a list. -/
import Derived.Test.YtflkchhdgiojgaaWvA
namespace Go.Proofs.Ytflkchhdgiojgaa
open Go.RowKit

/-- The pieces: slices into the list's own row. -/
def pcs (b off wide j : Nat) : List Value := (List.range j).map fun i => .slice (some ⟨b, off + i * wide * 2, none⟩) wide wide
theorem pcs_len (b off wide j : Nat) : (pcs b off wide j).length = j := by simp [pcs]
theorem pcs_snoc (b off wide j : Nat) : pcs b off wide (j + 1) = pcs b off wide j ++ [.slice (some ⟨b, off + j * wide * 2, none⟩) wide wide] := by simp [pcs, List.range_succ]
theorem info_row : ∃ i, Try.prog.info? 22 = some i ∧ i.zero = some (.slice none 0 0) ∧ i.size = 1 ∧ i.bytes = 24 := by
  have h : (Try.prog.info? 22).map (fun i => (i.zero, i.size, i.bytes)) = some (some (.slice none 0 0), 1, 24) := by kernel_rfl
  obtain ⟨i, hi, he⟩ := Option.map_eq_some_iff.1 h
  simp only [Prod.mk.injEq] at he
  exact ⟨i, hi, he.1, he.2.1, he.2.2⟩
set_option maxHeartbeats 1000000 in
set_option maxRecDepth 100000 in
theorem cut_any (a : Option Addr) (b off n cap wide q : Nat) (ha : n = 0 ∨ a = some ⟨b, off, none⟩) (hw : 0 < wide) (hq : n = q * wide) (hn : n ≤ 1000) (hc : n ≤ cap) (W : World) :
    Calls Try.prog 24 #[.slice a n cap, .int .i64 (wide : Int)] W fun e w' => ∃ v, e = .returned v ∧ w'.ownsRow W.heap.size 22 1 v q (pcs b off wide q) ∧ Below W.heap.size W w' := by
  obtain ⟨i0, hi, hz0, hz1, hz2⟩ := info_row
  have HI : Hid (Try.prog.info? 22 = some i0 ∧ i0.zero = some (.slice none 0 0) ∧ i0.size = 1 ∧ i0.bytes = 24) := ⟨hi, hz0, hz1, hz2⟩
  have hqn : q ≤ n := by rw [hq]; exact Nat.le_mul_of_pos_right _ hw
  have hdiv : (n : Int).tdiv (wide : Int) = (q : Int) := by
    rw [Int.tdiv_eq_ediv_of_nonneg (by omega), hq, Int.natCast_mul]; exact Int.mul_ediv_cancel _ (by omega)
  have hne : ¬ (wide : Int) = 0 := by omega
  have HQ : Hid (n = q * wide) := hq
  have HA : Hid (n = 0 ∨ a = some ⟨b, off, none⟩) := ha
  clear hi hz0 hz1 hz2 hq ha
  go_enter Try.func24, Try.ntmps24
  go_wp2_with (at_make; refine wpList_make_own _ rfl _ _ 24 rfl W.heap.size 22 i0 (.slice none 0 0) 1 Try.underlying24 HI.out.1 HI.out.2.1 HI.out.2.2.1 .i64 .i64 _ q rfl rfl rfl (by rw [HI.out.2.2.2]; omega) (by simp only [maxLen]; omega) (Nat.le_refl _) ?_; intro w2 own2 hgr2)
  have D : Hid (Below W.heap.size W w2) := (Below.refl _ _).grown hgr2 (Nat.le_refl _) (fun k hk => by cases hk)
  have HO2 : Hid (w2.ownsRow W.heap.size 22 1 (.slice (some ⟨W.heap.size, 0, none⟩) 0 q) 0 []) := own2
  clear own2 hgr2
  go_loopw [5, 6] (fun v u wr => ∃ j f : Nat, f = j * wide ∧ j ≤ q ∧ u = .int .i64 f ∧ wr.ownsRow W.heap.size 22 1 v j (pcs b off wide j) ∧ Below W.heap.size W wr) (fun _ u _ => n - (intOf u).toNat)
  case atStart => exact ⟨0, 0, by simp, Nat.zero_le _, rfl, HO2.out, D.out⟩
  case round =>
    obtain ⟨j, f, hf, hj, rfl, hown, hbw⟩ := hrel
    have HO : Hid (wr.ownsRow W.heap.size 22 1 u5 j (pcs b off wide j)) := hown
    have HB : Hid (Below W.heap.size W wr) := hbw
    have HF : Hid (f = j * wide) := hf
    clear hown hbw hf HO2 D
    by_cases hlt : j < q
    · have hfn : f + wide ≤ n := by
        have := Nat.mul_le_mul_right wide (show j + 1 ≤ q from hlt)
        rw [HF.out, HQ.out]; rw [Nat.add_mul, Nat.one_mul] at this; exact this
      obtain rfl : a = some ⟨b, off, none⟩ := by rcases HA.out with h | h; omega; exact h
      have j1 : (0 : Int) ≤ (f : Int) := by omega
      have j2 : (f : Int) ≤ (f : Int) + wide := by omega
      have j3 : (f : Int) + wide ≤ (cap : Int) := by omega
      have j4 : IntKind.i64.wrap ((f : Int) + wide) = (f : Int) + wide := by rw [IntKind.wrap_i64]; omega
      have j5 : (f : Int) < (n : Int) := by omega
      have j6 : ((f : Int) + wide).toNat = f + wide := by omega
      have j7 : f + wide - f = wide := by omega
      have j8 : ¬ wide = 0 := by omega
      clear HQ HA hdiv
      go_wp2_with (at_builtin; refine wpList_append_own _ rfl _ _ 24 rfl W.heap.size 22 i0 (.slice none 0 0) 1 24 Try.underlying24 HI.out.1 HI.out.2.1 HI.out.2.2.1 HI.out.2.2.2 rfl (by decide) _ _ _ rfl (own_below HO.out (by go_grown)) ⟨wr.heap.size, 0, none⟩ 1 1 [.slice (some ⟨b, off + f * 2, none⟩) wide wide] rfl rfl (fun p u hu => by rcases p with _ | p <;> simp at hu; subst hu; simp [go_sem]) (by intro u hu; simp at hu; subst hu; rfl) (by simp only [maxLen]; omega) (by omega) (by have := HB.out.size; simp; omega) ?_; intro v' w' hown' hgr _)
      refine ⟨⟨j + 1, f + wide, by rw [HF.out, Nat.add_mul, Nat.one_mul], hlt, by simp, ?_, ?_⟩, by simp [intOf]; omega⟩
      · rw [pcs_snoc, ← HF.out]; exact hown'
      · exact (HB.out.alloc HB.out.size _).grown hgr (by have := HB.out.size; simp; omega) fun k hk => (HO.out.lt k hk).1
    · obtain rfl : j = q := by omega
      have e : f = n := by rw [HF.out, HQ.out]
      subst e
      clear HF HA HQ
      go_wp2
      go_ret
      exact ⟨_, rfl, HO.out, HB.out⟩
end Go.Proofs.Ytflkchhdgiojgaa
