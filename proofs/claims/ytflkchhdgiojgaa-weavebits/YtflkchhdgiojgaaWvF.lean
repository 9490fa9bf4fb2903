/- The contract of steeplelaw09.awake over the seat's translation. -/
import Derived.Test.YtflkchhdgiojgaaWvE
namespace Go.Proofs.Ytflkchhdgiojgaa
open Go.RowKit

/-- Gather, where nothing hinders it. -/
theorem gather_ok (f t d q : Nat) (hd : f + d = t) (ht : t < 8) (a : Option Addr) (b off cap : Nat) (es gs : List (Nat × Nat)) (ha : es.length = 0 ∨ a = some ⟨b, off, none⟩) (hq : es.length = q * 2 ^ d) (hn : es.length ≤ 1000) (hc : es.length ≤ cap) (hes : ltE es)
    (ho : (es.all fun e => ofB (f : Int) (e.1 : Int) (e.2 : Int)) = true) (hg : gs.length = q) (hgs : ∀ i, i < q → gs.getD i (0, 0) = jnd d t ((es.drop (i * 2 ^ d)).take (2 ^ d))) (W : World) (hr : ERow W a es) :
    Calls Try.prog 18 #[.int .i64 (f : Int), .int .i64 (t : Int), .slice a es.length cap] W fun e w' => ∃ p, e = .returned (.tuple #[.slice (some ⟨p, 0, none⟩) q q, .int .i64 0]) ∧ ERow w' (some ⟨p, 0, none⟩) gs ∧ W.heap.size ≤ p ∧ Below W.heap.size W w' := by
  have h8 : 2 ^ d ≤ 2 ^ 7 := Nat.pow_le_pow_right (by decide) (by omega)
  refine gather_core f t d (2 ^ d) q es.length hd ht rfl a b off cap ha hq hn hc gs hg W ?_ ?_
  · intro w hb
    have := wall_any (f : Int) a cap es hes w (hr.below hb) hn
    rw [ho] at this
    exact this
  · intro i hi w hb
    have hlt : (i + 1) * 2 ^ d ≤ es.length := by rw [hq]; exact Nat.mul_le_mul_right _ hi
    rw [Nat.add_mul, Nat.one_mul] at hlt
    have hl : ((es.drop (i * 2 ^ d)).take (2 ^ d)).length = 2 ^ d := by rw [List.length_take, List.length_drop]; omega
    obtain rfl : a = some ⟨b, off, none⟩ := by
      rcases ha with h | h
      · have := Nat.two_pow_pos d; omega
      · exact h
    have hE : ERow w (some ⟨b, off + i * 2 ^ d * 2, none⟩) ((es.drop (i * 2 ^ d)).take (2 ^ d)) := ERow.take (ERow.drop (hr.below hb))
    have hso : t - d = f := by omega
    have := joined_any d t _ (by omega) ht hl (fun e he => by rw [hso]; exact List.all_eq_true.1 ho e (List.mem_of_mem_drop (List.mem_of_mem_take he))) b (off + i * 2 ^ d * 2) (2 ^ d) (by omega) w hE
    rw [hl] at this
    rw [hgs i hi]
    exact this
set_option maxHeartbeats 1000000 in
theorem awake9 : Ret 7 #[] (.bool true) := by
  intro W
  have HG : Hid (∀ (w : World) (b : Nat), ERow w (some ⟨b, 0, none⟩) [(0, 1), (0, 2), (0, 3), (0, 0)] → Calls Try.prog 18 #[.int .i64 1, .int .i64 3, .slice (some ⟨b, 0, none⟩) 4 4] w fun e w' => ∃ p, e = .returned (.tuple #[.slice (some ⟨p, 0, none⟩) 1 1, .int .i64 0]) ∧ ERow w' (some ⟨p, 0, none⟩) [(0, 57)] ∧ w.heap.size ≤ p ∧ Below w.heap.size w w') := fun w b hr =>
    gather_ok 1 3 2 1 rfl (by decide) (some ⟨b, 0, none⟩) b 0 4 [(0, 1), (0, 2), (0, 3), (0, 0)] [(0, 57)] (.inr rfl) rfl (by decide) (by decide) (fun e he => by simp at he; rcases he with rfl | rfl | rfl | rfl <;> decide) (by decide) rfl (fun i hi => by match i, hi with | 0, _ => decide) w hr
  have HC : Hid (∀ (w : World) (b : Nat), ERow w (some ⟨b, 0, none⟩) [(0, 57)] → Calls Try.prog 8 #[.slice (some ⟨b, 0, none⟩) 1 1, .int .i64 1] w fun e w' => ∃ v b, e = .returned (.tuple #[v, .int .i64 0]) ∧ w'.ownsRow w.heap.size 22 1 v 1 (pcs b 0 1 1) ∧ ERow w' (some ⟨b, 0, none⟩) [(0, 57)] ∧ Below w.heap.size w w') := fun w b hr =>
    wcut_ok 1 1 (some ⟨b, 0, none⟩) 1 [(0, 57)] (by decide) rfl (by decide) (fun h => by cases h) (fun x h => by cases h; rfl) w hr
  go_enter Try.func7, Try.ntmps7
  go_wp2_with fail
  refine (HG.out _ _ ⟨fun i hi => ?_⟩).mono ?_
  · match i, hi with
    | 0, _ => exact ⟨_, _, rfl, by simp, by simp [go_sem], by simp [go_sem]⟩
    | 1, _ => exact ⟨_, _, rfl, by simp, by simp [go_sem], by simp [go_sem]⟩
    | 2, _ => exact ⟨_, _, rfl, by simp, by simp [go_sem], by simp [go_sem]⟩
    | 3, _ => exact ⟨_, _, rfl, by simp, by simp [go_sem], by simp [go_sem]⟩
  · rintro e w1 ⟨p, rfl, hE, hp, hb1⟩
    have HE : Hid (ERow w1 (some ⟨p, 0, none⟩) [(0, 57)]) := hE
    have HB : Hid (Below W.heap.size W w1) := ((Below.refl _ _).alloc (Nat.le_refl _) _).trans (hb1.mono (by simp))
    clear hE hb1 hp
    go_wp2_with fail
    refine (HC.out _ _ HE.out).mono ?_
    rintro e w2 ⟨v, b, rfl, hO, hE2, hb2⟩
    obtain ⟨a', cap', rfl, _⟩ := own_pcs hO
    obtain ⟨b', o', e, _, c1, c0⟩ := (HE.out.below hb2).cells 0 (by decide)
    simp only [Option.some.injEq, Addr.mk.injEq] at e
    obtain ⟨rfl, rfl, _⟩ := e
    have HB2 : Hid (Below W.heap.size W w2) := HB.out.trans (hb2.mono HB.out.size)
    replace c1 : w2.cell? ⟨p, 0, none⟩ = some (.int .u64 0) := c1
    replace c0 : w2.cell? ⟨p, 1, none⟩ = some (.int .u64 57) := c0
    clear hO hE2 hb2 HG HC HE HB
    go_wp2
    go_ret
    exact ⟨rfl, HB2.out⟩
end Go.Proofs.Ytflkchhdgiojgaa
