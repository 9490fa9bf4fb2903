/- The contract of steeplelaw22.Ref over the seat's translation: claims as the document has them. -/
import Derived.Test.YtefgkgmjhboobaaCmQ
import Derived.Deep.AppendLies
import Derived.Deep.RegionHeld3
namespace Go.Proofs.Ytefgkgmjhboobaa
open Go.RowKit
open Cb
open Tw (pm)

theorem info_rclm : ∃ i, Try.prog.info? 58 = some i ∧ i.zero = some (.agg #[.int .i64 0, .int .i64 0, .int .i64 0, .int .u64 0, .int .u64 0]) ∧ i.size = 5 ∧ i.bytes = 40 := by
  have h : (Try.prog.info? 58).map (fun i => (i.zero, i.size, i.bytes)) = some (some (.agg #[.int .i64 0, .int .i64 0, .int .i64 0, .int .u64 0, .int .u64 0]), 5, 40) := by kernel_rfl
  obtain ⟨i, hi, he⟩ := Option.map_eq_some_iff.1 h
  simp only [Prod.mk.injEq] at he
  exact ⟨i, hi, he.1, he.2.1, he.2.2⟩
set_option maxHeartbeats 8000000 in
set_option maxRecDepth 100000 in
theorem rref22_own (sa : Option Addr) (cap : Nat) (l : List Stp) (hm : l.length ≤ 1000) (W : World) (hR : ORow W sa l) :
    Calls Try.prog 13 #[.slice sa l.length cap] W fun e w' => ∃ v, e = .returned v ∧ w'.ownsRow W.heap.size 58 5 v l.length (sflC l) ∧ Below W.heap.size W w' := by
  have HR : Hid (ORow W sa l) := hR
  obtain ⟨i0, hi0, hz0, hz1, hz2⟩ := info_rclm
  have HI : Hid (Try.prog.info? 58 = some i0 ∧ i0.zero = some (.agg #[.int .i64 0, .int .i64 0, .int .i64 0, .int .u64 0, .int .u64 0]) ∧ i0.size = 5 ∧ i0.bytes = 40) := ⟨hi0, hz0, hz1, hz2⟩
  clear hR hi0 hz0 hz1 hz2
  go_enter Try.func13, Try.ntmps13
  go_wp2_with fail
  go_loopw [3, 4] (fun s u wr => ∃ i : Nat, i ≤ l.length ∧ u = .int .i64 i ∧ Hid (wr.ownsRow W.heap.size 58 5 s i (sflC (l.take i)) ∧ Below W.heap.size W wr)) (fun _ u _ => l.length - (intOf u).toNat)
  case atStart => exact ⟨0, Nat.zero_le _, rfl, ⟨⟨by simp [sflC], .inl ⟨rfl, rfl⟩⟩, Below.refl _ _⟩⟩
  case round =>
    obtain ⟨i, hil, rfl, O⟩ := hrel
    by_cases hlt : i < l.length
    · obtain ⟨b0, off, rfl, hb0, c0, c1, c2, c3, c4⟩ := HR.out.cells i hlt
      have C0 := keepc O.out.2 c0
      have C1 := keepc O.out.2 c1
      have C2 := keepc O.out.2 c2
      have C3 := keepc O.out.2 c3
      have C4 := keepc O.out.2 c4
      have HN : Hid (sflC (l.take (i + 1)) = sflC (l.take i) ++ [.int .i64 (l.getD i zst).k, .int .i64 (l.getD i zst).a, .int .i64 (l.getD i zst).b, .int .u64 ((l.getD i zst).v.1 : Int), .int .u64 ((l.getD i zst).v.2 : Int)]) := by show _ = _; rw [take_sC l i hlt, sflC_snoc]
      have HC : Hid (W.cell? ⟨b0, off + i * 5, none⟩ = some (.int .i64 (l.getD i zst).k) ∧ W.cell? ⟨b0, off + i * 5 + 1, none⟩ = some (.int .i64 (l.getD i zst).a) ∧ W.cell? ⟨b0, off + i * 5 + 2, none⟩ = some (.int .i64 (l.getD i zst).b) ∧ W.cell? ⟨b0, off + i * 5 + 3, none⟩ = some (.int .u64 ((l.getD i zst).v.1 : Int)) ∧ W.cell? ⟨b0, off + i * 5 + 4, none⟩ = some (.int .u64 ((l.getD i zst).v.2 : Int))) := ⟨c0, c1, c2, c3, c4⟩
      have b1 : (i : Int) < (l.length : Int) := by omega
      have b2 : (0 : Int) ≤ (i : Int) := by omega
      clear c0 c1 c2 c3 c4 hb0 HR
      generalize l.getD i zst = o at *
      obtain ⟨k, a, b, v⟩ := o
      dsimp only at *
      have lB : W.heap.size ≤ wr.heap.size := O.out.2.size
      go_wp2_with fail
      have F : _ ∧ _ ∧ _ ∧ _ ∧ _ := ⟨C0, C1, C2, C3, C4⟩
      clear C0 C1 C2 C3 C4
      go_region_held3 (fun w => w.cell? ⟨b0, off + i * 5, none⟩ = some (.int .i64 k) ∧ w.cell? ⟨b0, off + i * 5 + 1, none⟩ = some (.int .i64 a) ∧ w.cell? ⟨b0, off + i * 5 + 2, none⟩ = some (.int .i64 b) ∧ w.cell? ⟨b0, off + i * 5 + 3, none⟩ = some (.int .u64 (v.1 : Int)) ∧ w.cell? ⟨b0, off + i * 5 + 4, none⟩ = some (.int .u64 (v.2 : Int))) (first | (go_keep; done) | exact ⟨keepc O.out.2 HC.out.1, keepc O.out.2 HC.out.2.1, keepc O.out.2 HC.out.2.2.1, keepc O.out.2 HC.out.2.2.2.1, keepc O.out.2 HC.out.2.2.2.2⟩)
        (first | (refine step_append_lies _ (by rfl) _ _ _ (by rfl) W.heap.size 58 i0 _ 5 40 Try.underlying37 HI.out.1 HI.out.2.1 HI.out.2.2.1 HI.out.2.2.2 rfl (by omega) u3 i _ (by rfl) (by first | exact O.out.1.drew.alloc _ | exact O.out.1.alloc _) ⟨wr.heap.size, 0, none⟩ 1 1 [.int .i64 k, .int .i64 a, .int .i64 b, .int .u64 (v.1 : Int), .int .u64 (v.2 : Int)] (by rfl) (by rfl) (by first | exact World.news_of_block (cs := #[.int .i64 k, .int .i64 a, .int .i64 b, .int .u64 (v.1 : Int), .int .u64 (v.2 : Int)]) (t := 58) (fr := (0, 0)) (heap_alloc_new wr.drew _) | exact World.news_of_block (cs := #[.int .i64 k, .int .i64 a, .int .i64 b, .int .u64 (v.1 : Int), .int .u64 (v.2 : Int)]) (t := 58) (fr := (0, 0)) (heap_alloc_new wr _)) (by simp [Value.oneCell']) (by omega) (by simp only [maxLen]; omega) (by omega) (by simp; omega) (wr.heap.size + 1) (by simp) ?_; intro gg cap' w5 hown5 hgrow hat hlt5; have O' : Hid (w5.ownsRow W.heap.size 58 5 (.slice (some ⟨gg, 0, none⟩) (i + 1) cap') (i + 1) (sflC (l.take i) ++ [.int .i64 k, .int .i64 a, .int .i64 b, .int .u64 (v.1 : Int), .int .u64 (v.2 : Int)]) ∧ Below W.heap.size W w5) := ⟨hown5, (by first | exact (O.out.2.drew.alloc lB _).grown hgrow (by simp; omega) (fun g hg => (O.out.1.lt g hg).1) | exact (O.out.2.alloc lB _).grown hgrow (by simp; omega) (fun g hg => (O.out.1.lt g hg).1))⟩; clear O hown5 hgrow hat hlt5; have O := O'; clear O'))
      go_wp2
      refine ⟨⟨i + 1, hlt, by simp, ⟨?_, O.out.2⟩⟩, by simp [intOf]; omega⟩
      rw [HN.out]
      exact O.out.1
    · obtain rfl : i = l.length := by omega
      have HO : Hid (wr.ownsRow W.heap.size 58 5 u3 l.length (sflC l) ∧ Below W.heap.size W wr) := by
        have h := O.out
        rw [List.take_of_length_le (Nat.le_refl _)] at h
        exact h
      clear O HR
      go_wp2
      go_ret
      exact ⟨_, rfl, HO.out.1, HO.out.2⟩
theorem rref22 (sa : Option Addr) (cap : Nat) (l : List Stp) (hm : l.length ≤ 1000) (W : World) (hR : ORow W sa l) :
    Calls Try.prog 13 #[.slice sa l.length cap] W fun e w' => ∃ a' cap', e = .returned (.slice a' l.length cap') ∧ ORow w' a' l ∧ Below W.heap.size W w' := by
  refine (rref22_own sa cap l hm W hR).mono ?_
  rintro e w' ⟨v, rfl, ho, hb⟩
  obtain ⟨a', cap', rfl, hr⟩ := own_clm rfl ho
  exact ⟨a', cap', rfl, hr, hb⟩
end Go.Proofs.Ytefgkgmjhboobaa
