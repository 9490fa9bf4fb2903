/- Contracts of turn.Row where something hinders, and of steeplelaw18.elems, over the seat's translation; sums of products. -/
import Derived.Test.YthfebbmmhjkglaaTuT
import Derived.Test.YthfebbmmhjkglaaSlD
namespace Go.Proofs.Ythfebbmmhjkglaa
open Go.RowKit
open Cb
open Tw (pm)

theorem trow_err (l k c : Int) (q t : Nat) (hf : ftB k (q : Int) (t : Int) = true) (a : Option Addr) (cap : Nat) (p : List (Nat × Nat)) (hp : ltE p) (h10 : p.length ≤ 1000) (hc : hd1 l q p = c) (h0 : ¬ c = 0) (W : World) (hr : ERow W a p) :
    Calls Try.prog 18 #[.int .i64 l, .int .i64 k, .int .i64 (q : Int), .int .i64 (t : Int), .slice a p.length cap] W fun e w' => e = .returned (.tuple #[.slice none 0 0, .int .i64 c]) ∧ Below W.heap.size W w' := by
  have HH : Hid (∀ w b, Below W.heap.size W w → w.cell? ⟨b, 0, none⟩ = some (.slice a p.length cap) → Calls Try.prog 42 #[.int .i64 l, .int .i64 k, .int .i64 (q : Int), .int .i64 (t : Int), .slice (some ⟨b, 0, none⟩) 1 1] w fun e w' => e = .returned (.int .i64 c) ∧ Below w.heap.size w w') := fun w b hb hcell => by
    have := thind1 l k q t hf b a cap p hp h10 w (hr.below hb) hcell
    rw [hc] at this
    exact this
  have h0' : (c != 0) = true := by simp [h0]
  clear hf hp hc hr
  go_enter Try.func18, Try.ntmps18
  go_wp2_with (go_at_call 42; refine (HH.out _ _ (by go_grown) (by simp [go_sem])).mono ?_; rintro e w1 ⟨rfl, hb1⟩; have D1 : Hid (Below W.heap.size W w1) := ((Below.refl _ _).alloc (Nat.le_refl _) _).trans (hb1.mono (by simp)); clear hb1)
  refine bodyPost_ret (v := .tuple #[.slice none 0 0, .int .i64 c]) (by simp [results, Try.results18, go_sem, *]) rfl ⟨rfl, D1.out⟩
theorem bel_snoc (bs : List Bool) (b : Bool) : bel (bs ++ [b]) = bel bs ++ [if b = true then (0, 1) else (0, 0)] := by simp [bel]
theorem lt_bel (bs : List Bool) : ltE (bel bs) := fun e he => by
  unfold bel at he
  obtain ⟨b, _, rfl⟩ := List.mem_map.1 he
  split
  · exact lt_one
  · exact lt_zero
theorem of_bel {m : Nat} (hm : m < 8) (bs : List Bool) : ofT m (bel bs) := fun e he => by
  unfold bel at he
  obtain ⟨b, _, rfl⟩ := List.mem_map.1 he
  split
  · exact ofe_one hm
  · exact of_zer hm
set_option maxHeartbeats 4000000 in
set_option maxRecDepth 100000 in
theorem telems (a : Option Addr) (cap : Nat) (bs : List Bool) (hn : bs.length ≤ 1000) (W : World) (hr : Bow W a bs) :
    Calls Try.prog 24 #[.slice a bs.length cap] W fun e w' => ∃ a' cap', e = .returned (.slice a' bs.length cap') ∧ ERow w' a' (bel bs) ∧ Below W.heap.size W w' := by
  have HC : Hid (Bow W a bs) := hr
  obtain ⟨i0, hi, hz0, hz1, hz2⟩ := info_elem
  have HI : Hid (Try.prog.info? 41 = some i0 ∧ i0.zero = some (.agg #[.int .u64 0, .int .u64 0]) ∧ i0.size = 2 ∧ i0.bytes = 16) := ⟨hi, hz0, hz1, hz2⟩
  clear hr hi hz0 hz1 hz2
  go_enter Try.func24, Try.ntmps24
  go_wp2_with fail
  go_loopw [3, 4] (fun v u wr => ∃ j : Nat, j ≤ bs.length ∧ u = .int .i64 j ∧ Hid (wr.ownsRow W.heap.size 41 2 v j (flat (bel (bs.take j))) ∧ Below W.heap.size W wr)) (fun _ u _ => bs.length - (intOf u).toNat)
  case atStart => exact ⟨0, Nat.zero_le _, rfl, ⟨⟨by simp [flat, bel], .inl ⟨rfl, rfl⟩⟩, Below.refl _ _⟩⟩
  case round =>
    obtain ⟨j, hj, rfl, HO⟩ := hrel
    by_cases hlt : j < bs.length
    · obtain ⟨b, off, rfl, hb, c0⟩ := HC.out.cells j hlt
      have C0 := keepc HO.out.2 c0
      have hbl : b < wr.heap.size := cell_lt C0
      have H : Hid (bel (bs.take (j + 1)) = bel (bs.take j) ++ [if bs.getD j false = true then (0, 1) else (0, 0)]) := by show _ = _; rw [take_bs bs j hlt, bel_snoc]
      have j1 : (j : Int) < (bs.length : Int) := by omega
      have j0 : (0 : Int) ≤ (j : Int) := by omega
      clear c0 hb HC
      generalize bs.getD j false = x at *
      cases x
      · go_wp2_with (at_builtin; refine wpList_append_own _ rfl _ _ 36 rfl W.heap.size 41 i0 (.agg #[.int .u64 0, .int .u64 0]) 2 16 Try.underlying36 HI.out.1 HI.out.2.1 HI.out.2.2.1 HI.out.2.2.2 rfl (by decide) _ _ _ rfl (own_below HO.out.1 (by go_grown)) ⟨wr.heap.size + 1, 0, none⟩ 1 1 [.int .u64 0, .int .u64 0] rfl rfl (fun p u hu => by rcases p with _ | _ | p <;> simp at hu <;> subst hu <;> simp [go_sem]) (by intro u hu; simp at hu; subst hu; rfl) (by simp only [maxLen]; omega) (by omega) (by have := HO.out.2.size; simp; omega) ?_; intro v' w' hown' hgr _)
        refine ⟨⟨j + 1, hlt, by simp, ⟨?_, ?_⟩⟩, by simp [intOf]; omega⟩
        · rw [H.out, flat_snoc]; exact hown'
        · exact ((HO.out.2.alloc HO.out.2.size _).alloc (by have := HO.out.2.size; simp; omega) _).grown hgr (by have := HO.out.2.size; simp; omega) fun k hk => (HO.out.1.lt k hk).1
      · go_wp2_with (at_builtin; refine wpList_append_own _ rfl _ _ 36 rfl W.heap.size 41 i0 (.agg #[.int .u64 0, .int .u64 0]) 2 16 Try.underlying36 HI.out.1 HI.out.2.1 HI.out.2.2.1 HI.out.2.2.2 rfl (by decide) _ _ _ rfl (own_below HO.out.1 (by go_grown)) ⟨wr.heap.size + 1, 0, none⟩ 1 1 [.int .u64 0, .int .u64 1] rfl rfl (fun p u hu => by rcases p with _ | _ | p <;> simp at hu <;> subst hu <;> simp [go_sem]) (by intro u hu; simp at hu; rcases hu with rfl | rfl <;> rfl) (by simp only [maxLen]; omega) (by omega) (by have := HO.out.2.size; simp; omega) ?_; intro v' w' hown' hgr _)
        refine ⟨⟨j + 1, hlt, by simp, ⟨?_, ?_⟩⟩, by simp [intOf]; omega⟩
        · rw [H.out, flat_snoc]; exact hown'
        · exact Below.grown (by have h := HO.out.2.size; exact HO.out.2.trans (Below.mono (by go_grown) h)) hgr (by have := HO.out.2.size; simp; omega) fun k hk => (HO.out.1.lt k hk).1
    · obtain rfl : j = bs.length := by omega
      have h1 := HO.out.1
      rw [List.take_of_length_le (Nat.le_refl _)] at h1
      have hl : bs.length = (bel bs).length := (bel_len bs).symm
      rw [hl] at h1
      obtain ⟨a', cap', rfl, hE⟩ := own_row h1
      rw [← hl]
      have HB : Hid (ERow wr a' (bel bs) ∧ Below W.heap.size W wr) := ⟨hE, HO.out.2⟩
      clear h1 hE HC HO hl
      go_wp2
      go_ret
      exact ⟨a', cap', rfl, HB.out.1, HB.out.2⟩
theorem dots_xs (es fs : List (Nat × Nat)) : ∀ n, dots es fs n = xs n fun y => pm (el es y) (el fs y)
  | 0 => rfl
  | n + 1 => by
    rw [dots_succ, dots_xs es fs n]
    rfl
end Go.Proofs.Ythfebbmmhjkglaa
