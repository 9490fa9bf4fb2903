/- Contracts of tower.One and tower.Sum over the seat's translation. -/
import Derived.Test.YtdjndcgocmmmcaaTwJ
import Derived.Test.YtdjndcgocmmmcaaTwO
namespace Go.Proofs.Ytdjndcgocmmmcaa
open Go.RowKit

theorem one_any (W : World) : Calls Try.prog 34 #[] W fun e w' => e = .returned (.agg #[.int .u64 0, .int .u64 1]) ∧ Below W.heap.size W w' := by
  go_enter Try.func34, Try.ntmps34
  go_wp2
  refine bodyPost_ret (v := .agg #[.int .u64 0, .int .u64 1]) (by simp [results, Try.results34, go_sem]) rfl ⟨rfl, ?_⟩
  go_grown

/-- An element lies at a block's first cells. -/
structure El (w : World) (b h l : Nat) : Prop where
  hi : w.cell? ⟨b, 0, none⟩ = some (.int .u64 (h : Int))
  lo : w.cell? ⟨b, 1, none⟩ = some (.int .u64 (l : Int))
theorem El.below {w w' : World} {b h l : Nat} (e : El w b h l) (hb : Below w.heap.size w w') : El w' b h l := ⟨keepc hb e.hi, keepc hb e.lo⟩
/-- And can be written. -/
structure Ew (w : World) (b h l : Nat) : Prop extends El w b h l where
  fhi : w.frozen? ⟨b, 0, none⟩ = false
  flo : w.frozen? ⟨b, 1, none⟩ = false
theorem Ew.below {w w' : World} {b h l : Nat} (e : Ew w b h l) (hb : Below w.heap.size w w') : Ew w' b h l := ⟨e.toEl.below hb, keepf hb e.hi e.fhi, keepf hb e.lo e.flo⟩
theorem El.lt {w : World} {b h l : Nat} (e : El w b h l) : b < w.heap.size := by
  rcases Nat.lt_or_ge b w.heap.size with h1 | h1
  · exact h1
  · have := e.hi; simp [World.cell?, Array.getElem?_eq_none h1] at this

theorem El.alloc {w : World} {b h l : Nat} (e : El w b h l) (o : Obj) : El (w.alloc o) b h l := e.below ((Below.refl _ _).alloc (Nat.le_refl _) o)
theorem Ew.alloc {w : World} {b h l : Nat} (e : Ew w b h l) (o : Obj) : Ew (w.alloc o) b h l := e.below ((Below.refl _ _).alloc (Nat.le_refl _) o)
theorem El.drew {w : World} {b h l : Nat} (e : El w b h l) : El w.drew b h l := ⟨e.hi, e.lo⟩
theorem Ew.drew {w : World} {b h l : Nat} (e : Ew w b h l) : Ew w.drew b h l := ⟨⟨e.hi, e.lo⟩, e.fhi, e.flo⟩
theorem Ew.set {w : World} {b h l : Nat} (e : Ew w b h l) (h' l' : Nat) : Ew ((w.setCell ⟨b, 0, none⟩ (.int .u64 (h' : Int))).setCell ⟨b, 1, none⟩ (.int .u64 (l' : Int))) b h' l' := by
  obtain ⟨⟨e1, e0⟩, f1, f0⟩ := e
  exact ⟨⟨by simp [go_sem, *], by simp [go_sem, *]⟩, by simp [go_sem, *], by simp [go_sem, *]⟩
theorem Ew.other {w : World} {b c h l : Nat} (e : Ew w c h l) (hn : b ≠ c) (u v : Value) : Ew ((w.setCell ⟨b, 0, none⟩ u).setCell ⟨b, 1, none⟩ v) c h l := by
  obtain ⟨⟨e1, e0⟩, f1, f0⟩ := e
  have hn' : c ≠ b := fun h => hn h.symm
  exact ⟨⟨by simp [go_sem, *], by simp [go_sem, *]⟩, by simp [go_sem, *], by simp [go_sem, *]⟩

/-- All added. -/
def xsum (es : List (Nat × Nat)) : Nat × Nat := es.foldl (fun s e => (s.1 ^^^ e.1, s.2 ^^^ e.2)) (0, 0)
theorem xsum_snoc (es : List (Nat × Nat)) (e : Nat × Nat) : xsum (es ++ [e]) = ((xsum es).1 ^^^ e.1, (xsum es).2 ^^^ e.2) := by simp [xsum]
theorem xsum_lt (es : List (Nat × Nat)) (h : ∀ e ∈ es, e.1 < 2 ^ 64 ∧ e.2 < 2 ^ 64) : ∀ k, (xsum (es.take k)).1 < 2 ^ 64 ∧ (xsum (es.take k)).2 < 2 ^ 64 := by
  intro k
  induction k with
  | zero => simp [xsum]
  | succ k ih =>
    by_cases hk : k < es.length
    · rw [take_sn es k hk, xsum_snoc]
      have hm : es.getD k (0, 0) ∈ es := by rw [show es.getD k (0, 0) = es[k] by simp [hk]]; exact List.getElem_mem hk
      exact ⟨Nat.xor_lt_two_pow ih.1 (h _ hm).1, Nat.xor_lt_two_pow ih.2 (h _ hm).2⟩
    · rw [List.take_of_length_le (by omega)]; rw [List.take_of_length_le (by omega)] at ih; exact ih

set_option maxHeartbeats 1000000 in
theorem sum_any (b off cap : Nat) (es : List (Nat × Nat)) (hes : ∀ e ∈ es, e.1 < 2 ^ 64 ∧ e.2 < 2 ^ 64) (h30 : es.length ≤ 100000) (W : World) (hb : b < W.heap.size)
    (hc : ∀ i, i < es.length → W.cell? ⟨b, off + i * 2, none⟩ = some (.int .u64 ((es.getD i (0, 0)).1 : Nat)) ∧ W.cell? ⟨b, off + i * 2 + 1, none⟩ = some (.int .u64 ((es.getD i (0, 0)).2 : Nat))) :
    Calls Try.prog 35 #[.slice (some ⟨b, off, none⟩) es.length cap] W fun e w' => e = .returned (.agg #[.int .u64 ((xsum es).1 : Nat), .int .u64 ((xsum es).2 : Nat)]) ∧ Below W.heap.size W w' := by
  have HC : Hid (∀ i, i < es.length → W.cell? ⟨b, off + i * 2, none⟩ = some (.int .u64 ((es.getD i (0, 0)).1 : Nat)) ∧ W.cell? ⟨b, off + i * 2 + 1, none⟩ = some (.int .u64 ((es.getD i (0, 0)).2 : Nat))) := hc
  have HE : Hid (∀ e ∈ es, e.1 < 2 ^ 64 ∧ e.2 < 2 ^ 64) := hes
  clear hc hes
  go_enter Try.func35, Try.ntmps35
  go_wp2_with fail
  go_loopw [8] (fun u wr => ∃ j : Nat, j ≤ es.length ∧ u = .int .i64 j ∧ Ew wr (W.heap.size + 1) (xsum (es.take j)).1 (xsum (es.take j)).2 ∧ Ew wr W.heap.size 0 0 ∧ Below W.heap.size W wr) (fun u _ => es.length - (intOf u).toNat)
  case atStart => exact ⟨0, Nat.zero_le _, rfl, ⟨⟨by simp [go_sem, xsum], by simp [go_sem, xsum]⟩, by simp [go_sem], by simp [go_sem]⟩, ⟨⟨by simp [go_sem], by simp [go_sem]⟩, by simp [go_sem], by simp [go_sem]⟩, by go_grown⟩
  case round =>
    obtain ⟨j, hj, rfl, hs, hr, hbw⟩ := hrel
    by_cases hlt : j < es.length
    · obtain ⟨c1, c0⟩ := HC.out j hlt
      have d1 : wr.cell? ⟨b, off + j * 2, none⟩ = some (.int .u64 ((es.getD j (0, 0)).1 : Nat)) := by rw [hbw.cell (p := ⟨b, off + j * 2, none⟩) hb]; exact c1
      have d0 : wr.cell? ⟨b, off + j * 2 + 1, none⟩ = some (.int .u64 ((es.getD j (0, 0)).2 : Nat)) := by rw [hbw.cell (p := ⟨b, off + j * 2 + 1, none⟩) hb]; exact c0
      have HT : Hid (es.take (j + 1) = es.take j ++ [es.getD j (0, 0)]) := take_sn es j hlt
      have hm : es.getD j (0, 0) ∈ es := by rw [show es.getD j (0, 0) = es[j] by simp [hlt]]; exact List.getElem_mem hlt
      have HX : Hid ((es.getD j (0, 0)).1 < 2 ^ 64 ∧ (es.getD j (0, 0)).2 < 2 ^ 64) := HE.out _ hm
      have HS : Hid ((xsum (es.take j)).1 < 2 ^ 64 ∧ (xsum (es.take j)).2 < 2 ^ 64) := xsum_lt es HE.out j
      have HB : Hid (Below W.heap.size W wr) := hbw
      have HR : Hid (Ew wr W.heap.size 0 0) := hr
      have HW : Hid (Ew wr (W.heap.size + 1) (xsum (es.take j)).1 (xsum (es.take j)).2) := hs
      have HG : Hid (xsum (es.take (j + 1)) = ((xsum (es.take j)).1 ^^^ (es.getD j (0, 0)).1, (xsum (es.take j)).2 ^^^ (es.getD j (0, 0)).2)) := by
        show _ = _
        rw [HT.out, xsum_snoc]
      have s1 := hs.hi
      have s0 := hs.lo
      have hz : W.heap.size + 1 < wr.heap.size := hs.toEl.lt
      clear hs hr hbw c1 c0 hm HT HE HC
      generalize es.getD j (0, 0) = x at *
      generalize xsum (es.take j) = t at *
      go_wp2_with fail
      refine (add_any _ _ _ _ HS.out.1 HS.out.2 HX.out.1 HX.out.2 _).mono ?_
      rintro e w1 ⟨rfl, hb1⟩
      have HW1 : Hid (Ew w1 (W.heap.size + 1) t.1 t.2) := (HW.out.alloc _).below hb1
      have HR1 : Hid (Ew w1 W.heap.size 0 0) := (HR.out.alloc _).below hb1
      have HB1 : Hid (Below W.heap.size W w1) := (HB.out.alloc HB.out.size _).trans (hb1.mono (by have := HB.out.size; simp; omega))
      have g1 := HW1.out.hi
      have g0 := HW1.out.lo
      have q1 := HW1.out.fhi
      have q0 := HW1.out.flo
      clear hb1 HW HR HB
      go_wp2
      refine ⟨⟨j + 1, hlt, by simp, ?_, ?_, ?_⟩, by simp [intOf]; omega⟩
      · rw [HG.out]; exact HW1.out.set _ _
      · exact HR1.out.other (by omega) _ _
      · exact (HB1.out.setCell (by simp) _).setCell (by simp) _
    · have hje : j = es.length := by omega
      subst hje
      have HB : Hid (Below W.heap.size W wr) := hbw
      rw [List.take_of_length_le (Nat.le_refl _)] at hs
      obtain ⟨⟨s1, s0⟩, _, _⟩ := hs
      obtain ⟨⟨r1, r0⟩, f1, f0⟩ := hr
      clear hbw HC HE
      go_wp2
      refine bodyPost_ret (v := .agg #[.int .u64 ((xsum es).1 : Nat), .int .u64 ((xsum es).2 : Nat)]) (by simp [results, Try.results35, go_sem, *]) rfl ⟨rfl, ?_⟩
      exact (HB.out.setCell (by simp) _).setCell (by simp) _
theorem sum_none (W : World) : Calls Try.prog 35 #[.slice none 0 0] W fun e w' => e = .returned (.agg #[.int .u64 0, .int .u64 0]) ∧ Below W.heap.size W w' := by
  go_enter Try.func35, Try.ntmps35
  go_wp2_with fail
  go_rounds 1
  go_wp2
  refine bodyPost_ret (v := .agg #[.int .u64 0, .int .u64 0]) (by simp [results, Try.results35, go_sem]) rfl ⟨rfl, ?_⟩
  go_grown
end Go.Proofs.Ytdjndcgocmmmcaa
