/- The contracts of the document's In, of steeplelaw01.Ref, and of layer 4's example, over the seat's translation. -/
import Derived.Test.YtkllihomdlibgaaSqK
namespace Go.Proofs.Ytkllihomdlibgaa
open Go.RowKit
open Cb Rg Sq

set_option maxHeartbeats 1000000 in
set_option maxRecDepth 100000 in
/-- Elements as the document has them. -/
theorem sref_own (a : Option Addr) (cap : Nat) (es : List (Nat × Nat)) (hn : es.length ≤ 1000) (W : World) (hr : ERow W a es) :
    Calls Try.prog 11 #[.slice a es.length cap] W fun e w' => ∃ a' cap', e = .returned (.slice a' es.length cap') ∧ w'.ownsRow W.heap.size 30 2 (.slice a' es.length cap') es.length (flat es) ∧ Below W.heap.size W w' := by
  have HC : Hid (ERow W a es) := hr
  clear hr
  go_enter Try.func11, Try.ntmps11
  go_wp2_with fail
  go_loopw [3, 4] (fun v u wr => ∃ j : Nat, j ≤ es.length ∧ u = .int .i64 j ∧ wr.ownsRow W.heap.size 30 2 v j (flat (es.take j)) ∧ Below W.heap.size W wr) (fun _ u _ => es.length - (intOf u).toNat)
  case atStart => exact ⟨0, Nat.zero_le _, rfl, ⟨by simp [flat], .inl ⟨rfl, rfl⟩⟩, Below.refl _ _⟩
  case round =>
    obtain ⟨j, hj, rfl, hown, hbw⟩ := hrel
    by_cases hlt : j < es.length
    · obtain ⟨b, off, rfl, hb, c1, c0⟩ := HC.out.cells j hlt
      have d1 : wr.cell? ⟨b, off + j * 2, none⟩ = some (.int .u64 ((es.getD j (0, 0)).1 : Nat)) := by rw [hbw.cell (p := ⟨b, off + j * 2, none⟩) hb]; exact c1
      have d0 : wr.cell? ⟨b, off + j * 2 + 1, none⟩ = some (.int .u64 ((es.getD j (0, 0)).2 : Nat)) := by rw [hbw.cell (p := ⟨b, off + j * 2 + 1, none⟩) hb]; exact c0
      have H : Hid (es.take (j + 1) = es.take j ++ [es.getD j (0, 0)]) := take_sn es j hlt
      obtain ⟨i0, hi, hz0, hz1, hz2⟩ := info_relem
      have HI : Hid (Try.prog.info? 30 = some i0 ∧ i0.zero = some (.agg #[.int .u64 0, .int .u64 0]) ∧ i0.size = 2 ∧ i0.bytes = 16) := ⟨hi, hz0, hz1, hz2⟩
      have HO : Hid (wr.ownsRow W.heap.size 30 2 u3 j (flat (es.take j))) := hown
      have HB : Hid (Below W.heap.size W wr) := hbw
      clear hown c1 c0 hi hz0 hz1 hz2 hbw HC
      generalize es.getD j (0, 0) = x at *
      go_wp2_with (at_builtin; refine wpList_append_own _ rfl _ _ 27 rfl W.heap.size 30 i0 (.agg #[.int .u64 0, .int .u64 0]) 2 16 Try.underlying27 HI.out.1 HI.out.2.1 HI.out.2.2.1 HI.out.2.2.2 rfl (by decide) _ _ _ rfl (own_below HO.out (by go_grown)) ⟨wr.heap.size, 0, none⟩ 1 1 [.int .u64 (x.1 : Int), .int .u64 (x.2 : Int)] rfl rfl (fun p u hu => by rcases p with _ | _ | p <;> simp at hu <;> subst hu <;> simp [go_sem]) (by intro u hu; simp at hu; rcases hu with rfl | rfl <;> rfl) (by simp only [maxLen]; omega) (by omega) (by have := HB.out.size; simp; omega) ?_; intro v' w' hown' hgr _)
      refine ⟨⟨j + 1, hlt, by simp, ?_, ?_⟩, by simp [intOf]; omega⟩
      · rw [H.out, flat_snoc]; exact hown'
      · exact (HB.out.alloc HB.out.size _).grown hgr (by have := HB.out.size; simp; omega) fun k hk => (HO.out.lt k hk).1
    · have hje : j = es.length := by omega
      subst hje
      rw [List.take_of_length_le (Nat.le_refl _)] at hown
      have HB : Hid (Below W.heap.size W wr) := hbw
      obtain ⟨a', cap', hv, _⟩ := own_row hown
      subst hv
      have HE := hidT hown
      clear hown hbw HC
      go_wp2
      go_ret
      exact ⟨_, _, rfl, HE.out, HB.out⟩
theorem eq_dec (a b : Nat) : ((a : Int) == (b : Int)) = decide (a = b) := by
  rw [Bool.eq_iff_iff, beq_iff_eq, decide_eq_true_iff]; omega
set_option maxHeartbeats 4000000 in
set_option maxRecDepth 100000 in
theorem rIn04 (a : Option Addr) (cap : Nat) (l : List (Nat × Nat)) (hl : ltE l) (hn : l.length ≤ 900) (x : Nat × Nat) (hx : lt2 x) (W : World) (hr : ERow W a l) :
    Calls Try.prog 16 #[.slice a l.length cap, .agg #[.int .u64 (x.1 : Int), .int .u64 (x.2 : Int)]] W fun e w' => e = .returned (.bool (decide ((rb (l ++ [x])).length = (rb l).length))) ∧ Below W.heap.size W w' := by
  have HC : Hid (ERow W a l) := hr
  have hl2 : ltE (l ++ [x]) := fun e he => by
    simp only [List.mem_append, List.mem_singleton] at he
    rcases he with he | rfl
    · exact hl e he
    · exact hx
  have HB1 : Hid (∀ w a cap, ERow w a (l ++ [x]) → Calls Try.prog 10 #[.slice a (l.length + 1) cap] w fun e w' => ∃ a' cap', e = .returned (.slice a' (rb (l ++ [x])).length cap') ∧ Below w.heap.size w w') := fun w a cap h => by
    have := rbasis04 a cap (l ++ [x]) hl2 (by simp; omega) w h
    rw [List.length_append, List.length_singleton] at this
    exact this.mono fun e w' ⟨a', c', e1, _, e3⟩ => ⟨a', c', e1, e3⟩
  have HB2 : Hid (∀ w, Below W.heap.size W w → Calls Try.prog 10 #[.slice a l.length cap] w fun e w' => ∃ a' cap', e = .returned (.slice a' (rb l).length cap') ∧ Below w.heap.size w w') := fun w hw => by
    have := rbasis04 a cap l hl (by omega) w (hr.below hw)
    exact this.mono fun e w' ⟨a', c', e1, _, e3⟩ => ⟨a', c', e1, e3⟩
  clear hr hl hl2 hx
  obtain ⟨i0, hi, hz0, hz1, hz2⟩ := info_relem
  have HI : Hid (Try.prog.info? 30 = some i0 ∧ i0.zero = some (.agg #[.int .u64 0, .int .u64 0]) ∧ i0.size = 2 ∧ i0.bytes = 16) := ⟨hi, hz0, hz1, hz2⟩
  clear hi hz0 hz1 hz2
  generalize (rb (l ++ [x])).length = R1 at *
  generalize (rb l).length = R2 at *
  go_enter Try.func16, Try.ntmps16
  go_wp2_with fail
  go_loopw [5, 6] (fun v u wr => ∃ j : Nat, j ≤ l.length ∧ u = .int .i64 j ∧ wr.ownsRow (W.heap.size + 1) 30 2 v j (flat (l.take j)) ∧ Below W.heap.size W wr ∧ El wr W.heap.size x.1 x.2) (fun _ u _ => l.length - (intOf u).toNat)
  case atStart => exact ⟨0, Nat.zero_le _, rfl, ⟨by simp [flat], .inl ⟨rfl, rfl⟩⟩, by go_grown, ⟨by simp [go_sem], by simp [go_sem]⟩⟩
  case round =>
    obtain ⟨j, hj, rfl, hown, hbw, hE⟩ := hrel
    have hq : W.heap.size < wr.heap.size := hE.lt
    by_cases hlt : j < l.length
    · obtain ⟨b, off, rfl, hb, c1, c0⟩ := HC.out.cells j hlt
      have d1 : wr.cell? ⟨b, off + j * 2, none⟩ = some (.int .u64 ((el l j).1 : Int)) := keepc hbw c1
      have d0 : wr.cell? ⟨b, off + j * 2 + 1, none⟩ = some (.int .u64 ((el l j).2 : Int)) := keepc hbw c0
      have H : Hid (l.take (j + 1) = l.take j ++ [el l j]) := take_sn l j hlt
      have HO : Hid (wr.ownsRow (W.heap.size + 1) 30 2 u5 j (flat (l.take j)) ∧ Below W.heap.size W wr ∧ El wr W.heap.size x.1 x.2) := ⟨hown, hbw, hE⟩
      clear hown c1 c0 hbw hE HB1 HB2 HC
      generalize el l j = y at *
      go_wp2_with (at_builtin; refine wpList_append_own _ rfl _ _ 27 rfl (W.heap.size + 1) 30 i0 (.agg #[.int .u64 0, .int .u64 0]) 2 16 Try.underlying27 HI.out.1 HI.out.2.1 HI.out.2.2.1 HI.out.2.2.2 rfl (by decide) _ _ _ rfl (own_below HO.out.1 (by go_grown)) ⟨wr.heap.size, 0, none⟩ 1 1 [.int .u64 (y.1 : Int), .int .u64 (y.2 : Int)] rfl rfl (fun p u hu => by rcases p with _ | _ | p <;> simp at hu <;> subst hu <;> simp [go_sem]) (by intro u hu; simp at hu; rcases hu with rfl | rfl <;> rfl) (by simp only [maxLen]; omega) (by omega) (by simp; omega) ?_; intro v' w' hown' hgr _)
      have BA : Below wr.heap.size wr (wr.alloc (Obj.cells #[.int .u64 (y.1 : Int), .int .u64 (y.2 : Int)] 30)) := (Below.refl _ _).alloc (Nat.le_refl _) _
      refine ⟨⟨j + 1, hlt, by simp, ?_, ?_, ?_⟩, by simp [intOf]; omega⟩
      · rw [H.out, flat_snoc]; exact hown'
      · exact (HO.out.2.1.trans (BA.mono (by omega))).grown hgr (by simp; omega) fun k hk => by have := (HO.out.1.lt k hk).1; omega
      · exact (HO.out.2.2.below BA).growR hgr fun e => by have := (HO.out.1.lt _ e).1; omega
    · have hje : j = l.length := by omega
      subst hje
      rw [List.take_of_length_le (Nat.le_refl _)] at hown
      have HO : Hid (wr.ownsRow (W.heap.size + 1) 30 2 u5 l.length (flat l) ∧ Below W.heap.size W wr) := ⟨hown, hbw⟩
      have d1 := hE.hi
      have d0 := hE.lo
      clear hown hbw hE HC
      go_wp2_with (first
        | (at_builtin; refine wpList_append_own _ rfl _ _ 27 rfl (W.heap.size + 1) 30 i0 (.agg #[.int .u64 0, .int .u64 0]) 2 16 Try.underlying27 HI.out.1 HI.out.2.1 HI.out.2.2.1 HI.out.2.2.2 rfl (by decide) _ _ _ rfl (own_below HO.out.1 (by go_grown)) ⟨wr.heap.size, 0, none⟩ 1 1 [.int .u64 (x.1 : Int), .int .u64 (x.2 : Int)] rfl rfl (fun p u hu => by rcases p with _ | _ | p <;> simp at hu <;> subst hu <;> simp [go_sem]) (by intro u hu; simp at hu; rcases hu with rfl | rfl <;> rfl) (by simp only [maxLen]; omega) (by omega) (by simp; omega) ?_; intro v' w' hown' hgr _; have D6 := hidT (((HO.out.2.trans (((Below.refl _ _).alloc (Nat.le_refl wr.heap.size) (Obj.cells #[.int .u64 (x.1 : Int), .int .u64 (x.2 : Int)] 30)).mono (by omega))).grown hgr (by simp; omega) fun k hk => by have := (HO.out.1.lt k hk).1; omega) : Below W.heap.size W w'); obtain ⟨a6, c6, e6, E6⟩ := own_row (es := l ++ [x]) (by rw [List.length_append, List.length_singleton, flat_snoc]; exact hown'); rw [List.length_append, List.length_singleton] at e6; subst e6; have E7 := hidT E6; clear hown' hgr E6 d1 d0)
        | (go_at_call_of 10 (#[.slice a l.length cap] : Array Value); refine (HB2.out _ D8.out).mono ?_; rintro e w9 ⟨a9, c9, rfl, hb9⟩; have D9 := hidT (D8.out.trans (hb9.mono D8.out.size)); clear hb9)
        | (go_at_call 10; refine (HB1.out _ _ _ E7.out).mono ?_; rintro e w8 ⟨a8, c8, rfl, hb8⟩; have D8 := hidT (D6.out.trans (hb8.mono D6.out.size)); clear hb8))
      go_ret
      exact ⟨by rw [← eq_dec R1 R2]; rfl, D9.out⟩
/-- Numbers as elements. -/
def num (ns : List Nat) : List (Nat × Nat) := ns.map fun n => (0, n)
theorem num_take (ns : List Nat) (j : Nat) (h : j < ns.length) : (num ns).take (j + 1) = (num ns).take j ++ [(0, ns.getD j 0)] := by
  rw [take_sn _ j (by simp [num]; exact h)]
  congr 2
  simp [num, List.getD, h]
set_option maxHeartbeats 2000000 in
set_option maxRecDepth 100000 in
theorem few04 (b cap : Nat) (ns : List Nat) (hn : ns.length ≤ 1000) (W : World) (HC : Hid (b < W.heap.size ∧ ∀ i, i < ns.length → W.cell? ⟨b, i, none⟩ = some (.int .u64 ((ns.getD i 0 : Nat) : Int)))) :
    Calls Try.prog 34 #[.slice (some ⟨b, 0, none⟩) ns.length cap] W fun e w' => ∃ a' cap', e = .returned (.slice a' ns.length cap') ∧ ERow w' a' (num ns) ∧ Below W.heap.size W w' := by
  obtain ⟨i0, hi, hz0, hz1, hz2⟩ := info_elem
  have HI : Hid (Try.prog.info? 25 = some i0 ∧ i0.zero = some (.agg #[.int .u64 0, .int .u64 0]) ∧ i0.size = 2 ∧ i0.bytes = 16) := ⟨hi, hz0, hz1, hz2⟩
  clear hi hz0 hz1 hz2
  go_enter Try.func34, Try.ntmps34
  go_wp2_with fail
  go_loopw [3, 4] (fun v u wr => ∃ j : Nat, j ≤ ns.length ∧ u = .int .i64 j ∧ wr.ownsRow W.heap.size 25 2 v j (flat ((num ns).take j)) ∧ Below W.heap.size W wr) (fun _ u _ => ns.length - (intOf u).toNat)
  case atStart => exact ⟨0, Nat.zero_le _, rfl, ⟨by simp [flat], .inl ⟨rfl, rfl⟩⟩, Below.refl _ _⟩
  case round =>
    obtain ⟨j, hj, rfl, hown, hbw⟩ := hrel
    by_cases hlt : j < ns.length
    · have d0 := keepc hbw (HC.out.2 j hlt)
      have H := hidT (num_take ns j hlt)
      have HO : Hid (wr.ownsRow W.heap.size 25 2 u3 j (flat ((num ns).take j)) ∧ Below W.heap.size W wr) := ⟨hown, hbw⟩
      clear hown hbw HC
      generalize ns.getD j 0 = x at *
      go_wp2_with (at_builtin; refine wpList_append_own _ rfl _ _ 22 rfl W.heap.size 25 i0 (.agg #[.int .u64 0, .int .u64 0]) 2 16 Try.underlying22 HI.out.1 HI.out.2.1 HI.out.2.2.1 HI.out.2.2.2 rfl (by decide) _ _ _ rfl (own_below HO.out.1 (by go_grown)) ⟨wr.heap.size, 0, none⟩ 1 1 [.int .u64 0, .int .u64 (x : Int)] rfl rfl (fun p u hu => by rcases p with _ | _ | p <;> simp at hu <;> subst hu <;> simp [go_sem]) (by intro u hu; simp at hu; rcases hu with rfl | rfl <;> rfl) (by simp only [maxLen]; omega) (by omega) (by have := HO.out.2.size; simp; omega) ?_; intro v' w' hown' hgr _)
      refine ⟨⟨j + 1, hlt, by simp, ?_, ?_⟩, by simp [intOf]; omega⟩
      · rw [H.out, flat_snoc]; exact hown'
      · exact (HO.out.2.alloc HO.out.2.size _).grown hgr (by have := HO.out.2.size; simp; omega) fun k hk => (HO.out.1.lt k hk).1
    · have hje : j = ns.length := by omega
      subst hje
      have hln : (num ns).length = ns.length := by simp [num]
      rw [List.take_of_length_le (by omega)] at hown
      have HB := hidT hbw
      rw [← hln] at hown
      obtain ⟨a', cap', hv, hE⟩ := own_row hown
      rw [hln] at hv
      subst hv
      have HE := hidT hE
      clear hown hbw HC hE
      go_wp2
      go_ret
      exact ⟨_, _, rfl, HE.out, HB.out⟩
end Go.Proofs.Ytkllihomdlibgaa
