/- The contracts of weave.Column and steepleref09.Column over the seat's translation. -/
import Derived.Test.YtccaobfhldfamaaPWvN
import Derived.Test.YtccaobfhldfamaaPWvH
namespace Go.Proofs.Ytccaobfhldfamaa
open Go.RowKit

/-- Rows with their elements. -/
def Held (w : World) (ls : List (Option Addr × Nat × Nat)) (rs : List (List (Nat × Nat))) : Prop := ∀ i, i < ls.length → (ls.getD i (none, 0, 0)).2.1 = (rs.getD i []).length ∧ ltE (rs.getD i []) ∧ ERow w (ls.getD i (none, 0, 0)).1 (rs.getD i [])
theorem Held.below {w w' : World} {ls : List (Option Addr × Nat × Nat)} {rs : List (List (Nat × Nat))} (h : Held w ls rs) (hb : Below w.heap.size w w') : Held w' ls rs := fun i hi => ⟨(h i hi).1, (h i hi).2.1, (h i hi).2.2.below hb⟩
/-- A column. -/
def colv (n : Nat) (rs : List (List (Nat × Nat))) (j : Nat) : List (Nat × Nat) := (List.range n).map fun i => (rs.getD i []).getD j (0, 0)
theorem colv_len (n : Nat) (rs : List (List (Nat × Nat))) (j : Nat) : (colv n rs j).length = n := by simp [colv]
theorem colv_at (n : Nat) (rs : List (List (Nat × Nat))) (j i : Nat) (hi : i < n) : (colv n rs j).getD i (0, 0) = (rs.getD i []).getD j (0, 0) := by simp [colv, List.getD, hi]
theorem even_at {ls : List (Option Addr × Nat × Nat)} (h : evenB ls = true) (i : Nat) (hi : i < ls.length) : (ls.getD i (none, 0, 0)).2.1 = (ls.getD 0 (none, 0, 0)).2.1 := by
  have := List.all_eq_true.1 h _ (mem_sg ls i hi)
  simpa using this
set_option maxHeartbeats 1000000 in
theorem col_size (v : Value) (j : Int) (W : World) (HS : Hid (Calls Try.prog 15 #[v] W fun e w' => e = .returned (.bool false) ∧ Below W.heap.size W w')) :
    Calls Try.prog 6 #[v, .int .i64 j] W fun e w' => e = .returned (.tuple #[.slice none 0 0, .int .i64 6]) ∧ Below W.heap.size W w' := by
  go_enter Try.func6, Try.ntmps6
  go_wp2_with (first | (go_at_call 15; refine HS.out.mono ?_; rintro e w1 ⟨rfl, hb1⟩))
  refine bodyPost_ret (v := .tuple #[.slice none 0 0, .int .i64 6]) (by simp [results, Try.results6, go_sem]) rfl ⟨rfl, ?_⟩
  exact hb1
set_option maxHeartbeats 1000000 in
theorem col_none (v : Value) (j : Int) (n : Nat) (hj : j < 0 ∨ (n : Int) ≤ j) (W : World) (HS : Hid (Calls Try.prog 15 #[v] W fun e w' => e = .returned (.bool true) ∧ Below W.heap.size W w'))
    (HW : Hid (∀ w, Below W.heap.size W w → Calls Try.prog 16 #[v] w fun e w' => e = .returned (.int .i64 (n : Int)) ∧ Below w.heap.size w w')) :
    Calls Try.prog 6 #[v, .int .i64 j] W fun e w' => e = .returned (.tuple #[.slice none 0 0, .int .i64 4]) ∧ Below W.heap.size W w' := by
  by_cases h0 : j < 0
  · clear hj
    go_enter Try.func6, Try.ntmps6
    go_wp2_with (first | (go_at_call 15; refine HS.out.mono ?_; rintro e w1 ⟨rfl, hb1⟩) | (go_at_call 16; refine (HW.out _ hb1).mono ?_; rintro e w2 ⟨rfl, hb2⟩))
    refine bodyPost_ret (v := .tuple #[.slice none 0 0, .int .i64 4]) (by simp [results, Try.results6, go_sem]) rfl ⟨rfl, ?_⟩
    exact hb1
  · have h1 : (n : Int) ≤ j := by omega
    clear hj
    go_enter Try.func6, Try.ntmps6
    go_wp2_with (first | (go_at_call 15; refine HS.out.mono ?_; rintro e w1 ⟨rfl, hb1⟩) | (go_at_call 16; refine (HW.out _ hb1).mono ?_; rintro e w2 ⟨rfl, hb2⟩))
    refine bodyPost_ret (v := .tuple #[.slice none 0 0, .int .i64 4]) (by simp [results, Try.results6, go_sem]) rfl ⟨rfl, ?_⟩
    exact hb1.trans (hb2.mono hb1.size)
set_option maxHeartbeats 2000000 in
set_option maxRecDepth 100000 in
theorem col_ok (a : Option Addr) (cap j : Nat) (ls : List (Option Addr × Nat × Nat)) (rs : List (List (Nat × Nat))) (hn : ls.length ≤ 1000) (hj : j < (ls.getD 0 (none, 0, 0)).2.1) (he : evenB ls = true) (W : World) (hr : Grid W a ls) (hh : Held W ls rs) :
    Calls Try.prog 6 #[.slice a ls.length cap, .int .i64 (j : Int)] W fun e w' => ∃ p, e = .returned (.tuple #[.slice (some ⟨p, 0, none⟩) ls.length ls.length, .int .i64 0]) ∧ ERow w' (some ⟨p, 0, none⟩) (colv ls.length rs j) ∧ W.heap.size ≤ p ∧ Below W.heap.size W w' := by
  obtain ⟨i0, hi, hz0, hz1, hz2⟩ := info_elem
  have HN : Hid (Try.prog.info? 44 = some i0 ∧ i0.zero = some (.agg #[.int .u64 0, .int .u64 0]) ∧ i0.size = 2 ∧ i0.bytes = 16) := ⟨hi, hz0, hz1, hz2⟩
  have HS : Hid (Calls Try.prog 15 #[.slice a ls.length cap] W fun e w' => e = .returned (.bool true) ∧ Below W.heap.size W w') := by
    have := slen_any a cap ls hn W hr
    rw [he] at this
    exact this
  obtain ⟨n0, HN0⟩ : ∃ n0, Hid (n0 = (ls.getD 0 (none, 0, 0)).2.1) := ⟨_, rfl⟩
  have HW : Hid (∀ w, Below W.heap.size W w → Calls Try.prog 16 #[.slice a ls.length cap] w fun e w' => e = .returned (.int .i64 (n0 : Int)) ∧ Below w.heap.size w w') := fun w hb => by rw [HN0.out]; exact wid_any a cap ls w (hr.below hb)
  have HE : Hid (evenB ls = true) := he
  have HR : Hid (Grid W a ls) := hr
  have HH : Hid (Held W ls rs) := hh
  have HJ : Hid (j < (ls.getD 0 (none, 0, 0)).2.1) := hj
  have j1 : (j : Int) < (n0 : Int) := by rw [HN0.out]; omega
  have j2 : (0 : Int) ≤ (j : Int) := by omega
  clear hi hz0 hz1 hz2 hr hh hj he
  go_enter Try.func6, Try.ntmps6
  go_wp2_with (first | (go_at_call 15; refine HS.out.mono ?_; rintro e w1 ⟨rfl, hb1⟩) | (go_at_call 16; refine (HW.out _ hb1).mono ?_; rintro e w2 ⟨rfl, hb2⟩) | (at_make; refine wpList_make_full _ rfl _ _ 23 rfl 0 44 i0 (.agg #[.int .u64 0, .int .u64 0]) 2 Try.underlying23 HN.out.1 HN.out.2.1 HN.out.2.2.1 .i64 .i64 _ _ ls.length rfl rfl rfl rfl (by rw [HN.out.2.2.2]; omega) (by simp only [maxLen]; omega) (Nat.zero_le _) ?_; intro w3 own3 hgr3))
  have hg1 : W.heap.size ≤ w2.heap.size := Nat.le_trans hb1.size hb2.size
  obtain ⟨f0, R3⟩ := own_isRow own3 (rfl : ls.length * 2 = ls.length * 2)
  have D : Hid (Below W.heap.size W w3) := (hb1.trans (hb2.mono hb1.size)).grown hgr3 hg1 (fun k hk => by cases hk)
  have R0 : Hid (w3.rowIs w2.heap.size 44 (ls.length * 2) f0) := R3
  clear own3 hgr3 hb1 hb2 R3 HN HS HW j1
  generalize w2.heap.size = p at *
  go_loopw [27] (fun u wr => ∃ (i : Nat) (F : Nat → Value), i ≤ ls.length ∧ u = .int .i64 i ∧ wr.rowIs p 44 (ls.length * 2) F ∧ Hid (∀ k, k < i * 2 → F k = gcell (colv ls.length rs j) k) ∧ Below W.heap.size W wr) (fun u _ => ls.length - (intOf u).toNat)
  case atStart => exact ⟨0, f0, Nat.zero_le _, rfl, R0.out, (fun k hk => by omega), D.out⟩
  case round =>
    obtain ⟨i, F, hi, rfl, hR, HF, hD⟩ := hrel
    clear R0 D
    have HRr : Hid (wr.rowIs p 44 (ls.length * 2) F) := hR
    have HD : Hid (Below W.heap.size W wr) := hD
    clear hR hD
    by_cases hlt : i < ls.length
    · obtain ⟨b, off, rfl, hb, cb⟩ := HR.out.cells i hlt
      have db := keepc HD.out cb
      obtain ⟨q1, q2, q3⟩ := HH.out i hlt
      have hjl : j < (rs.getD i []).length := by rw [← q1, even_at HE.out i hlt]; exact HJ.out
      obtain ⟨b', off', hx, hb', y1, y0⟩ := q3.cells j hjl
      have d1 := keepc HD.out y1
      have d0 := keepc HD.out y0
      have HC : Hid ((colv ls.length rs j).getD i (0, 0) = (rs.getD i []).getD j (0, 0)) := colv_at _ rs j i hlt
      rw [hx, q1] at db
      have hjl1 : (j : Int) < ((rs.getD i []).length : Int) := by omega
      have c1 := HRr.out.cell (i := i * 2) (by omega)
      have c0 := HRr.out.cell (i := i * 2 + 1) (by omega)
      have z1 := HRr.out.frozen (i * 2)
      have z0 := HRr.out.frozen (i * 2 + 1)
      have hne : ¬ b' = p := by omega
      have hne' : ¬ b = p := by omega
      clear cb q1 q2 q3 y1 y0 hx
      generalize (ls.getD i (none, 0, 0)).2.2 = cp at *
      generalize (rs.getD i []).getD j (0, 0) = x at *
      generalize (rs.getD i []).length = m at *
      go_wp2
      refine ⟨⟨i + 1, _, hlt, by simp, (HRr.out.set (i * 2) _).set (i * 2 + 1) _, fun k hk => ?_, (HD.out.setCell hg1 _).setCell hg1 _⟩, by simp [intOf]; omega⟩
      by_cases e1 : k = i * 2 + 1
      · rw [if_pos e1]; unfold gcell; rw [if_neg (by omega), show k / 2 = i by omega, HC.out]
      · rw [if_neg e1]
        by_cases e2 : k = i * 2
        · rw [if_pos e2]; unfold gcell; rw [if_pos (by omega), show k / 2 = i by omega, HC.out]
        · rw [if_neg e2]; exact HF.out k (by omega)
    · obtain rfl : i = ls.length := by omega
      have HEr : Hid (ERow wr (some ⟨p, 0, none⟩) (colv ls.length rs j)) := row_g (n := ls.length) (colv_len _ rs j) HRr.out (fun k hk => HF.out k hk)
      go_wp2
      refine bodyPost_ret (v := .tuple #[.slice (some ⟨p, 0, none⟩) ls.length ls.length, .int .i64 0]) (by simp [results, Try.results6, go_sem]) rfl ?_
      exact ⟨_, rfl, HEr.out, hg1, HD.out⟩
theorem colv_take (rs : List (List (Nat × Nat))) (j n : Nat) : colv (n + 1) rs j = colv n rs j ++ [(rs.getD n []).getD j (0, 0)] := by simp [colv, List.range_succ]
set_option maxHeartbeats 1000000 in
theorem rcol_size (v : Value) (j : Int) (W : World) (HS : Hid (Calls Try.prog 17 #[v] W fun e w' => e = .returned (.bool false) ∧ Below W.heap.size W w')) :
    Calls Try.prog 7 #[v, .int .i64 j] W fun e w' => e = .returned (.tuple #[.slice none 0 0, .int .i64 6]) ∧ Below W.heap.size W w' := by
  go_enter Try.func7, Try.ntmps7
  go_wp2_with (first | (go_at_call 17; refine HS.out.mono ?_; rintro e w1 ⟨rfl, hb1⟩))
  refine bodyPost_ret (v := .tuple #[.slice none 0 0, .int .i64 6]) (by simp [results, Try.results7, go_sem]) rfl ⟨rfl, ?_⟩
  exact hb1
set_option maxHeartbeats 2000000 in
set_option maxRecDepth 100000 in
theorem rcol_ok (a : Option Addr) (cap j : Nat) (ls : List (Option Addr × Nat × Nat)) (rs : List (List (Nat × Nat))) (hn : ls.length ≤ 1000) (hl : 0 < ls.length) (hj : j < (ls.getD 0 (none, 0, 0)).2.1) (he : evenB ls = true) (W : World) (hr : Grid W a ls) (hh : Held W ls rs) :
    Calls Try.prog 7 #[.slice a ls.length cap, .int .i64 (j : Int)] W fun e w' => ∃ a' cap', e = .returned (.tuple #[.slice a' ls.length cap', .int .i64 0]) ∧ ERow w' a' (colv ls.length rs j) ∧ Below W.heap.size W w' := by
  have HS : Hid (Calls Try.prog 17 #[.slice a ls.length cap] W fun e w' => e = .returned (.bool true) ∧ Below W.heap.size W w') := by
    have := even_any a cap ls hn W hr
    rw [he] at this
    exact this
  have HE : Hid (evenB ls = true) := he
  have HR : Hid (Grid W a ls) := hr
  have HH : Hid (Held W ls rs) := hh
  have HJ : Hid (j < (ls.getD 0 (none, 0, 0)).2.1) := hj
  obtain ⟨b, off, rfl, hb, cb⟩ := hr.cells 0 hl
  rw [Nat.add_zero] at cb
  have HCb : Hid (W.cell? ⟨b, off, none⟩ = some (.slice (ls.getD 0 (none, 0, 0)).1 (ls.getD 0 (none, 0, 0)).2.1 (ls.getD 0 (none, 0, 0)).2.2)) := cb
  have j2 : (0 : Int) ≤ (j : Int) := by omega
  have l1 : (0 : Int) < (ls.length : Int) := by omega
  have l2 : ¬ (ls.length : Int) = 0 := by omega
  have l3 : ¬ ls.length = 0 := by omega
  have l4 : ((ls.length : Int) == 0) = false := beq_eq_false_iff_ne.2 l2
  have j3 : ¬ (j : Int) < 0 := by omega
  clear hr hh hj he cb
  go_enter Try.func7, Try.ntmps7
  go_wp2_with (first | (go_at_call 17; refine HS.out.mono ?_; rintro e w1 ⟨rfl, hb1⟩; have db := keepc hb1 HCb.out; have j1 : ¬ (ls.getD 0 (none, 0, 0)).2.1 ≤ j := Nat.not_le_of_gt HJ.out; have HB1 : Hid (Below W.heap.size W w1) := hb1; clear hb1; generalize ls.getD 0 (none, 0, 0) = z at db j1))
  go_loopw [6, 7] (fun v u wr => ∃ i : Nat, i ≤ ls.length ∧ u = .int .i64 i ∧ wr.ownsRow W.heap.size 50 2 v i (flat (colv i rs j)) ∧ Below W.heap.size W wr) (fun _ u _ => ls.length - (intOf u).toNat)
  case atStart => exact ⟨0, Nat.zero_le _, rfl, ⟨by simp [flat, colv], .inl ⟨rfl, rfl⟩⟩, HB1.out⟩
  case round =>
    obtain ⟨i, hi, rfl, hown, hbw⟩ := hrel
    have HO : Hid (wr.ownsRow W.heap.size 50 2 u6 i (flat (colv i rs j))) := hown
    have HB : Hid (Below W.heap.size W wr) := hbw
    clear hown hbw HB1 db j1
    by_cases hlt : i < ls.length
    · obtain ⟨b1, off1, hab, hb1, cb⟩ := HR.out.cells i hlt
      injection hab with hab; injection hab with hab1 hab2
      subst hab1; subst hab2
      have db := keepc HB.out cb
      obtain ⟨q1, q2, q3⟩ := HH.out i hlt
      have hjl : j < (rs.getD i []).length := by rw [← q1, even_at HE.out i hlt]; exact HJ.out
      obtain ⟨b', off', hx, hb', y1, y0⟩ := q3.cells j hjl
      have d1 := keepc HB.out y1
      have d0 := keepc HB.out y0
      have HC : Hid (colv (i + 1) rs j = colv i rs j ++ [(rs.getD i []).getD j (0, 0)]) := colv_take rs j i
      obtain ⟨i0, hi0, hz0, hz1, hz2⟩ := info_relem
      have HIn : Hid (Try.prog.info? 50 = some i0 ∧ i0.zero = some (.agg #[.int .u64 0, .int .u64 0]) ∧ i0.size = 2 ∧ i0.bytes = 16) := ⟨hi0, hz0, hz1, hz2⟩
      rw [hx, q1] at db
      have hjl1 : (j : Int) < ((rs.getD i []).length : Int) := by omega
      clear cb q1 q2 q3 y1 y0 hx hi0 hz0 hz1 hz2
      generalize (ls.getD i (none, 0, 0)).2.2 = cp at *
      generalize (rs.getD i []).getD j (0, 0) = x at *
      generalize (rs.getD i []).length = m at *
      go_wp2_with (at_builtin; refine wpList_append_own _ rfl _ _ 31 rfl W.heap.size 50 i0 (.agg #[.int .u64 0, .int .u64 0]) 2 16 Try.underlying31 HIn.out.1 HIn.out.2.1 HIn.out.2.2.1 HIn.out.2.2.2 rfl (by decide) _ _ _ rfl (own_below HO.out (by go_grown)) ⟨wr.heap.size, 0, none⟩ 1 1 [.int .u64 (x.1 : Int), .int .u64 (x.2 : Int)] rfl rfl (fun p u hu => by rcases p with _ | _ | p <;> simp at hu <;> subst hu <;> simp [go_sem]) (by intro u hu; simp at hu; rcases hu with rfl | rfl <;> rfl) (by simp only [maxLen]; omega) (by omega) (by have := HB.out.size; simp; omega) ?_; intro v' w' hown' hgr _)
      refine ⟨⟨i + 1, hlt, by simp, ?_, ?_⟩, by simp [intOf]; omega⟩
      · rw [HC.out, flat_snoc]; exact hown'
      · exact (HB.out.alloc HB.out.size _).grown hgr (by have := HB.out.size; simp; omega) fun k hk => (HO.out.lt k hk).1
    · obtain rfl : i = ls.length := by omega
      have HO' : wr.ownsRow W.heap.size 50 2 u6 (colv ls.length rs j).length (flat (colv ls.length rs j)) := by rw [colv_len]; exact HO.out
      obtain ⟨a', cap', rfl, hE⟩ := own_row HO'
      have HEr : Hid (ERow wr a' (colv ls.length rs j)) := hE
      rw [colv_len] at *
      clear hE HO HO'
      go_wp2
      refine bodyPost_ret (v := .tuple #[.slice a' ls.length cap', .int .i64 0]) (by simp [results, Try.results7, go_sem, *]) rfl ?_
      exact ⟨a', cap', rfl, HEr.out, HB.out⟩
end Go.Proofs.Ytccaobfhldfamaa
