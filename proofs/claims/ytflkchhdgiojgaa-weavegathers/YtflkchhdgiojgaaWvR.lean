/- The contract of weave.Scatter over the seat's translation, where nothing hinders it. -/
import Derived.Test.YtflkchhdgiojgaaWvQ
namespace Go.Proofs.Ytflkchhdgiojgaa
open Go.RowKit

/-- All elements, parted. -/
def scat (d k : Nat) (es : List (Nat × Nat)) : List (Nat × Nat) := es.flatMap (sp d k)
theorem scat_len (d k : Nat) (es : List (Nat × Nat)) : (scat d k es).length = es.length * 2 ^ d := by
  induction es with
  | nil => simp [scat]
  | cons e l ih => simp only [scat, List.flatMap_cons, List.length_append] at *; rw [ih, sp_len, List.length_cons, Nat.add_mul, Nat.one_mul, Nat.add_comm]
theorem scat_snoc (d k : Nat) (es : List (Nat × Nat)) (x : Nat × Nat) : scat d k (es ++ [x]) = scat d k es ++ sp d k x := by simp [scat]
theorem scat_at (d k : Nat) : ∀ (es : List (Nat × Nat)) (i j : Nat), i < es.length → j < 2 ^ d → (scat d k es).getD (i * 2 ^ d + j) (0, 0) = (sp d k (es.getD i (0, 0))).getD j (0, 0)
  | [], i, _, hi, _ => by simp at hi
  | e :: l, 0, j, _, hj => by
    show (sp d k e ++ scat d k l).getD _ _ = _
    rw [Nat.zero_mul, Nat.zero_add, getD_append_left _ _ _ _ (by rw [sp_len]; exact hj)]; rfl
  | e :: l, i + 1, j, hi, hj => by
    show (sp d k e ++ scat d k l).getD _ _ = _
    rw [getD_append_right _ _ _ _ (by rw [sp_len, Nat.add_mul]; omega), sp_len, show (i + 1) * 2 ^ d + j - 2 ^ d = i * 2 ^ d + j by rw [Nat.add_mul]; omega, scat_at d k l i j (by simpa using hi) hj]
    rfl
theorem gcell_scat (d k : Nat) (es : List (Nat × Nat)) (j r : Nat) (hj : j < es.length) (hr : r < 2 ^ d * 2) (i : Nat) (hi : i = j * 2 ^ d * 2 + r) : gcell (scat d k es) i = gcell (sp d k (es.getD j (0, 0))) r := by
  unfold gcell
  have e : i / 2 = j * 2 ^ d + r / 2 := by rw [hi]; omega
  rw [e, scat_at d k es j (r / 2) hj (by omega), show i % 2 = r % 2 by rw [hi]; omega]
set_option maxHeartbeats 4000000 in
set_option maxRecDepth 100000 in
theorem scatter_ok (f t d each : Nat) (hd : f + d = t) (ht : t < 8) (he : each = 2 ^ d) (a : Option Addr) (cap : Nat) (es : List (Nat × Nat)) (hn : es.length ≤ 700) (hes : ltE es) (ho : (es.all fun e => ofB (t : Int) (e.1 : Int) (e.2 : Int)) = true) (W : World) (hr : ERow W a es) :
    Calls Try.prog 20 #[.int .i64 (f : Int), .int .i64 (t : Int), .slice a es.length cap] W fun e w' => ∃ p, e = .returned (.tuple #[.slice (some ⟨p, 0, none⟩) (es.length * each) (es.length * each), .int .i64 0]) ∧ ERow w' (some ⟨p, 0, none⟩) (scat d t es) ∧ W.heap.size ≤ p ∧ Below W.heap.size W w' := by
  have HU : Hid (Ret 35 #[.int .i64 (f : Int), .int .i64 (t : Int)] (.bool true)) := isUp_ok _ _ (by omega) (by omega) (by omega)
  obtain ⟨i0, hi, hz0, hz1, hz2⟩ := info_elem
  have HN : Hid (Try.prog.info? 54 = some i0 ∧ i0.zero = some (.agg #[.int .u64 0, .int .u64 0]) ∧ i0.size = 2 ∧ i0.bytes = 16) := ⟨hi, hz0, hz1, hz2⟩
  clear hi hz0 hz1 hz2
  have hep : 0 < each := by rw [he]; exact Nat.two_pow_pos d
  have he7 : each ≤ 128 := by rw [he]; exact Nat.pow_le_pow_right (by decide) (show d ≤ 7 by omega)
  obtain ⟨m, HM⟩ : ∃ m, Hid (m = es.length * each) := ⟨_, rfl⟩
  have hm : m ≤ 89600 := by rw [HM.out]; exact Nat.mul_le_mul hn he7
  have HA : Hid (∀ w, Below W.heap.size W w → Calls Try.prog 30 #[.int .i64 (t : Int), .slice a es.length cap] w fun e w' => e = .returned (.bool true) ∧ Below w.heap.size w w') := fun w hb => by
    have := wall_any (t : Int) a cap es hes w (hr.below hb) (by omega)
    rw [ho] at this
    exact this
  have HC : Hid (∀ w p, Calls Try.prog 24 #[.slice (some ⟨p, 0, none⟩) m m, .int .i64 (each : Int)] w fun e w' => ∃ v, e = .returned v ∧ w'.ownsRow w.heap.size 22 1 v es.length (pcs p 0 each es.length) ∧ Below w.heap.size w w') := fun w p => cut_any (some ⟨p, 0, none⟩) p 0 m m each es.length (.inr rfl) hep HM.out (by omega) (Nat.le_refl _) w
  have h1 : IntKind.i64.wrap ((t : Int) - f) = (d : Int) := by rw [IntKind.wrap_i64]; omega
  have h2 : IntKind.i64.wrap (2 ^ d) = (each : Int) := by
    have h1 : 2 ^ d < 2 ^ 8 := Nat.pow_lt_pow_right (by decide) (by omega)
    rw [IntKind.wrap_i64, show (2 : Int) ^ d = ((2 ^ d : Nat) : Int) by simp, he]
    generalize 2 ^ d = p at *
    omega
  have h3 : IntKind.i64.wrap ((es.length : Int) * (each : Int)) = (m : Int) := by rw [← Int.natCast_mul, ← HM.out, IntKind.wrap_i64]; omega
  have h6 : (0 : Int) ≤ (d : Int) := by omega
  have h7 : (d : Int) < 64 := by omega
  have HR : Hid (ERow W a es) := hr
  have HSp : Hid (∀ j, j < es.length → ∀ (w : World) (F : Nat → Value) (p : Nat), w.rowIs p 54 (m * 2) F → Calls Try.prog 41 #[.int .i64 (t : Int), .agg #[.int .u64 ((es.getD j (0, 0)).1 : Nat), .int .u64 ((es.getD j (0, 0)).2 : Nat)], .slice (some ⟨p, 0 + j * each * 2, none⟩) each each] w fun e w' => e = .returned (.tuple #[]) ∧ w'.rowIs p 54 (m * 2) (fun i => if 0 + j * each * 2 ≤ i ∧ i < 0 + j * each * 2 + each * 2 then gcell (sp d t (es.getD j (0, 0))) (i - (0 + j * each * 2)) else F i) ∧ Below p w w' ∧ ∀ k, k < w.heap.size → k ≠ p → w'.heap[k]? = w.heap[k]?) := fun j hj w F p hR => by
    have := wsplit_any d t (es.getD j (0, 0)) (by omega) ht (hes.at j) (by rw [show es.getD j (0, 0) = es[j] by simp [hj]]; exact List.all_eq_true.1 ho _ (List.getElem_mem hj)) p (0 + j * each * 2) each (m * 2) (by
      have := Nat.mul_le_mul_right each (show j + 1 ≤ es.length from hj)
      rw [Nat.add_mul, Nat.one_mul, ← HM.out] at this
      rw [← he]; omega) (by rw [← he]; exact Nat.le_refl _) w F hR
    rw [← he] at this
    exact this
  have HEd : Hid (each = 2 ^ d) := he
  rw [← HM.out]
  clear hr hd he ho hes
  go_enter Try.func20, Try.ntmps20
  go_wp2_with (first | (go_at_call 35; refine (HU.out.go _).mono ?_; rintro e w1 ⟨rfl, hb1⟩) | (go_at_call 30; refine (HA.out _ hb1).mono ?_; rintro e w2 ⟨rfl, hb2⟩) | (at_make; refine wpList_make_full _ rfl _ _ 22 rfl 0 54 i0 (.agg #[.int .u64 0, .int .u64 0]) 2 Try.underlying22 HN.out.1 HN.out.2.1 HN.out.2.2.1 .i64 .i64 _ _ m rfl rfl rfl rfl (by rw [HN.out.2.2.2]; omega) (by simp only [maxLen]; omega) (Nat.zero_le _) ?_; intro w3 own3 hgr3) | (go_at_call 24; refine (HC.out _ _).mono ?_; rintro e w4 ⟨v, rfl, own4, hb4⟩; obtain ⟨a', cap', rfl, hP⟩ := own_pcs own4))
  have HP : Hid (∀ i, i < es.length → ∃ g, a' = some ⟨g, 0, none⟩ ∧ w3.heap.size ≤ g ∧ g < w4.heap.size ∧ w4.cell? ⟨g, i, none⟩ = some (.slice (some ⟨w2.heap.size, 0 + i * each * 2, none⟩) each each)) := hP
  have hg1 : W.heap.size ≤ w2.heap.size := Nat.le_trans hb1.size hb2.size
  obtain ⟨f0, R3⟩ := own_isRow own3 (rfl : m * 2 = m * 2)
  have hg3 : w2.heap.size < w3.heap.size := R3.lt
  have D3 : Below W.heap.size W w3 := (hb1.trans (hb2.mono hb1.size)).grown hgr3 hg1 (fun k hk => by cases hk)
  have D : Hid (Below W.heap.size W w4) := D3.trans (hb4.mono D3.size)
  have R0 : Hid (w4.rowIs w2.heap.size 54 (m * 2) f0) := R3.of_block (hb4.block _ hg3)
  clear own3 hgr3 hb1 hb2 hb4 own4 HU HA HC R3 D3 HN h1 h2 h3 hP
  generalize w2.heap.size = p at *
  go_loopw [33] (fun u wr => ∃ (j : Nat) (F : Nat → Value), j ≤ es.length ∧ u = .int .i64 j ∧ wr.rowIs p 54 (m * 2) F ∧ Hid (∀ i, i < j * each * 2 → F i = gcell (scat d t es) i) ∧ Hid (∀ i, i < es.length → ∃ g, a' = some ⟨g, 0, none⟩ ∧ w3.heap.size ≤ g ∧ g < wr.heap.size ∧ wr.cell? ⟨g, i, none⟩ = some (.slice (some ⟨p, 0 + i * each * 2, none⟩) each each)) ∧ Below W.heap.size W wr) (fun u _ => es.length - (intOf u).toNat)
  case atStart => exact ⟨0, f0, Nat.zero_le _, rfl, R0.out, (fun i hi => by omega), HP, D.out⟩
  case round =>
    obtain ⟨j, F, hj, rfl, hR, HF, HPc, hD⟩ := hrel
    clear R0 D HP
    have HRr : Hid (wr.rowIs p 54 (m * 2) F) := hR
    have HD : Hid (Below W.heap.size W wr) := hD
    clear hR hD
    by_cases hlt : j < es.length
    · obtain ⟨g, rfl, hg2, hg4, cg⟩ := HPc.out j hlt
      obtain ⟨b0, o0, rfl, hb0, y1, y0⟩ := HR.out.cells j hlt
      have d1 := keepc HD.out y1
      have d0 := keepc HD.out y0
      have HS1 := HSp.out j hlt
      have HX : Hid (es.getD j (0, 0) = es.getD j (0, 0)) := rfl
      obtain ⟨x, HXx⟩ : ∃ x, Hid (es.getD j (0, 0) = x) := ⟨_, rfl⟩
      rw [HXx.out] at d1 d0 HS1
      rw [Nat.zero_add] at cg
      rw [Nat.zero_add] at HS1
      have hne : g ≠ p := by omega
      clear y1 y0 HX
      go_wp2_with fail
      refine (HS1 wr F p HRr.out).mono ?_
      rintro e w5 ⟨rfl, hR5, hb5, hk5⟩
      have HR5 : Hid (w5.rowIs p 54 (m * 2) (fun i => if j * each * 2 ≤ i ∧ i < j * each * 2 + each * 2 then gcell (sp d t x) (i - j * each * 2) else F i)) := hR5
      have HF5 : Hid (∀ i, i < (j + 1) * each * 2 → (fun i => if j * each * 2 ≤ i ∧ i < j * each * 2 + each * 2 then gcell (sp d t x) (i - j * each * 2) else F i) i = gcell (scat d t es) i) := fun i hi => by
        rw [Nat.add_mul, Nat.one_mul, Nat.add_mul] at hi
        show (if j * each * 2 ≤ i ∧ i < j * each * 2 + each * 2 then gcell (sp d t x) (i - j * each * 2) else F i) = _
        by_cases h1 : i < j * each * 2
        · rw [if_neg (by omega)]; exact HF.out i h1
        · rw [if_pos (by omega), ← HXx.out]
          exact (gcell_scat d t es j (i - j * each * 2) hlt (by rw [← HEd.out]; omega) i (by rw [← HEd.out]; omega)).symm
      have HP5 : Hid (∀ i, i < es.length → ∃ g', (some ⟨g, 0, none⟩ : Option Addr) = some ⟨g', 0, none⟩ ∧ w3.heap.size ≤ g' ∧ g' < w5.heap.size ∧ w5.cell? ⟨g', i, none⟩ = some (.slice (some ⟨p, 0 + i * each * 2, none⟩) each each)) := fun i hi => by
        obtain ⟨g', e, k1, k2, k3⟩ := HPc.out i hi
        injection e with e; injection e with e
        subst e
        exact ⟨_, rfl, k1, Nat.lt_of_lt_of_le k2 hb5.size, (cell_hp (hk5 _ k2 hne)).trans k3⟩
      have HD5 : Hid (Below W.heap.size W w5) := HD.out.trans (hb5.mono hg1)
      clear hR5 hb5 hk5 HPc HF HRr HD d1 d0 cg
      go_wp2
      exact ⟨⟨j + 1, _, hlt, by simp, HR5.out, HF5, HP5, HD5.out⟩, by simp [intOf]; omega⟩
    · obtain rfl : j = es.length := by omega
      have HE : Hid (ERow wr (some ⟨p, 0, none⟩) (scat d t es)) := row_g (n := m) (by rw [scat_len, HM.out, HEd.out]) HRr.out (fun i hi => HF.out i (by rw [← HM.out]; exact hi))
      go_wp2
      refine bodyPost_ret (v := .tuple #[.slice (some ⟨p, 0, none⟩) m m, .int .i64 0]) (by simp [results, Try.results20, go_sem]) rfl ?_
      exact ⟨_, rfl, HE.out, hg1, HD.out⟩
end Go.Proofs.Ytflkchhdgiojgaa
