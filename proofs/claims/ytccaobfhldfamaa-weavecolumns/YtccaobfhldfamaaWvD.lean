/- Contracts of weave.cut and of weave.Gather over the seat's translation, where nothing hinders it. -/
import Derived.Test.YtccaobfhldfamaaPWvA
namespace Go.Proofs.Ytccaobfhldfamaa
open Go.RowKit

/-- The pieces: slices into the list's own row. -/
def pcs (b off wide j : Nat) : List Value := (List.range j).map fun i => .slice (some ⟨b, off + i * wide * 2, none⟩) wide wide
theorem pcs_len (b off wide j : Nat) : (pcs b off wide j).length = j := by simp [pcs]
theorem pcs_snoc (b off wide j : Nat) : pcs b off wide (j + 1) = pcs b off wide j ++ [.slice (some ⟨b, off + j * wide * 2, none⟩) wide wide] := by simp [pcs, List.range_succ]
theorem info_row : ∃ i, Try.prog.info? 23 = some i ∧ i.zero = some (.slice none 0 0) ∧ i.size = 1 ∧ i.bytes = 24 := by
  have h : (Try.prog.info? 23).map (fun i => (i.zero, i.size, i.bytes)) = some (some (.slice none 0 0), 1, 24) := by kernel_rfl
  obtain ⟨i, hi, he⟩ := Option.map_eq_some_iff.1 h
  simp only [Prod.mk.injEq] at he
  exact ⟨i, hi, he.1, he.2.1, he.2.2⟩
set_option maxHeartbeats 1000000 in
set_option maxRecDepth 100000 in
theorem cut_any (a : Option Addr) (b off n cap wide q : Nat) (ha : n = 0 ∨ a = some ⟨b, off, none⟩) (hw : 0 < wide) (hq : n = q * wide) (hn : n ≤ 100000) (hc : n ≤ cap) (W : World) :
    Calls Try.prog 24 #[.slice a n cap, .int .i64 (wide : Int)] W fun e w' => ∃ v, e = .returned v ∧ w'.ownsRow W.heap.size 23 1 v q (pcs b off wide q) ∧ Below W.heap.size W w' := by
  obtain ⟨i0, hi, hz0, hz1, hz2⟩ := info_row
  have HI : Hid (Try.prog.info? 23 = some i0 ∧ i0.zero = some (.slice none 0 0) ∧ i0.size = 1 ∧ i0.bytes = 24) := ⟨hi, hz0, hz1, hz2⟩
  have hqn : q ≤ n := by rw [hq]; exact Nat.le_mul_of_pos_right _ hw
  have hdiv : (n : Int).tdiv (wide : Int) = (q : Int) := by
    rw [Int.tdiv_eq_ediv_of_nonneg (by omega), hq, Int.natCast_mul]; exact Int.mul_ediv_cancel _ (by omega)
  have hne : ¬ (wide : Int) = 0 := by omega
  have HQ : Hid (n = q * wide) := hq
  have HA : Hid (n = 0 ∨ a = some ⟨b, off, none⟩) := ha
  clear hi hz0 hz1 hz2 hq ha
  go_enter Try.func24, Try.ntmps24
  go_wp2_with (at_make; refine wpList_make_own _ rfl _ _ 22 rfl W.heap.size 23 i0 (.slice none 0 0) 1 Try.underlying22 HI.out.1 HI.out.2.1 HI.out.2.2.1 .i64 .i64 _ q rfl rfl rfl (by rw [HI.out.2.2.2]; omega) (by simp only [maxLen]; omega) (Nat.le_refl _) ?_; intro w2 own2 hgr2)
  have D : Hid (Below W.heap.size W w2) := (Below.refl _ _).grown hgr2 (Nat.le_refl _) (fun k hk => by cases hk)
  have HO2 : Hid (w2.ownsRow W.heap.size 23 1 (.slice (some ⟨W.heap.size, 0, none⟩) 0 q) 0 []) := own2
  clear own2 hgr2
  go_loopw [5, 6] (fun v u wr => ∃ j f : Nat, f = j * wide ∧ j ≤ q ∧ u = .int .i64 f ∧ wr.ownsRow W.heap.size 23 1 v j (pcs b off wide j) ∧ Below W.heap.size W wr) (fun _ u _ => n - (intOf u).toNat)
  case atStart => exact ⟨0, 0, by simp, Nat.zero_le _, rfl, HO2.out, D.out⟩
  case round =>
    obtain ⟨j, f, hf, hj, rfl, hown, hbw⟩ := hrel
    have HO : Hid (wr.ownsRow W.heap.size 23 1 u5 j (pcs b off wide j)) := hown
    have HB : Hid (Below W.heap.size W wr) := hbw
    have HF : Hid (f = j * wide) := hf
    clear hown hbw hf HO2 D
    by_cases hlt : j < q
    · have hfn : f + wide ≤ n := by
        have := Nat.mul_le_mul_right wide (show j + 1 ≤ q from hlt)
        rw [HF.out, HQ.out]; rw [Nat.add_mul, Nat.one_mul] at this; exact this
      obtain rfl : a = some ⟨b, off, none⟩ := by rcases HA.out with h | h; omega; exact h
      have j1 : (0 : Int) ≤ (f : Int) := by omega
      have j2 : (f : Int) ≤ (f : Int) + wide := by omega
      have j3 : (f : Int) + wide ≤ (cap : Int) := by omega
      have j4 : IntKind.i64.wrap ((f : Int) + wide) = (f : Int) + wide := by rw [IntKind.wrap_i64]; omega
      have j5 : (f : Int) < (n : Int) := by omega
      have j6 : ((f : Int) + wide).toNat = f + wide := by omega
      have j7 : f + wide - f = wide := by omega
      have j8 : ¬ wide = 0 := by omega
      clear HQ HA hdiv
      go_wp2_with (at_builtin; refine wpList_append_own _ rfl _ _ 22 rfl W.heap.size 23 i0 (.slice none 0 0) 1 24 Try.underlying22 HI.out.1 HI.out.2.1 HI.out.2.2.1 HI.out.2.2.2 rfl (by decide) _ _ _ rfl (own_below HO.out (by go_grown)) ⟨wr.heap.size, 0, none⟩ 1 1 [.slice (some ⟨b, off + f * 2, none⟩) wide wide] rfl rfl (fun p u hu => by rcases p with _ | p <;> simp at hu; subst hu; simp [go_sem]) (by intro u hu; simp at hu; subst hu; rfl) (by simp only [maxLen]; omega) (by omega) (by have := HB.out.size; simp; omega) ?_; intro v' w' hown' hgr _)
      refine ⟨⟨j + 1, f + wide, by rw [HF.out, Nat.add_mul, Nat.one_mul], hlt, by simp, ?_, ?_⟩, by simp [intOf]; omega⟩
      · rw [pcs_snoc, ← HF.out]; exact hown'
      · exact (HB.out.alloc HB.out.size _).grown hgr (by have := HB.out.size; simp; omega) fun k hk => (HO.out.lt k hk).1
    · obtain rfl : j = q := by omega
      have e : f = n := by rw [HF.out, HQ.out]
      subst e
      clear HF HA HQ
      go_wp2
      go_ret
      exact ⟨_, rfl, HO.out, HB.out⟩

theorem own_pcs {w : World} {base b off wide q : Nat} {v : Value} (h : w.ownsRow base 23 1 v q (pcs b off wide q)) :
    ∃ a' cap', v = .slice a' q cap' ∧ ∀ i, i < q → ∃ g, a' = some ⟨g, 0, none⟩ ∧ base ≤ g ∧ g < w.heap.size ∧ w.cell? ⟨g, i, none⟩ = some (.slice (some ⟨b, off + i * wide * 2, none⟩) wide wide) := by
  have hlt := h.lt
  rcases h.2 with ⟨h1, h0⟩ | ⟨g, cap, cur, rfl, hb, _⟩
  · exact ⟨none, 0, by rw [h1, h0], fun i hi => by omega⟩
  · refine ⟨_, cap, rfl, fun i hi => ⟨g, rfl, ?_, ?_, ?_⟩⟩
    · exact (hlt g rfl).1
    · exact (hlt g rfl).2
    · have := h.cellAt i (by omega)
      rw [this]
      simp [pcs, hi]
theorem own_isRow {w : World} {base : Nat} {T : TypeId} {g n c : Nat} {xs : List Value} (h : w.ownsRow base T 2 (.slice (some ⟨g, 0, none⟩) n n) n xs) (hc : c = n * 2) : ∃ f, w.rowIs g T c f := by
  subst hc
  rcases h.2 with ⟨h1, _⟩ | ⟨g', cap, cur, e, _, hg, _, _, hs, _⟩
  · injection h1 with h2; cases h2
  · injection e with e1 e2 e3
    obtain rfl : g = g' := by injection e1 with e4; injection e4
    subst e3
    exact ⟨fun i => cur.getD i undef, cur, hg, hs, fun i hi => by
      show cur[i]? = some (cur.getD i undef)
      rw [Array.getD_eq_getD_getElem?, Array.getElem?_eq_getElem (by omega)]; rfl⟩
/-- The cells of elements. -/
def gcell (gs : List (Nat × Nat)) (p : Nat) : Value := if p % 2 = 0 then .int .u64 ((gs.getD (p / 2) (0, 0)).1 : Nat) else .int .u64 ((gs.getD (p / 2) (0, 0)).2 : Nat)
theorem row_g {w : World} {g n : Nat} {T : TypeId} {f : Nat → Value} {gs : List (Nat × Nat)} (hn : gs.length = n) (h : w.rowIs g T (n * 2) f) (hf : ∀ p, p < n * 2 → f p = gcell gs p) : ERow w (some ⟨g, 0, none⟩) gs := ⟨fun i hi => by
  have h1 := h.cell (i := i * 2) (by omega)
  have h2 := h.cell (i := i * 2 + 1) (by omega)
  rw [hf _ (by omega)] at h1 h2
  unfold gcell at h1 h2
  rw [if_pos (by omega), show i * 2 / 2 = i by omega] at h1
  rw [if_neg (by omega), show (i * 2 + 1) / 2 = i by omega] at h2
  refine ⟨g, 0, rfl, h.lt, by rw [Nat.zero_add]; exact h1, by rw [Nat.zero_add]; exact h2⟩⟩
theorem isUp_ok (f t : Int) (h0 : 0 ≤ f) (h1 : f ≤ t) (h2 : t ≤ 7) : Ret 23 #[.int .i64 f, .int .i64 t] (.bool true) := by
  intro W
  go_enter Try.func23, Try.ntmps23
  go_wp2
  refine bodyPost_ret (v := .bool true) (by simp [results, Try.results23, go_sem, *]) rfl ⟨rfl, ?_⟩
  first | exact Below.refl _ _ | go_grown
set_option maxHeartbeats 2000000 in
set_option maxRecDepth 100000 in
theorem gather_core (f t d each q n : Nat) (hd : f + d = t) (ht : t < 8) (he : each = 2 ^ d) (a : Option Addr) (b off cap : Nat) (ha : n = 0 ∨ a = some ⟨b, off, none⟩) (hq : n = q * each) (hn : n ≤ 100000) (hc : n ≤ cap) (gs : List (Nat × Nat)) (hg : gs.length = q) (W : World)
    (HA : Hid (∀ w, Below W.heap.size W w → Calls Try.prog 18 #[.int .i64 (f : Int), .slice a n cap] w fun e w' => e = .returned (.bool true) ∧ Below w.heap.size w w'))
    (HJ : Hid (∀ i, i < q → ∀ w, Below W.heap.size W w → Calls Try.prog 25 #[.int .i64 (t : Int), .slice (some ⟨b, off + i * each * 2, none⟩) each each] w fun e w' => e = .returned (.agg #[.int .u64 ((gs.getD i (0, 0)).1 : Nat), .int .u64 ((gs.getD i (0, 0)).2 : Nat)]) ∧ Below w.heap.size w w')) :
    Calls Try.prog 13 #[.int .i64 (f : Int), .int .i64 (t : Int), .slice a n cap] W fun e w' => ∃ p, e = .returned (.tuple #[.slice (some ⟨p, 0, none⟩) q q, .int .i64 0]) ∧ ERow w' (some ⟨p, 0, none⟩) gs ∧ W.heap.size ≤ p ∧ Below W.heap.size W w' := by
  have HU : Hid (Ret 23 #[.int .i64 (f : Int), .int .i64 (t : Int)] (.bool true)) := isUp_ok _ _ (by omega) (by omega) (by omega)
  obtain ⟨i0, hi, hz0, hz1, hz2⟩ := info_elem
  have HN : Hid (Try.prog.info? 44 = some i0 ∧ i0.zero = some (.agg #[.int .u64 0, .int .u64 0]) ∧ i0.size = 2 ∧ i0.bytes = 16) := ⟨hi, hz0, hz1, hz2⟩
  clear hi hz0 hz1 hz2
  have hep : 0 < each := by rw [he]; exact Nat.two_pow_pos d
  have HC : Hid (∀ w, Calls Try.prog 24 #[.slice a n cap, .int .i64 (each : Int)] w fun e w' => ∃ v, e = .returned v ∧ w'.ownsRow w.heap.size 23 1 v q (pcs b off each q) ∧ Below w.heap.size w w') := fun w => cut_any a b off n cap each q ha hep hq hn hc w
  have h1 : IntKind.i64.wrap ((t : Int) - f) = (d : Int) := by rw [IntKind.wrap_i64]; omega
  have h2 : IntKind.i64.wrap (2 ^ d) = (each : Int) := by
    have h1 : 2 ^ d < 2 ^ 8 := Nat.pow_lt_pow_right (by decide) (by omega)
    rw [IntKind.wrap_i64, show (2 : Int) ^ d = ((2 ^ d : Nat) : Int) by simp, he]
    generalize 2 ^ d = p at *
    omega
  have h3 : (n : Int).tmod (each : Int) = 0 := by
    rw [Int.tmod_eq_emod_of_nonneg (by omega), hq, Int.natCast_mul]; exact Int.mul_emod_left _ _
  have h4 : (n : Int).tdiv (each : Int) = (q : Int) := by
    rw [Int.tdiv_eq_ediv_of_nonneg (by omega), hq, Int.natCast_mul]; exact Int.mul_ediv_cancel _ (by omega)
  have h5 : ¬ (each : Int) = 0 := by omega
  have h6 : (0 : Int) ≤ (d : Int) := by omega
  have h7 : (d : Int) < 64 := by omega
  have hqn : q ≤ 100000 := by have := Nat.le_mul_of_pos_right q hep; omega
  clear he hq hd ha
  go_enter Try.func13, Try.ntmps13
  go_wp2_with (first | (go_at_call 23; refine (HU.out.go _).mono ?_; rintro e w1 ⟨rfl, hb1⟩) | (go_at_call 18; refine (HA.out _ hb1).mono ?_; rintro e w2 ⟨rfl, hb2⟩) | (at_make; refine wpList_make_full _ rfl _ _ 23 rfl 0 44 i0 (.agg #[.int .u64 0, .int .u64 0]) 2 Try.underlying23 HN.out.1 HN.out.2.1 HN.out.2.2.1 .i64 .i64 _ _ q rfl rfl rfl rfl (by rw [HN.out.2.2.2]; omega) (by simp only [maxLen]; omega) (Nat.zero_le _) ?_; intro w3 own3 hgr3) | (go_at_call 24; refine (HC.out _).mono ?_; rintro e w4 ⟨v, rfl, own4, hb4⟩; obtain ⟨a', cap', rfl, hP⟩ := own_pcs own4; have HP : Hid (∀ i, i < q → ∃ g, a' = some ⟨g, 0, none⟩ ∧ w3.heap.size ≤ g ∧ g < w4.heap.size ∧ w4.cell? ⟨g, i, none⟩ = some (.slice (some ⟨b, off + i * each * 2, none⟩) each each)) := hP; clear hP))
  have hg1 : W.heap.size ≤ w2.heap.size := Nat.le_trans hb1.size hb2.size
  have hg3 : w2.heap.size < w3.heap.size := by
    obtain ⟨f0, R0⟩ := own_isRow own3 (rfl : q * 2 = q * 2)
    exact R0.lt
  have D3 : Below W.heap.size W w3 := (hb1.trans (hb2.mono hb1.size)).grown hgr3 hg1 (fun k hk => by cases hk)
  have D : Hid (Below W.heap.size W w4) := D3.trans (hb4.mono D3.size)
  obtain ⟨f0, R3⟩ := own_isRow own3 (rfl : q * 2 = q * 2)
  have R0 : Hid (w4.rowIs w2.heap.size 44 (q * 2) f0) := R3.of_block (hb4.block _ hg3)
  clear own3 hgr3 hb1 hb2 hb4 own4 HU HA HC R3 D3 HN h1 h2 h3 h4
  generalize w2.heap.size = p at *
  go_loopw [40] (fun u wr => ∃ (j : Nat) (F : Nat → Value), j ≤ q ∧ u = .int .i64 j ∧ wr.rowIs p 44 (q * 2) F ∧ Hid (∀ i, i < j * 2 → F i = gcell gs i) ∧ Hid (∀ i, i < q → ∃ g, a' = some ⟨g, 0, none⟩ ∧ w3.heap.size ≤ g ∧ g < wr.heap.size ∧ wr.cell? ⟨g, i, none⟩ = some (.slice (some ⟨b, off + i * each * 2, none⟩) each each)) ∧ Below W.heap.size W wr) (fun u _ => q - (intOf u).toNat)
  case atStart => exact ⟨0, f0, Nat.zero_le _, rfl, R0.out, (fun i hi => by omega), HP, D.out⟩
  case round =>
    obtain ⟨j, F, hj, rfl, hR, HF, HPc, hD⟩ := hrel
    clear R0 D HP
    have HR : Hid (wr.rowIs p 44 (q * 2) F) := hR
    have HD : Hid (Below W.heap.size W wr) := hD
    have hps : p < wr.heap.size := hR.lt
    clear hR hD
    by_cases hlt : j < q
    · obtain ⟨g, rfl, hg2, hg4, cg⟩ := HPc.out j hlt
      have HJ1 := HJ.out j hlt
      obtain ⟨x, HX⟩ : ∃ x, Hid (gs.getD j (0, 0) = x) := ⟨_, rfl⟩
      rw [HX.out] at HJ1
      have hne : ¬ g = p := by omega
      go_wp2_with (go_at_call 25; refine (HJ1 _ HD.out).mono ?_; rintro e w5 ⟨rfl, hb5⟩; have R5 : Hid (w5.rowIs p 44 (q * 2) F) := (HR.out.of_block (hb5.block p hps)); have c1 := R5.out.cell (i := j * 2) (by omega); have c0 := R5.out.cell (i := j * 2 + 1) (by omega); have z1 := R5.out.frozen (j * 2); have z0 := R5.out.frozen (j * 2 + 1))
      refine ⟨⟨j + 1, _, hlt, by simp, (R5.out.set (j * 2) _).set (j * 2 + 1) _, fun i hi => ?_, fun i hi => ?_, ((HD.out.trans (hb5.mono HD.out.size)).setCell hg1 _).setCell hg1 _⟩, by simp [intOf]; omega⟩
      · have hF := HF.out i
        unfold gcell at hF ⊢
        by_cases e1 : i = j * 2 + 1
        · rw [if_pos e1, if_neg (by omega), show i / 2 = j by omega, HX.out]
        · rw [if_neg e1]
          by_cases e2 : i = j * 2
          · rw [if_pos e2, if_pos (by omega), show i / 2 = j by omega, HX.out]
          · rw [if_neg e2]; exact hF (by omega)
      · obtain ⟨g', e, h1, h2, h3⟩ := HPc.out i hi
        injection e with e; injection e with e
        subst e
        refine ⟨_, rfl, h1, by simp; exact Nat.lt_of_lt_of_le h2 hb5.size, ?_⟩
        have := keepc hb5 h3
        simp [go_sem, *]
    · obtain rfl : j = q := by omega
      have HE : Hid (ERow wr (some ⟨p, 0, none⟩) gs) := row_g hg HR.out HF.out
      go_wp2
      refine bodyPost_ret (v := .tuple #[.slice (some ⟨p, 0, none⟩) j j, .int .i64 0]) (by simp [results, Try.results13, go_sem, *]) rfl ?_
      exact ⟨_, rfl, HE.out, hg1, HD.out⟩
end Go.Proofs.Ytccaobfhldfamaa
