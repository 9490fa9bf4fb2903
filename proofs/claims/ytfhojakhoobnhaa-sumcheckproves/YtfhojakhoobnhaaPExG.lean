/- The contract of steepleref16.DegreeAt over the seat's translation. -/
import Derived.Test.YtfhojakhoobnhaaPExJ
import Derived.Test.YtfhojakhoobnhaaPRfF
namespace Go.Proofs.Ytfhojakhoobnhaa
open Go.RowKit

/-- Degrees in memory. -/
def il (ds : List Nat) : List Value := ds.map fun d => .int .i64 (d : Nat)
theorem il_snoc (ds : List Nat) (d : Nat) : il (ds ++ [d]) = il ds ++ [.int .i64 (d : Nat)] := by simp [il]
theorem il_cell {w : World} {base : Nat} {v : Value} {n : Nat} {ds : List Nat} (hn : ds.length = n) (h : w.ownsRow base 3 1 v n (il ds)) (h0 : 0 < n) : ∃ g cap, v = .slice (some ⟨g, 0, none⟩) n cap ∧ ∀ p, p < n → w.cell? ⟨g, p, none⟩ = some (.int .i64 (ds.getD p 0 : Nat)) := by
  rcases h.2 with ⟨_, h1⟩ | ⟨g, cap, cur, rfl, _⟩
  · omega
  · refine ⟨g, cap, rfl, fun p hp => ?_⟩
    rw [h.cellAt p (by omega)]
    simp [il, List.getD, show p < ds.length by omega]
set_option maxHeartbeats 20000000 in
set_option maxRecDepth 100000 in
theorem rdeg (sa : Option Addr) (cap : Nat) (l : List Stp) (i : Nat) (hi : i < l.length) (hm : l.length ≤ 1000) (hv : ∀ j, j ≤ i → ((l.getD j zst).k = 3 ∨ (l.getD j zst).k = 4) → (0 ≤ (l.getD j zst).a ∧ (l.getD j zst).a < (j : Int)) ∧ (0 ≤ (l.getD j zst).b ∧ (l.getD j zst).b < (j : Int))) (h8 : ∀ j, j ≤ i → ∀ p, dfun (l.take j) p ≤ 8) (W : World) (hR : ORow W sa l) :
    Calls Try.prog 50 #[.slice sa l.length cap, .int .i64 (i : Int)] W fun e w' => e = .returned (.int .i64 (dfun (l.take (i + 1)) i : Nat)) ∧ Below W.heap.size W w' := by
  have HR : Hid (ORow W sa l) := hR
  have HV : Hid (∀ j, j ≤ i → ((l.getD j zst).k = 3 ∨ (l.getD j zst).k = 4) → (0 ≤ (l.getD j zst).a ∧ (l.getD j zst).a < (j : Int)) ∧ (0 ≤ (l.getD j zst).b ∧ (l.getD j zst).b < (j : Int))) := hv
  have H8 : Hid (∀ j, j ≤ i → ∀ p, dfun (l.take j) p ≤ 8) := h8
  obtain ⟨i0, hi0, hz0, hz1, hz2⟩ := info_int1
  have HI : Hid (Try.prog.info? 3 = some i0 ∧ i0.zero = some (.int .i64 0) ∧ i0.size = 1 ∧ i0.bytes = 8) := ⟨hi0, hz0, hz1, hz2⟩
  obtain ⟨y, hy⟩ : ∃ y, y = dfun (l.take (i + 1)) i := ⟨_, rfl⟩
  rw [← hy]
  have HY : Hid (y = dfun (l.take (i + 1)) i) := hy
  clear hR hv h8 hi0 hz0 hz1 hz2 hy
  go_enter Try.func50, Try.ntmps50
  go_wp2_with fail
  go_loopw [5, 6] (fun s u wr => ∃ j : Nat, j ≤ i + 1 ∧ u = .int .i64 j ∧ Hid (wr.ownsRow W.heap.size 3 1 s j (il (dgs (l.take j))) ∧ Below W.heap.size W wr)) (fun _ u _ => i + 1 - (intOf u).toNat)
  case atStart => exact ⟨0, Nat.zero_le _, rfl, ⟨⟨by simp [il, dgs], .inl ⟨rfl, rfl⟩⟩, Below.refl _ _⟩⟩
  case round =>
    obtain ⟨j, hj, rfl, HO⟩ := hrel
    by_cases hlt : j ≤ i
    · obtain ⟨b0, off, rfl, hb0, c0, c1, c2, c3, c4⟩ := HR.out.cells j (by omega)
      have C0 := keepc HO.out.2 c0
      have C1 := keepc HO.out.2 c1
      have C2 := keepc HO.out.2 c2
      have hvj := HV.out j hlt
      have h8j := H8.out j hlt
      have HN : Hid (il (dgs (l.take (j + 1))) = il (dgs (l.take j)) ++ [.int .i64 (dg (l.getD j zst) (dfun (l.take j)) : Nat)]) := by
        show _ = _
        rw [take_st l j (by omega), dgs_snoc, il_snoc]; rfl
      have e0 : (dgs (l.take j)).length = j := by rw [dgs_len, List.length_take]; omega
      have jl : (j : Int) < (l.length : Int) := by omega
      have ji : (j : Int) ≤ (i : Int) := by omega
      have j0 : (0 : Int) ≤ (j : Int) := by omega
      clear c0 c1 c2 c3 c4 hb0 HR HV H8
      generalize l.getD j zst = o at *
      obtain ⟨k, a, b, v⟩ := o
      dsimp only at *
      by_cases h2 : k = 2
      · subst h2
        have HD : Hid ((1 : Nat) = dg ⟨2, a, b, v⟩ (dfun (l.take j))) := rfl
        clear hvj h8j
        go_wp2_with (at_builtin; refine wpList_append_own _ rfl _ _ 64 rfl W.heap.size 3 i0 (.int .i64 0) 1 8 Try.underlying64 HI.out.1 HI.out.2.1 HI.out.2.2.1 HI.out.2.2.2 rfl (by decide) _ _ _ rfl (own_below HO.out.1 ((Below.refl _ _).alloc (Nat.le_refl _) _)) ⟨wr.heap.size, 0, none⟩ 1 1 [.int .i64 (1)] rfl rfl (fun p u hu => by rcases p with _ | p <;> simp at hu <;> subst hu <;> simp [go_sem]) (by intro u hu; simp at hu; subst hu; rfl) (by simp only [maxLen]; omega) (by omega) (by have := HO.out.2.size; simp; omega) ?_; intro v' w' hown' hgr _)
        refine ⟨⟨j + 1, by omega, by simp, ⟨?_, (HO.out.2.alloc HO.out.2.size _).grown hgr (by have := HO.out.2.size; simp; omega) fun g hg => (HO.out.1.lt g hg).1⟩⟩, by simp [intOf]; omega⟩
        rw [HN.out, ← HD.out]
        exact hown'
      · have g2 : (k == 2) = false := by rw [beq_eq_false_iff_ne]; exact h2
        by_cases h3 : k = 3
        · subst h3
          obtain ⟨ha, hb⟩ := hvj (.inl rfl)
          obtain ⟨x, rfl⟩ : ∃ x : Nat, a = (x : Int) := ⟨a.toNat, by omega⟩
          obtain ⟨y', rfl⟩ : ∃ y : Nat, b = (y : Int) := ⟨b.toNat, by omega⟩
          obtain ⟨g, cp, hu5, hcell⟩ := il_cell e0 HO.out.1 (by omega)
          subst hu5
          have r1 : wr.cell? ⟨g, x, none⟩ = some (.int .i64 (dfun (l.take j) x : Nat)) := hcell x (by omega)
          have r2 : wr.cell? ⟨g, y', none⟩ = some (.int .i64 (dfun (l.take j) y' : Nat)) := hcell y' (by omega)
          have q1 := h8j x
          have q2 := h8j y'
          have bx : (x : Int) < (j : Int) := by omega
          have bb : (y' : Int) < (j : Int) := by omega
          have bx0 : (0 : Int) ≤ (x : Int) := by omega
          have bb0 : (0 : Int) ≤ (y' : Int) := by omega
          have HG : Hid (dg ⟨3, (x : Int), (y' : Int), v⟩ (dfun (l.take j)) = max (dfun (l.take j) x) (dfun (l.take j) y')) := by
            show _ = _
            unfold dg
            dsimp only
            rw [if_neg (by decide), if_pos rfl, Int.toNat_natCast, Int.toNat_natCast]
          clear hvj h8j hcell ha hb
          generalize dfun (l.take j) x = dx at *
          generalize dfun (l.take j) y' = dy at *
          by_cases hpq : dx < dy
          · have hpq' : (dx : Int) < (dy : Int) := by omega
            have HD : Hid (dy = dg ⟨3, (x : Int), (y' : Int), v⟩ (dfun (l.take j))) := by show _ = _; rw [HG.out]; omega
            clear HG hpq
            go_wp2_with (at_builtin; refine wpList_append_own _ rfl _ _ 64 rfl W.heap.size 3 i0 (.int .i64 0) 1 8 Try.underlying64 HI.out.1 HI.out.2.1 HI.out.2.2.1 HI.out.2.2.2 rfl (by decide) _ _ _ rfl (own_below HO.out.1 ((Below.refl _ _).alloc (Nat.le_refl _) _)) ⟨wr.heap.size, 0, none⟩ 1 1 [.int .i64 (dy : Nat)] rfl rfl (fun p u hu => by rcases p with _ | p <;> simp at hu <;> subst hu <;> simp [go_sem]) (by intro u hu; simp at hu; subst hu; rfl) (by simp only [maxLen]; omega) (by omega) (by have := HO.out.2.size; simp; omega) ?_; intro v' w' hown' hgr _)
            refine ⟨⟨j + 1, by omega, by simp, ⟨?_, (HO.out.2.alloc HO.out.2.size _).grown hgr (by have := HO.out.2.size; simp; omega) fun g hg => (HO.out.1.lt g hg).1⟩⟩, by simp [intOf]; omega⟩
            rw [HN.out, ← HD.out]
            exact hown'
          · have hpq' : ¬ (dx : Int) < (dy : Int) := by omega
            have HD : Hid (dx = dg ⟨3, (x : Int), (y' : Int), v⟩ (dfun (l.take j))) := by show _ = _; rw [HG.out]; omega
            clear HG hpq
            go_wp2_with (at_builtin; refine wpList_append_own _ rfl _ _ 64 rfl W.heap.size 3 i0 (.int .i64 0) 1 8 Try.underlying64 HI.out.1 HI.out.2.1 HI.out.2.2.1 HI.out.2.2.2 rfl (by decide) _ _ _ rfl (own_below HO.out.1 ((Below.refl _ _).alloc (Nat.le_refl _) _)) ⟨wr.heap.size, 0, none⟩ 1 1 [.int .i64 (dx : Nat)] rfl rfl (fun p u hu => by rcases p with _ | p <;> simp at hu <;> subst hu <;> simp [go_sem]) (by intro u hu; simp at hu; subst hu; rfl) (by simp only [maxLen]; omega) (by omega) (by have := HO.out.2.size; simp; omega) ?_; intro v' w' hown' hgr _)
            refine ⟨⟨j + 1, by omega, by simp, ⟨?_, (HO.out.2.alloc HO.out.2.size _).grown hgr (by have := HO.out.2.size; simp; omega) fun g hg => (HO.out.1.lt g hg).1⟩⟩, by simp [intOf]; omega⟩
            rw [HN.out, ← HD.out]
            exact hown'
        · have g3 : (k == 3) = false := by rw [beq_eq_false_iff_ne]; exact h3
          by_cases h4 : k = 4
          · subst h4
            obtain ⟨ha, hb⟩ := hvj (.inr rfl)
            obtain ⟨x, rfl⟩ : ∃ x : Nat, a = (x : Int) := ⟨a.toNat, by omega⟩
            obtain ⟨y', rfl⟩ : ∃ y : Nat, b = (y : Int) := ⟨b.toNat, by omega⟩
            obtain ⟨g, cp, hu5, hcell⟩ := il_cell e0 HO.out.1 (by omega)
            subst hu5
            have r1 : wr.cell? ⟨g, x, none⟩ = some (.int .i64 (dfun (l.take j) x : Nat)) := hcell x (by omega)
            have r2 : wr.cell? ⟨g, y', none⟩ = some (.int .i64 (dfun (l.take j) y' : Nat)) := hcell y' (by omega)
            have q1 := h8j x
            have q2 := h8j y'
            have bx : (x : Int) < (j : Int) := by omega
            have bb : (y' : Int) < (j : Int) := by omega
            have bx0 : (0 : Int) ≤ (x : Int) := by omega
            have bb0 : (0 : Int) ≤ (y' : Int) := by omega
            have HG : Hid (dg ⟨4, (x : Int), (y' : Int), v⟩ (dfun (l.take j)) = dfun (l.take j) x + dfun (l.take j) y') := by
              show _ = _
              unfold dg
              dsimp only
              rw [if_neg (by decide), if_neg (by decide), if_pos rfl, Int.toNat_natCast, Int.toNat_natCast]
            clear hvj h8j hcell ha hb
            generalize dfun (l.take j) x = dx at *
            generalize dfun (l.take j) y' = dy at *
            have HD : Hid (dx + dy = dg ⟨4, (x : Int), (y' : Int), v⟩ (dfun (l.take j))) := HG.out.symm
            have em : IntKind.i64.wrap ((dx : Int) + (dy : Int)) = ((dx + dy : Nat) : Int) := by rw [IntKind.wrap_i64]; omega
            clear HG
            go_wp2_with fail
            have F : _ ∧ _ ∧ _ ∧ _ := ⟨C1, C2, r1, r2⟩
            go_region_held3 (fun w => w.cell? ⟨b0, off + j * 5 + 1, none⟩ = some (.int .i64 (x : Int)) ∧ w.cell? ⟨b0, off + j * 5 + 2, none⟩ = some (.int .i64 (y' : Int)) ∧ w.cell? ⟨g, x, none⟩ = some (.int .i64 (dx : Nat)) ∧ w.cell? ⟨g, y', none⟩ = some (.int .i64 (dy : Nat))) (go_keep) (fail)
            go_wp2_with (at_builtin; refine wpList_append_own _ rfl _ _ 64 rfl W.heap.size 3 i0 (.int .i64 0) 1 8 Try.underlying64 HI.out.1 HI.out.2.1 HI.out.2.2.1 HI.out.2.2.2 rfl (by decide) _ _ _ rfl (own_below HO.out.1 ((Below.refl _ _).drew.alloc (Nat.le_refl _) _)) ⟨wr.heap.size, 0, none⟩ 1 1 [.int .i64 (((dx + dy : Nat) : Int))] rfl rfl (fun p u hu => by rcases p with _ | p <;> simp at hu <;> subst hu <;> simp [go_sem]) (by intro u hu; simp at hu; subst hu; rfl) (by simp only [maxLen]; omega) (by omega) (by have := HO.out.2.size; simp; omega) ?_; intro v' w' hown' hgr _)
            refine ⟨⟨j + 1, by omega, by simp, ⟨?_, (HO.out.2.alloc HO.out.2.size _).drew.grown hgr (by have := HO.out.2.size; simp; omega) fun g hg => (HO.out.1.lt g hg).1⟩⟩, by simp [intOf]; omega⟩
            rw [HN.out, ← HD.out]
            exact hown'
          · have g4 : (k == 4) = false := by rw [beq_eq_false_iff_ne]; exact h4
            have HD : Hid ((0 : Nat) = dg ⟨k, a, b, v⟩ (dfun (l.take j))) := by
              show _ = _
              unfold dg
              rw [if_neg h2, if_neg h3, if_neg h4]
            clear hvj h8j
            go_wp2_with (at_builtin; refine wpList_append_own _ rfl _ _ 64 rfl W.heap.size 3 i0 (.int .i64 0) 1 8 Try.underlying64 HI.out.1 HI.out.2.1 HI.out.2.2.1 HI.out.2.2.2 rfl (by decide) _ _ _ rfl (own_below HO.out.1 ((Below.refl _ _).alloc (Nat.le_refl _) _)) ⟨wr.heap.size, 0, none⟩ 1 1 [.int .i64 (0)] rfl rfl (fun p u hu => by rcases p with _ | p <;> simp at hu <;> subst hu <;> simp [go_sem]) (by intro u hu; simp at hu; subst hu; rfl) (by simp only [maxLen]; omega) (by omega) (by have := HO.out.2.size; simp; omega) ?_; intro v' w' hown' hgr _)
            refine ⟨⟨j + 1, by omega, by simp, ⟨?_, (HO.out.2.alloc HO.out.2.size _).grown hgr (by have := HO.out.2.size; simp; omega) fun g hg => (HO.out.1.lt g hg).1⟩⟩, by simp [intOf]; omega⟩
            rw [HN.out, ← HD.out]
            exact hown'
    · obtain rfl : j = i + 1 := by omega
      have ni : ¬ ((i + 1 : Nat) : Int) ≤ (i : Int) := by omega
      obtain ⟨g, cp, hu5, hcell⟩ := il_cell (by rw [dgs_len, List.length_take]; omega) HO.out.1 (by omega)
      subst hu5
      have r1 : wr.cell? ⟨g, i, none⟩ = some (.int .i64 (y : Nat)) := by rw [HY.out]; exact hcell i (by omega)
      have HDD : Hid (Below W.heap.size W wr) := HO.out.2
      have b1 : (i : Int) < ((i + 1 : Nat) : Int) := by omega
      have b2 : (0 : Int) ≤ (i : Int) := by omega
      clear hcell HO HR HV H8 hj hlt
      obtain ⟨m, hm2⟩ : ∃ m, m = i + 1 := ⟨_, rfl⟩
      rw [← hm2] at ni b1 ⊢
      clear hm2
      go_wp2
      go_ret
      exact ⟨rfl, HDD.out⟩
end Go.Proofs.Ytfhojakhoobnhaa

/- The contract of steepleref16.Check over the seat's translation. -/
namespace Go.Proofs.Ytfhojakhoobnhaa
open Go.RowKit

/-- A step in its box beside the zero element. -/
structure Rx (W w : World) (q : Nat) (k a b : Int) (v : Nat × Nat) : Prop where
  z : El w W.heap.size 0 0
  k : w.cell? ⟨q, 0, none⟩ = some (.int .i64 k)
  a : w.cell? ⟨q, 1, none⟩ = some (.int .i64 a)
  b : w.cell? ⟨q, 2, none⟩ = some (.int .i64 b)
  v : w.cell? ⟨q, 3, none⟩ = some (.int .u64 (v.1 : Int)) ∧ w.cell? ⟨q, 4, none⟩ = some (.int .u64 (v.2 : Int))
  d : Below W.heap.size W w
theorem Rx.below {W w w' : World} {q : Nat} {k a b : Int} {v : Nat × Nat} (h : Rx W w q k a b v) (hb : Below w.heap.size w w') : Rx W w' q k a b v :=
  ⟨h.z.below hb, keepc hb h.k, keepc hb h.a, keepc hb h.b, ⟨keepc hb h.v.1, keepc hb h.v.2⟩, h.d.trans (hb.mono h.d.size)⟩
/-- The steps ahead of one that is right are right. -/
theorem chkF_zero {lv vr : Int} {l : List Stp} : ∀ {i : Nat}, chkF lv vr l i = 0 → ∀ j, j < i → chkF lv vr l j = 0 ∧ er lv vr l j = 0
  | i + 1, h, j, hj => by
    have h0 : chkF lv vr l i = 0 := Classical.byContradiction fun hc => by rw [chkF, if_neg hc] at h; exact hc h
    rw [chkF, if_pos h0] at h
    by_cases hji : j = i
    · subst hji; exact ⟨h0, h⟩
    · exact chkF_zero h0 j (by omega)
theorem er_hnI {lv vr : Int} {l : List Stp} {i : Nat} (h : er lv vr l i = 0) : hnI lv vr (i : Int) (l.getD i zst) = 0 := by
  unfold er at h
  by_cases h1 : hnI lv vr (i : Int) (l.getD i zst) = 0
  · exact h1
  · rw [if_neg h1] at h; exact absurd h h1
/-- Where a step may be asked for its degree. -/
theorem rdeg_at (lv vr : Int) (sa : Option Addr) (cap : Nat) (l : List Stp) (i : Nat) (hi : i < l.length) (hm : l.length ≤ 1000) (h0 : chkF lv vr l i = 0) (hf : frm (l.getD i zst) (i : Int) = true) (W : World) (hR : ORow W sa l) :
    Calls Try.prog 50 #[.slice sa l.length cap, .int .i64 (i : Int)] W fun e w' => e = .returned (.int .i64 (dg (l.getD i zst) (dfun (l.take i)) : Nat)) ∧ Below W.heap.size W w' := by
  rw [← dfun_new hi]
  refine rdeg sa cap l i hi hm (fun j hj hk => ?_) (fun j hj => ?_) W hR
  · by_cases hji : j = i
    · subst hji; exact frm_ahead hf hk
    · exact frm_ahead (hnI_frm (er_hnI (chkF_zero h0 j (by omega)).2)) hk
  · by_cases hji : j = i
    · subst hji; exact dfun_le (by omega) h0
    · exact dfun_le (by omega) (chkF_zero h0 j (by omega)).1
end Go.Proofs.Ytfhojakhoobnhaa
