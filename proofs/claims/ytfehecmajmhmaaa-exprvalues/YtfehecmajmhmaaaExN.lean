/- The contract of steepleref16.Value over the seat's translation. -/
import Derived.Test.YtfehecmajmhmaaaExK
import Derived.Test.YtfehecmajmhmaaaRfE
namespace Go.Proofs.Ytfehecmajmhmaaa
open Go.RowKit
open Cb
open Tw (pm)

theorem Ew.upto {w w' : World} {B c h l : Nat} (e : Ew w c h l) (hc : c < B) (hb : Below B w w') : Ew w' c h l :=
  ⟨⟨by rw [hb.cell (p := ⟨c, 0, none⟩) hc]; exact e.hi, by rw [hb.cell (p := ⟨c, 1, none⟩) hc]; exact e.lo⟩, by rw [hb.frozen (p := ⟨c, 0, none⟩) hc]; exact e.fhi, by rw [hb.frozen (p := ⟨c, 1, none⟩) hc]; exact e.flo⟩
theorem own_cell2 {w : World} {base : Nat} {T : TypeId} {v : Value} {n : Nat} {es : List (Nat × Nat)} (hn : es.length = n) (h : w.ownsRow base T 2 v n (flat es)) (h0 : 0 < n) : ∃ g cap, v = .slice (some ⟨g, 0, none⟩) n cap ∧ ∀ p, p < n → w.cell? ⟨g, p * 2, none⟩ = some (.int .u64 ((el es p).1 : Int)) ∧ w.cell? ⟨g, p * 2 + 1, none⟩ = some (.int .u64 ((el es p).2 : Int)) := by
  rcases h.2 with ⟨_, h1⟩ | ⟨g, cap, cur, rfl, _⟩
  · omega
  · refine ⟨g, cap, rfl, fun p hp => ?_⟩
    have e1 := h.cellAt (p * 2) (by omega)
    have e0 := h.cellAt (p * 2 + 1) (by omega)
    rw [(flat_at es p (by omega)).1] at e1
    rw [(flat_at es p (by omega)).2] at e0
    exact ⟨e1, e0⟩
/-- An element in its box, above all that lay there. -/
structure Vy (wr w : World) (q : Nat) (v : Nat × Nat) : Prop where
  bx : Ew w q v.1 v.2
  e : Below wr.heap.size wr w
theorem Vy.below {wr w w' : World} {q : Nat} {v : Nat × Nat} (h : Vy wr w q v) (hb : Below w.heap.size w w') : Vy wr w' q v := ⟨h.bx.below hb, h.e.trans (hb.mono h.e.size)⟩
theorem Vy.drew {wr w : World} {q : Nat} {v : Nat × Nat} (h : Vy wr w q v) : Vy wr w.drew q v := h.below (Below.refl _ _).drew
theorem Hid.mkY {p : Prop} (h : p) : Hid p := h
set_option maxHeartbeats 20000000 in
set_option maxRecDepth 100000 in
theorem rval (sa ea : Option Addr) (cap cap2 : Nat) (l : List Stp) (vs : List (Nat × Nat)) (i : Nat) (hi : i < l.length) (hm : l.length ≤ 1000) (hv : ∀ j, j ≤ i → ((l.getD j zst).k = 3 ∨ (l.getD j zst).k = 4) → (0 ≤ (l.getD j zst).a ∧ (l.getD j zst).a < (j : Int)) ∧ (0 ≤ (l.getD j zst).b ∧ (l.getD j zst).b < (j : Int))) (h2 : ∀ j, j ≤ i → (l.getD j zst).k = 2 → 0 ≤ (l.getD j zst).a ∧ (l.getD j zst).a < (vs.length : Int)) (h8 : ∀ j, j ≤ i → ∀ p, lt2 (vfun vs (l.take j) p)) (W : World) (hR : ORow W sa l) (hV : ERow W ea vs) :
    Calls Try.prog 17 #[.slice sa l.length cap, .int .i64 (i : Int), .slice ea vs.length cap2] W fun e w' => e = .returned (.agg #[.int .u64 ((vfun vs (l.take (i + 1)) i).1 : Int), .int .u64 ((vfun vs (l.take (i + 1)) i).2 : Int)]) ∧ Below W.heap.size W w' := by
  have HR : Hid (ORow W sa l) := hR
  have HVv : Hid (ERow W ea vs) := hV
  have HV : Hid (∀ j, j ≤ i → ((l.getD j zst).k = 3 ∨ (l.getD j zst).k = 4) → (0 ≤ (l.getD j zst).a ∧ (l.getD j zst).a < (j : Int)) ∧ (0 ≤ (l.getD j zst).b ∧ (l.getD j zst).b < (j : Int))) := hv
  have H2 : Hid (∀ j, j ≤ i → (l.getD j zst).k = 2 → 0 ≤ (l.getD j zst).a ∧ (l.getD j zst).a < (vs.length : Int)) := h2
  have H8 : Hid (∀ j, j ≤ i → ∀ p, lt2 (vfun vs (l.take j) p)) := h8
  obtain ⟨i0, hi0, hz0, hz1, hz2⟩ := info_relem
  have HI : Hid (Try.prog.info? 44 = some i0 ∧ i0.zero = some (.agg #[.int .u64 0, .int .u64 0]) ∧ i0.size = 2 ∧ i0.bytes = 16) := ⟨hi0, hz0, hz1, hz2⟩
  obtain ⟨y, hy⟩ : ∃ y, y = vfun vs (l.take (i + 1)) i := ⟨_, rfl⟩
  rw [← hy]
  have HY : Hid (y = vfun vs (l.take (i + 1)) i) := hy
  clear hR hv h8 h2 hV hi0 hz0 hz1 hz2 hy
  go_enter Try.func17, Try.ntmps17
  go_wp2_with fail
  go_loopw [7, 8] (fun s u wr => ∃ j : Nat, j ≤ i + 1 ∧ u = .int .i64 j ∧ Hid (wr.ownsRow (W.heap.size + 1) 44 2 s j (flat (vls vs (l.take j))) ∧ Ew wr W.heap.size 0 0 ∧ Below W.heap.size W wr)) (fun _ u _ => i + 1 - (intOf u).toNat)
  case atStart => exact ⟨0, Nat.zero_le _, rfl, ⟨⟨by simp [flat, vls], .inl ⟨rfl, rfl⟩⟩, ⟨⟨by simp [go_sem], by simp [go_sem]⟩, by simp [go_sem], by simp [go_sem]⟩, by go_grown⟩⟩
  case round =>
    obtain ⟨j, hj, rfl, HO⟩ := hrel
    by_cases hlt : j ≤ i
    · obtain ⟨b0, off, rfl, hb0, c0, c1, c2, c3, c4⟩ := HR.out.cells j (by omega)
      have C0 := keepc HO.out.2.2 c0
      have C1 := keepc HO.out.2.2 c1
      have C2 := keepc HO.out.2.2 c2
      have C3 := keepc HO.out.2.2 c3
      have C4 := keepc HO.out.2.2 c4
      have hvj := HV.out j hlt
      have h2j := H2.out j hlt
      have h8j := H8.out j hlt
      have HN : Hid (flat (vls vs (l.take (j + 1))) = flat (vls vs (l.take j)) ++ [.int .u64 ((va (l.getD j zst) (vfun vs (l.take j)) vs).1 : Int), .int .u64 ((va (l.getD j zst) (vfun vs (l.take j)) vs).2 : Int)]) := by
        show _ = _
        rw [take_st l j (by omega), vls_snoc, flat_snoc]; rfl
      have e0 : (vls vs (l.take j)).length = j := by rw [vls_len, List.length_take]; omega
      have jl : (j : Int) < (l.length : Int) := by omega
      have ji : (j : Int) ≤ (i : Int) := by omega
      have j0 : (0 : Int) ≤ (j : Int) := by omega
      have hws : W.heap.size < wr.heap.size := HO.out.2.1.toEl.lt
      clear c0 c1 c2 c3 c4 HR HV H8 H2
      generalize l.getD j zst = o at *
      obtain ⟨k, a, b, v⟩ := o
      dsimp only at *
      by_cases k2 : k = 2
      · subst k2
        obtain ⟨ha0, ha1⟩ := h2j rfl
        obtain ⟨x, rfl⟩ : ∃ x : Nat, a = (x : Int) := ⟨a.toNat, by omega⟩
        obtain ⟨b1, off1, rfl, hb1, d1, d0⟩ := HVv.out.cells x (by omega)
        have D1 := keepc HO.out.2.2 d1
        have D0 := keepc HO.out.2.2 d0
        have HD : Hid (vs.getD x (0, 0) = va ⟨2, (x : Int), b, v⟩ (vfun vs (l.take j)) vs) := by
          show _ = _
          unfold va el
          rw [if_pos rfl, Int.toNat_natCast]
        clear hvj h8j h2j d1 d0 hb1 HVv
        generalize vs.getD x (0, 0) = r at *
        have hbw : b0 < wr.heap.size := cell_lt C0
        have hbw1 : b1 < wr.heap.size := cell_lt D1
        have n1 : ¬ b0 = wr.heap.size := by omega
        have n2 : ¬ b1 = wr.heap.size := by omega
        go_wp2_with (at_builtin; refine wpList_append_own _ rfl _ _ 41 rfl (W.heap.size + 1) 44 i0 (.agg #[.int .u64 0, .int .u64 0]) 2 16 Try.underlying41 HI.out.1 HI.out.2.1 HI.out.2.2.1 HI.out.2.2.2 rfl (by decide) _ _ _ rfl (own_below HO.out.1 (by go_grown)) ⟨wr.heap.size + 1, 0, none⟩ 1 1 [.int .u64 (r.1 : Int), .int .u64 (r.2 : Int)] rfl rfl (fun p u hu => by rcases p with _ | _ | p <;> simp at hu <;> subst hu <;> simp [go_sem]) (by intro u hu; simp at hu; rcases hu with rfl | rfl <;> rfl) (by simp only [maxLen]; omega) (by omega) (by simp; omega) ?_; intro v' w' hown' hgr _)
        have hb9 : Below (W.heap.size + 1) wr w' := Below.grown (by go_grown) hgr (by simp; omega) fun g hg => (HO.out.1.lt g hg).1
        refine ⟨⟨j + 1, by omega, by simp, ⟨?_, HO.out.2.1.upto (by omega) hb9, HO.out.2.2.trans (hb9.mono (by omega))⟩⟩, by simp [intOf]; omega⟩
        rw [HN.out, ← HD.out]
        exact hown'
      · have g2 : (k == 2) = false := by rw [beq_eq_false_iff_ne]; exact k2
        by_cases h34 : k = 3 ∨ k = 4
        · obtain ⟨ha, hb⟩ := hvj h34
          obtain ⟨x, rfl⟩ : ∃ x : Nat, a = (x : Int) := ⟨a.toNat, by omega⟩
          obtain ⟨y', rfl⟩ : ∃ y : Nat, b = (y : Int) := ⟨b.toNat, by omega⟩
          obtain ⟨g, cp, hu7, hcell⟩ := own_cell2 e0 HO.out.1 (by omega)
          subst hu7
          obtain ⟨r1, r2⟩ := hcell x (by omega)
          obtain ⟨s1, s2⟩ := hcell y' (by omega)
          have q1 := h8j x
          have q2 := h8j y'
          have bx : (x : Int) < (j : Int) := by omega
          have bb : (y' : Int) < (j : Int) := by omega
          have bx0 : (0 : Int) ≤ (x : Int) := by omega
          have bb0 : (0 : Int) ≤ (y' : Int) := by omega
          have HG : Hid (va ⟨k, (x : Int), (y' : Int), v⟩ (vfun vs (l.take j)) vs = if k = 3 then xa (el (vls vs (l.take j)) x) (el (vls vs (l.take j)) y') else pm (el (vls vs (l.take j)) x) (el (vls vs (l.take j)) y')) := by
            show _ = _
            unfold va
            dsimp only
            rw [if_neg k2, Int.toNat_natCast, Int.toNat_natCast]
            by_cases h3 : k = 3
            · rw [if_pos h3, if_pos h3]; rfl
            · rw [if_neg h3, if_neg h3, if_pos (by omega)]; rfl
          unfold vfun at q1 q2
          clear hvj h8j hcell ha hb h2j HVv
          generalize el (vls vs (l.take j)) x = dx at *
          generalize el (vls vs (l.take j)) y' = dy at *
          have A1 := Hid.mkY (radd _ _ _ _ q1.1 q1.2 q2.1 q2.2)
          have A2 := Hid.mkY (rproduct_any _ _ _ _ q1.1 q1.2 q2.1 q2.2)
          have hbw : b0 < wr.heap.size := cell_lt C0
          have hgw : g < wr.heap.size := cell_lt r1
          have HC : Hid (wr.cell? ⟨b0, off + j * 5, none⟩ = some (.int .i64 k) ∧ wr.cell? ⟨b0, off + j * 5 + 1, none⟩ = some (.int .i64 (x : Int)) ∧ wr.cell? ⟨b0, off + j * 5 + 2, none⟩ = some (.int .i64 (y' : Int)) ∧ wr.cell? ⟨g, x * 2, none⟩ = some (.int .u64 (dx.1 : Int)) ∧ wr.cell? ⟨g, x * 2 + 1, none⟩ = some (.int .u64 (dx.2 : Int)) ∧ wr.cell? ⟨g, y' * 2, none⟩ = some (.int .u64 (dy.1 : Int)) ∧ wr.cell? ⟨g, y' * 2 + 1, none⟩ = some (.int .u64 (dy.2 : Int))) := ⟨C0, C1, C2, r1, r2, s1, s2⟩
          have K : Hid (Vy wr (wr.alloc (Obj.cells #[.int .u64 (v.1 : Int), .int .u64 (v.2 : Int)] 44)) wr.heap.size v) := ⟨⟨⟨by simp [go_sem], by simp [go_sem]⟩, by simp [go_sem], by simp [go_sem]⟩, by go_grown⟩
          have n1 : ¬ b0 = wr.heap.size := by omega
          have n2 : ¬ g = wr.heap.size := by omega
          clear r1 r2 s1 s2 q1 q2
          by_cases h3 : k = 3
          · subst h3
            have HD : Hid ((dx.1 ^^^ dy.1, dx.2 ^^^ dy.2) = va ⟨3, (x : Int), (y' : Int), v⟩ (vfun vs (l.take j)) vs) := by show _ = _; rw [HG.out, if_pos rfl]; rfl
            clear HG h34 A2
            generalize (dx.1 ^^^ dy.1) = z1 at *
            generalize (dx.2 ^^^ dy.2) = z2 at *
            go_wp2_with fail
            clear C0 C1 C2 C3 C4
            generalize (wr.alloc (Obj.cells #[.int .u64 (v.1 : Int), .int .u64 (v.2 : Int)] 44)) = w3 at *
            have F : _ ∧ _ ∧ _ ∧ _ ∧ _ ∧ _ ∧ _ := ⟨keepc K.out.e HC.out.1, keepc K.out.e HC.out.2.1, keepc K.out.e HC.out.2.2.1, keepc K.out.e HC.out.2.2.2.1, keepc K.out.e HC.out.2.2.2.2.1, keepc K.out.e HC.out.2.2.2.2.2.1, keepc K.out.e HC.out.2.2.2.2.2.2⟩
            obtain ⟨⟨t1, t2⟩, t3, t4⟩ := K.out.bx
            go_region_held3 (fun w => w.cell? ⟨b0, off + j * 5, none⟩ = some (.int .i64 3) ∧ w.cell? ⟨b0, off + j * 5 + 1, none⟩ = some (.int .i64 (x : Int)) ∧ w.cell? ⟨b0, off + j * 5 + 2, none⟩ = some (.int .i64 (y' : Int)) ∧ w.cell? ⟨g, x * 2, none⟩ = some (.int .u64 (dx.1 : Int)) ∧ w.cell? ⟨g, x * 2 + 1, none⟩ = some (.int .u64 (dx.2 : Int)) ∧ w.cell? ⟨g, y' * 2, none⟩ = some (.int .u64 (dy.1 : Int)) ∧ w.cell? ⟨g, y' * 2 + 1, none⟩ = some (.int .u64 (dy.2 : Int))) (first | (go_keep; done) | (obtain ⟨f1, f2, f3, f4, f5, f6, f7⟩ := F; refine ⟨?_, ?_, ?_, ?_, ?_, ?_, ?_⟩ <;> simp [go_sem, *])) (first | (go_at_call 29; refine (A1.out.go _).mono ?_; rintro e w4 ⟨rfl, hb4⟩; have K' : Hid (Vy wr w4 wr.heap.size v) := Vy.below (w' := w4) (by first | exact K.out | exact K.out.drew) hb4; clear F K hb4 t1 t2 t3 t4; have K := K'; clear K'; have F : _ ∧ _ ∧ _ ∧ _ ∧ _ ∧ _ ∧ _ := ⟨keepc K.out.e HC.out.1, keepc K.out.e HC.out.2.1, keepc K.out.e HC.out.2.2.1, keepc K.out.e HC.out.2.2.2.1, keepc K.out.e HC.out.2.2.2.2.1, keepc K.out.e HC.out.2.2.2.2.2.1, keepc K.out.e HC.out.2.2.2.2.2.2⟩; obtain ⟨⟨t1, t2⟩, t3, t4⟩ := K.out.bx))
            obtain ⟨f1, f2, f3, f4, f5, f6, f7⟩ := F
            go_wp2_with (at_builtin; refine wpList_append_own _ rfl _ _ 41 rfl (W.heap.size + 1) 44 i0 (.agg #[.int .u64 0, .int .u64 0]) 2 16 Try.underlying41 HI.out.1 HI.out.2.1 HI.out.2.2.1 HI.out.2.2.2 rfl (by decide) _ _ _ rfl (own_below HO.out.1 (((K.out.e.setCell (Nat.le_refl _) _).setCell (Nat.le_refl _) _).alloc (by have := K.out.e.size; simp; omega) _)) ⟨w4.heap.size, 0, none⟩ 1 1 [.int .u64 (z1 : Int), .int .u64 (z2 : Int)] rfl rfl (fun p u hu => by rcases p with _ | _ | p <;> simp at hu <;> subst hu <;> simp [go_sem]) (by intro u hu; simp at hu; rcases hu with rfl | rfl <;> rfl) (by simp only [maxLen]; omega) (by omega) (by have := K.out.e.size; simp; omega) ?_; intro v' w' hown' hgr _)
            have hb9 : Below (W.heap.size + 1) wr w' := Below.grown ((((K.out.e.mono (by omega)).setCell (by show _ ≤ wr.heap.size; omega) _).setCell (by show _ ≤ wr.heap.size; omega) _).alloc (by have := K.out.e.size; simp; omega) _) hgr (by have := K.out.e.size; simp; omega) fun g hg => (HO.out.1.lt g hg).1
            refine ⟨⟨j + 1, by omega, by simp, ⟨?_, HO.out.2.1.upto (by omega) hb9, HO.out.2.2.trans (hb9.mono (by omega))⟩⟩, by simp [intOf]; omega⟩
            rw [HN.out, ← HD.out]
            exact hown'
          · have g3 : (k == 3) = false := by rw [beq_eq_false_iff_ne]; exact h3
            have h4 : k = 4 := by omega
            subst h4
            have HD : Hid ((Tw.pmh dx.1 dx.2 dy.1 dy.2, Tw.pml dx.1 dx.2 dy.1 dy.2) = va ⟨4, (x : Int), (y' : Int), v⟩ (vfun vs (l.take j)) vs) := by show _ = _; rw [HG.out, if_neg h3]; rfl
            clear HG h34 A1
            generalize Tw.pmh dx.1 dx.2 dy.1 dy.2 = z1 at *
            generalize Tw.pml dx.1 dx.2 dy.1 dy.2 = z2 at *
            go_wp2_with fail
            clear C0 C1 C2 C3 C4
            generalize (wr.alloc (Obj.cells #[.int .u64 (v.1 : Int), .int .u64 (v.2 : Int)] 44)) = w3 at *
            have F : _ ∧ _ ∧ _ ∧ _ ∧ _ ∧ _ ∧ _ := ⟨keepc K.out.e HC.out.1, keepc K.out.e HC.out.2.1, keepc K.out.e HC.out.2.2.1, keepc K.out.e HC.out.2.2.2.1, keepc K.out.e HC.out.2.2.2.2.1, keepc K.out.e HC.out.2.2.2.2.2.1, keepc K.out.e HC.out.2.2.2.2.2.2⟩
            obtain ⟨⟨t1, t2⟩, t3, t4⟩ := K.out.bx
            go_region_held3 (fun w => w.cell? ⟨b0, off + j * 5, none⟩ = some (.int .i64 4) ∧ w.cell? ⟨b0, off + j * 5 + 1, none⟩ = some (.int .i64 (x : Int)) ∧ w.cell? ⟨b0, off + j * 5 + 2, none⟩ = some (.int .i64 (y' : Int)) ∧ w.cell? ⟨g, x * 2, none⟩ = some (.int .u64 (dx.1 : Int)) ∧ w.cell? ⟨g, x * 2 + 1, none⟩ = some (.int .u64 (dx.2 : Int)) ∧ w.cell? ⟨g, y' * 2, none⟩ = some (.int .u64 (dy.1 : Int)) ∧ w.cell? ⟨g, y' * 2 + 1, none⟩ = some (.int .u64 (dy.2 : Int))) (first | (go_keep; done) | (obtain ⟨f1, f2, f3, f4, f5, f6, f7⟩ := F; refine ⟨?_, ?_, ?_, ?_, ?_, ?_, ?_⟩ <;> simp [go_sem, *])) (first | (go_at_call 30; refine (A2.out.go _).mono ?_; rintro e w4 ⟨rfl, hb4⟩; have K' : Hid (Vy wr w4 wr.heap.size v) := Vy.below (w' := w4) (by first | exact K.out | exact K.out.drew) hb4; clear F K hb4 t1 t2 t3 t4; have K := K'; clear K'; have F : _ ∧ _ ∧ _ ∧ _ ∧ _ ∧ _ ∧ _ := ⟨keepc K.out.e HC.out.1, keepc K.out.e HC.out.2.1, keepc K.out.e HC.out.2.2.1, keepc K.out.e HC.out.2.2.2.1, keepc K.out.e HC.out.2.2.2.2.1, keepc K.out.e HC.out.2.2.2.2.2.1, keepc K.out.e HC.out.2.2.2.2.2.2⟩; obtain ⟨⟨t1, t2⟩, t3, t4⟩ := K.out.bx))
            go_wp2_with (at_builtin; refine wpList_append_own _ rfl _ _ 41 rfl (W.heap.size + 1) 44 i0 (.agg #[.int .u64 0, .int .u64 0]) 2 16 Try.underlying41 HI.out.1 HI.out.2.1 HI.out.2.2.1 HI.out.2.2.2 rfl (by decide) _ _ _ rfl (own_below HO.out.1 (((K.out.e.setCell (Nat.le_refl _) _).setCell (Nat.le_refl _) _).alloc (by have := K.out.e.size; simp; omega) _)) ⟨w4.heap.size, 0, none⟩ 1 1 [.int .u64 (z1 : Int), .int .u64 (z2 : Int)] rfl rfl (fun p u hu => by rcases p with _ | _ | p <;> simp at hu <;> subst hu <;> simp [go_sem]) (by intro u hu; simp at hu; rcases hu with rfl | rfl <;> rfl) (by simp only [maxLen]; omega) (by omega) (by have := K.out.e.size; simp; omega) ?_; intro v' w' hown' hgr _)
            have hb9 : Below (W.heap.size + 1) wr w' := Below.grown ((((K.out.e.mono (by omega)).setCell (by show _ ≤ wr.heap.size; omega) _).setCell (by show _ ≤ wr.heap.size; omega) _).alloc (by have := K.out.e.size; simp; omega) _) hgr (by have := K.out.e.size; simp; omega) fun g hg => (HO.out.1.lt g hg).1
            refine ⟨⟨j + 1, by omega, by simp, ⟨?_, HO.out.2.1.upto (by omega) hb9, HO.out.2.2.trans (hb9.mono (by omega))⟩⟩, by simp [intOf]; omega⟩
            rw [HN.out, ← HD.out]
            exact hown'
        · have g3 : (k == 3) = false := by rw [beq_eq_false_iff_ne]; exact fun h => h34 (.inl h)
          have g4 : (k == 4) = false := by rw [beq_eq_false_iff_ne]; exact fun h => h34 (.inr h)
          have HD : Hid (v = va ⟨k, a, b, v⟩ (vfun vs (l.take j)) vs) := by
            show _ = _
            unfold va
            rw [if_neg k2, if_neg (fun h => h34 (.inl h)), if_neg (fun h => h34 (.inr h))]
          have hbw : b0 < wr.heap.size := cell_lt C0
          have n1 : ¬ b0 = wr.heap.size := by omega
          clear hvj h8j h2j HVv h34 k2
          go_wp2_with (at_builtin; refine wpList_append_own _ rfl _ _ 41 rfl (W.heap.size + 1) 44 i0 (.agg #[.int .u64 0, .int .u64 0]) 2 16 Try.underlying41 HI.out.1 HI.out.2.1 HI.out.2.2.1 HI.out.2.2.2 rfl (by decide) _ _ _ rfl (own_below HO.out.1 (by go_grown)) ⟨wr.heap.size + 1, 0, none⟩ 1 1 [.int .u64 (v.1 : Int), .int .u64 (v.2 : Int)] rfl rfl (fun p u hu => by rcases p with _ | _ | p <;> simp at hu <;> subst hu <;> simp [go_sem]) (by intro u hu; simp at hu; rcases hu with rfl | rfl <;> rfl) (by simp only [maxLen]; omega) (by omega) (by simp; omega) ?_; intro v' w' hown' hgr _)
          have hb9 : Below (W.heap.size + 1) wr w' := Below.grown (by go_grown) hgr (by simp; omega) fun g hg => (HO.out.1.lt g hg).1
          refine ⟨⟨j + 1, by omega, by simp, ⟨?_, HO.out.2.1.upto (by omega) hb9, HO.out.2.2.trans (hb9.mono (by omega))⟩⟩, by simp [intOf]; omega⟩
          rw [HN.out, ← HD.out]
          exact hown'
    · obtain rfl : j = i + 1 := by omega
      have e0 : (vls vs (l.take (i + 1))).length = i + 1 := by rw [vls_len, List.length_take]; omega
      obtain ⟨g, cp, hu7, hcell⟩ := own_cell2 e0 HO.out.1 (by omega)
      subst hu7
      obtain ⟨r1, r2⟩ := hcell i (by omega)
      have hyy : el (vls vs (l.take (i + 1))) i = y := HY.out.symm
      rw [hyy] at r1 r2
      obtain ⟨⟨t1, t2⟩, t3, t4⟩ := HO.out.2.1
      have HD : Hid (Below W.heap.size W wr) := HO.out.2.2
      have b1 : (i : Int) < ((i + 1 : Nat) : Int) := by omega
      have b2 : (0 : Int) ≤ (i : Int) := by omega
      clear HO hcell hyy HR HV H2 H8 HVv HY e0
      go_wp2_with fail
      refine bodyPost_ret (v := .agg #[.int .u64 (y.1 : Int), .int .u64 (y.2 : Int)]) (by simp [results, Try.results17, go_sem, *]) rfl ⟨rfl, ?_⟩
      exact (HD.out.setCell (by simp) _).setCell (by simp) _
end Go.Proofs.Ytfehecmajmhmaaa
