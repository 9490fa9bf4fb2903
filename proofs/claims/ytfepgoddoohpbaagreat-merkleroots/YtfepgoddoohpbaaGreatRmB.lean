/- The contract of the document's Path of layer 12 over the seat's translation. -/
import Derived.Test.YtfepgoddoohpbaaGreatRmA
namespace Go.Proofs.YtfepgoddoohpbaaGreat
open Go.RowKit

/-- A path, as cells. -/
def pts (f : Nat → ByteArray) (i h : Nat) : List Value := (List.range h).map fun k => .string (lv f k (sib i k))
theorem pts_succ (f : Nat → ByteArray) (i h : Nat) : pts f i (h + 1) = pts f i h ++ [.string (lv f h (sib i h))] := by unfold pts; rw [List.range_succ, List.map_append]; rfl
theorem pts_low (f : Nat → ByteArray) {i h : Nat} (hi : i < 2 ^ h) : pts f i (h + 1) = pts f i h ++ [.string (lv (fun j => f (2 ^ h + j)) h 0)] := by
  have := lv_from f h 1 0
  rw [Nat.one_mul] at this
  rw [pts_succ, this]
  unfold sib
  rw [Nat.div_eq_of_lt hi]
  rfl
theorem sib_high {i h k : Nat} (hk : k < h) : sib (2 ^ h + i) k = 2 ^ (h - k) + sib i k := by
  unfold sib
  have e1 : 2 ^ h = 2 ^ (h - k) * 2 ^ k := by rw [← Nat.pow_add, show h - k + k = h by omega]
  have e2 : (2 ^ h + i) / 2 ^ k = 2 ^ (h - k) + i / 2 ^ k := by rw [e1, Nat.mul_comm, Nat.mul_add_div (Nat.two_pow_pos k)]
  have e3 : 2 ^ (h - k) = 2 * 2 ^ (h - k - 1) := by rw [show h - k = (h - k - 1) + 1 by omega, Nat.pow_succ, Nat.mul_comm]; rfl
  rw [e2, xor_one, xor_one, e3]
  generalize 2 ^ (h - k - 1) = E
  generalize i / 2 ^ k = x
  by_cases e : x % 2 = 0
  · rw [if_pos (by omega), if_pos e]; omega
  · rw [if_neg (by omega), if_neg e]; omega
theorem pts_high (f : Nat → ByteArray) {i h : Nat} (hi : i < 2 ^ h) : pts f (2 ^ h + i) (h + 1) = pts (fun j => f (2 ^ h + j)) i h ++ [.string (lv f h 0)] := by
  rw [pts_succ]
  congr 1
  · unfold pts
    refine List.map_congr_left fun k hk => ?_
    have hk' : k < h := by simpa using hk
    have e1 : 2 ^ h = 2 ^ (h - k) * 2 ^ k := by rw [← Nat.pow_add, show h - k + k = h by omega]
    have := lv_from f k (2 ^ (h - k)) (sib i k)
    rw [← e1] at this
    rw [this, sib_high hk']
  · unfold sib
    have e : (2 ^ h + i) / 2 ^ h = 1 := by
      have := Nat.mul_add_div (Nat.two_pow_pos h) 1 i
      rw [Nat.mul_one, Nat.div_eq_of_lt hi] at this
      exact this
    rw [e]
    rfl
theorem own_mono {w : World} {base base' : Nat} {T : TypeId} {v : Value} {n : Nat} {xs : List Value} (h : w.ownsRow base T 1 v n xs) (hb : base' ≤ base) : w.ownsRow base' T 1 v n xs := by
  refine ⟨h.1, ?_⟩
  rcases h.2 with h1 | ⟨g, cap, cur, h1, h2, h3⟩
  · exact .inl h1
  · exact .inr ⟨g, cap, cur, h1, Nat.le_trans hb h2, h3⟩
set_option maxHeartbeats 8000000 in
set_option maxRecDepth 100000 in
theorem rpath_ok (gB cB gT cT : Nat) (gs cs : Nat → Nat) : ∀ (h b off n cap i : Nat) (f : Nat → ByteArray) (W : World), h ≤ 12 → n = 2 ^ h → n ≤ cap → i < n → (∀ i, i < n → (f i).size ≤ 1000) → RTab W gB gT gs cs → Txs W (some ⟨b, off, none⟩) n f →
    Calls Tryz.prog 16 #[tbl gB cB gT cT, .slice (some ⟨b, off, none⟩) n cap, .int .i64 (i : Int)] W fun e w' => ∃ v, e = .returned v ∧ w'.ownsRow W.heap.size 9 1 v h (pts f i h) ∧ Below W.heap.size W w'
  | 0, b, off, n, cap, i, f, W, hh, hn, hc, hi, hs, hR, hX => by
    obtain rfl : n = 1 := hn
    clear hX hs hR hc
    go_enter Tryz.func16, Tryz.ntmps16
    go_wp2_with fail
    go_ret
    exact ⟨_, rfl, World.ownsRow_nil _ _ _ _, below_laid _ _⟩
  | h + 1, b, off, n, cap, i, f, W, hh, hn, hc, hi, hs, hR, hX => by
    obtain ⟨j0, hj0, jz0, jz1, jz2⟩ := info_str
    have HJ : Hid (Tryz.prog.info? 9 = some j0 ∧ j0.zero = some (.string (ByteArray.mk #[])) ∧ j0.size = 1 ∧ j0.bytes = 16) := ⟨hj0, jz0, jz1, jz2⟩
    clear hj0 jz0 jz1 jz2
    obtain ⟨m, hm⟩ : ∃ m, m = 2 ^ h := ⟨_, rfl⟩
    have hp : 0 < m := by rw [hm]; exact Nat.two_pow_pos h
    have hml : m ≤ 4096 := by rw [hm]; exact Nat.pow_le_pow_right (n := 2) (by decide) (show h ≤ 12 by omega)
    have hnm : n = 2 * m := by rw [hn, hm, Nat.pow_succ, Nat.mul_comm]
    have K := pk_new cB cT hR
    have HX : Hid (Txs W (some ⟨b, off, none⟩) n f) := hX
    have n1 : ¬ (n : Int) = 1 := by omega
    have q1 : (n : Int).tdiv 2 = (m : Int) := by rw [Int.tdiv_eq_ediv_of_nonneg (by omega)]; omega
    have q2 : (n : Int) / 2 = (m : Int) := by omega
    have q3 : (m : Int) ≤ (n : Int) := by omega
    have q4 : (m : Int) ≤ (cap : Int) := by omega
    have q5 : (0 : Int) ≤ (m : Int) := by omega
    have q6 : n - m = m := by omega
    have q7 : ¬ cap = m := by omega
    have q8 : (n : Int) ≤ (cap : Int) := by omega
    have q9 : ¬ cap = 0 := by omega
    by_cases him : i < m
    · have i1 : (i : Int) < (m : Int) := by omega
      have HP : Hid (∀ w, RTab w gB gT gs cs → Txs w (some ⟨b, off, none⟩) n f → Calls Tryz.prog 16 #[.agg #[.slice (some ⟨gB, 0, none⟩) 256 cB, .slice (some ⟨gT, 0, none⟩) 8 cT], .slice (some ⟨b, off, none⟩) m cap, .int .i64 (i : Int)] w fun e w' => ∃ v, e = .returned v ∧ w'.ownsRow w.heap.size 9 1 v h (pts f i h) ∧ Below w.heap.size w w') := fun w t x => by
        have := rpath_ok gB cB gT cT gs cs h b (off + 0) m cap i (fun i => f (0 + i)) w (by omega) hm (by omega) him (fun i hi => hs _ (by omega)) t (x.cut (by omega))
        simp only [Nat.add_zero, Nat.zero_add] at this
        exact this
      have HB : Hid (∀ w, RTab w gB gT gs cs → Txs w (some ⟨b, off, none⟩) n f → Calls Tryz.prog 14 #[.agg #[.slice (some ⟨gB, 0, none⟩) 256 cB, .slice (some ⟨gT, 0, none⟩) 8 cT], .slice (some ⟨b, off + m, none⟩) m (cap - m)] w fun e w' => e = .returned (.string (lv (fun i => f (m + i)) h 0)) ∧ Below w.heap.size w w') := fun w t x => rroot_ok gB cB gT cT gs cs h b (off + m) m (cap - m) (fun i => f (m + i)) w (by omega) hm (by omega) (fun i hi => hs _ (by omega)) t (x.cut (by omega))
      have HE : Hid (pts f i (h + 1) = pts f i h ++ [.string (lv (fun i => f (m + i)) h 0)]) := by rw [hm]; exact pts_low f (by rw [← hm]; exact him)
      have hh12 : h ≤ 12 := by omega
      clear hR hX hs hm hnm hn hh hc hi
      generalize lv (fun i => f (m + i)) h 0 = rb at *
      go_enter Tryz.func16, Tryz.ntmps16
      go_wp2_with fail
      have HXK : Hid (Txs (W.alloc (Obj.cells #[.slice (some ⟨gB, 0, none⟩) 256 cB, .slice (some ⟨gT, 0, none⟩) 8 cT] 39)) (some ⟨b, off, none⟩) n f) := HX.out.below (below_laid _ _)
      have F0 : _ ∧ _ := ⟨K.c0, K.c1⟩
      generalize W.alloc (Obj.cells #[.slice (some ⟨gB, 0, none⟩) 256 cB, .slice (some ⟨gT, 0, none⟩) 8 cT] 39) = w0 at *
      clear HX
      generalize hb : W.heap.size = q at *
      have KX : Hid (Pk W w0 gB cB gT cT gs cs q ∧ Txs w0 (some ⟨b, off, none⟩) n f) := ⟨K, HXK.out⟩
      clear K HXK
      go_region_held3 (fun w => w.cell? ⟨q, 0, none⟩ = some (.slice (some ⟨gB, 0, none⟩) 256 cB) ∧ w.cell? ⟨q, 1, none⟩ = some (.slice (some ⟨gT, 0, none⟩) 8 cT)) (go_keep) (first | (go_at_call_of 16 (#[.agg #[.slice (some ⟨gB, 0, none⟩) 256 cB, .slice (some ⟨gT, 0, none⟩) 8 cT], .slice (some ⟨b, off, none⟩) m cap, .int .i64 (i : Int)] : Array Value); refine (HP.out _ (by first | exact KX.out.1.t | exact KX.out.1.drew.t) (by first | exact KX.out.2 | exact KX.out.2.drew)).mono ?_; rintro e w1 ⟨v, rfl, hv1, hb1⟩; have hl1 := cell_lt KX.out.1.c0; have KY : Hid (Pk W w1 gB cB gT cT gs cs q ∧ Txs w1 (some ⟨b, off, none⟩) n f ∧ w1.ownsRow (q + 1) 9 1 v h (pts f i h)) := (by first | exact ⟨KX.out.1.below hb1, KX.out.2.below hb1, own_mono hv1 hl1⟩ | exact ⟨KX.out.1.drew.below hb1, KX.out.2.drew.below hb1, own_mono hv1 hl1⟩); have F' : w1.cell? ⟨q, 0, none⟩ = some (.slice (some ⟨gB, 0, none⟩) 256 cB) ∧ w1.cell? ⟨q, 1, none⟩ = some (.slice (some ⟨gT, 0, none⟩) 8 cT) := ⟨KY.out.1.c0, KY.out.1.c1⟩; clear F0 KX hb1 hv1 hl1; have F0 := F'; clear F'))
      go_wp2_with fail
      refine wp_region_noPanic ?_
      refine wp_region_peel (S := fun w => w.cell? ⟨q, 0, none⟩ = some (.slice (some ⟨gB, 0, none⟩) 256 cB) ∧ w.cell? ⟨q, 1, none⟩ = some (.slice (some ⟨gT, 0, none⟩) 8 cT)) 8 (by kernel_rfl) rfl (by kernel_rfl) F0 (fun hHeld => ?_)
      refine wpAnyH_take (i := 0) (oi := _) (v := ?_) rfl (by kernel_rfl) (by kernel_rfl) (by kernel_rfl) (fun _ _ _ h => h) (Or.inl ⟨by rfl, ?_⟩) (by assumption) ?_
      rotate_left
      · ((intro w hSw; (try dsimp only at hSw); (try obtain ⟨hS0, hS1⟩ := hSw); go_simp) <;> (try with_reducible rfl))
      try simp only [Act.put]
      refine wpAnyH_take (i := 1) (oi := _) (v := ?_) rfl (by kernel_rfl) (by kernel_rfl) (by kernel_rfl) (fun _ _ _ h => h) (Or.inl ⟨by rfl, ?_⟩) (by assumption) ?_
      rotate_left
      · ((intro w hSw; (try dsimp only at hSw); (try obtain ⟨hS0, hS1⟩ := hSw); go_simp) <;> (try with_reducible rfl))
      try simp only [Act.put]
      refine wpAnyH_take (i := 2) (oi := _) (v := ?_) rfl (by kernel_rfl) (by kernel_rfl) (by kernel_rfl) (fun _ _ _ h => h) (Or.inl ⟨by rfl, ?_⟩) (by assumption) ?_
      rotate_left
      · ((intro w hSw; (try dsimp only at hSw); (try obtain ⟨hS0, hS1⟩ := hSw); go_simp) <;> (try with_reducible rfl))
      try simp only [Act.put]
      refine wpAnyH_take (i := 3) (oi := _) (v := ?_) rfl (by kernel_rfl) (by kernel_rfl) (by kernel_rfl) (fun _ _ _ h => h) (Or.inl ⟨by rfl, ?_⟩) (by assumption) ?_
      rotate_left
      · ((intro w hSw; (try dsimp only at hSw); (try obtain ⟨hS0, hS1⟩ := hSw); go_simp) <;> (try with_reducible rfl))
      try simp only [Act.put]
      refine wpAnyH_take (i := 4) (oi := _) (v := ?_) rfl (by kernel_rfl) (by kernel_rfl) (by kernel_rfl) (fun _ _ _ h => h) (Or.inl ⟨by rfl, ?_⟩) (by assumption) ?_
      rotate_left
      · ((intro w hSw; (try dsimp only at hSw); (try obtain ⟨hS0, hS1⟩ := hSw); go_simp) <;> (try with_reducible rfl))
      try simp only [Act.put]
      refine wpAnyH_ready (rs := [5]) (by kernel_rfl) (by simp) ?_
      refine AllReadyH.cons (o := _) rfl (fun KK hKK => ?_) AllReadyH.nil
      go_simp
      (go_at_call 14; refine (HB.out _ KY.out.1.drew.t KY.out.2.1.drew).mono ?_; rintro e w2 ⟨rfl, hb2⟩)
      have KZ : Hid (Pk W w2 gB cB gT cT gs cs q ∧ w2.ownsRow (q + 1) 9 1 v h (pts f i h)) := ⟨KY.out.1.drew.below hb2, own_below (w := w1.drew) KY.out.2.2 hb2⟩
      have F2 : w2.cell? ⟨q, 0, none⟩ = some (.slice (some ⟨gB, 0, none⟩) 256 cB) ∧ w2.cell? ⟨q, 1, none⟩ = some (.slice (some ⟨gT, 0, none⟩) 8 cT) := ⟨KZ.out.1.c0, KZ.out.1.c1⟩
      refine hKK.out _ _ F2 (fun hHeld => ?_)
      clear hKK KK F0 KY hb2
      try simp only [Act.put]
      refine wpAnyH_ready (rs := [6]) (by kernel_rfl) (by simp) ?_
      refine AllReadyH.cons (o := _) rfl (fun KK hKK => ?_) AllReadyH.nil
      go_simp
      have KA := KZ.out.1.below (below_laid w2 (.cells #[.string rb] 9))
      refine hKK.out _ _ ⟨KA.c0, KA.c1⟩ (fun hHeld => ?_)
      clear hKK KK
      try simp only [Act.put]
      refine wpAnyH_ready (rs := [7]) (by kernel_rfl) (by simp) ?_
      refine AllReadyH.cons (o := _) rfl (fun KK hKK => ?_) AllReadyH.nil
      simp only [Array.getElem_pop, List.getElem_toArray, List.getElem_cons_succ, List.getElem_cons_zero]
      rw [if_pos (by rfl)]
      refine wp_append_own _ _ _ 22 rfl (q + 1) 9 j0 (.string (ByteArray.mk #[])) 1 16 Tryz.underlying22 HJ.out.1 HJ.out.2.1 HJ.out.2.2.1 HJ.out.2.2.2 rfl (by decide) v h (pts f i h) rfl (own_below KZ.out.2 (below_laid _ _)) ⟨w2.heap.size, 0, none⟩ 1 1 [.string rb] rfl rfl ?_ ?_ (by simp only [maxLen]; omega) (by omega) ?_ ?_
      · exact fun p u hu => by rcases p with _ | p <;> simp at hu; subst hu; simp [go_sem]
      · intro u hu; simp at hu; subst hu; rfl
      · have := cell_lt KZ.out.1.c0; simp; omega
      intro v' w' hown' hgr _
      have BB : Below W.heap.size W w' := by
        have h1 := KZ.out.1.d
        exact (h1.alloc h1.size _).grown hgr (by have := h1.size; simp; omega) fun r hr => by have := (KZ.out.2.lt r hr).1; omega
      have FW : w'.cell? ⟨q, 0, none⟩ = some (.slice (some ⟨gB, 0, none⟩) 256 cB) ∧ w'.cell? ⟨q, 1, none⟩ = some (.slice (some ⟨gT, 0, none⟩) 8 cT) := ⟨hgr.cell KA.c0 (fun e => by have := (KZ.out.2.lt q e.symm).1; omega), hgr.cell KA.c1 (fun e => by have := (KZ.out.2.lt q e.symm).1; omega)⟩
      refine hKK.out _ _ FW (fun hHeld => ?_)
      clear hKK KK
      try simp only [Act.put]
      refine wpAnyH_done (by kernel_rfl) ?_ _
      refine peel_last rfl (fun KK hKK => ?_)
      go_simp
      refine hKK _ _ ?_
      refine NoPanic.normal ?_
      clear hKK KK
      go_wp2
      go_ret
      exact ⟨_, rfl, by rw [HE.out]; exact own_mono hown' (by omega), BB⟩
    · obtain ⟨i', hi'⟩ : ∃ i', i = m + i' := ⟨i - m, by omega⟩
      have hil : i' < m := by omega
      have i1 : ¬ (i : Int) < (m : Int) := by omega
      have i2 : (i : Int) - (m : Int) = (i' : Int) := by omega
      have i3 : IntKind.i64.wrap (i' : Int) = (i' : Int) := by rw [IntKind.wrap_i64]; omega
      have HP : Hid (∀ w, RTab w gB gT gs cs → Txs w (some ⟨b, off, none⟩) n f → Calls Tryz.prog 16 #[.agg #[.slice (some ⟨gB, 0, none⟩) 256 cB, .slice (some ⟨gT, 0, none⟩) 8 cT], .slice (some ⟨b, off + m, none⟩) m (cap - m), .int .i64 (i' : Int)] w fun e w' => ∃ v, e = .returned v ∧ w'.ownsRow w.heap.size 9 1 v h (pts (fun j => f (m + j)) i' h) ∧ Below w.heap.size w w') := fun w t x => rpath_ok gB cB gT cT gs cs h b (off + m) m (cap - m) i' (fun i => f (m + i)) w (by omega) hm (by omega) hil (fun i hi => hs _ (by omega)) t (x.cut (by omega))
      have HA : Hid (∀ w, RTab w gB gT gs cs → Txs w (some ⟨b, off, none⟩) n f → Calls Tryz.prog 14 #[.agg #[.slice (some ⟨gB, 0, none⟩) 256 cB, .slice (some ⟨gT, 0, none⟩) 8 cT], .slice (some ⟨b, off, none⟩) m cap] w fun e w' => e = .returned (.string (lv f h 0)) ∧ Below w.heap.size w w') := fun w t x => by
        have := rroot_ok gB cB gT cT gs cs h b (off + 0) m cap (fun i => f (0 + i)) w (by omega) hm (by omega) (fun i hi => hs _ (by omega)) t (x.cut (by omega))
        simp only [Nat.add_zero, Nat.zero_add] at this
        exact this
      have HE : Hid (pts f i (h + 1) = pts (fun j => f (m + j)) i' h ++ [.string (lv f h 0)]) := by rw [hi', hm]; exact pts_high f (by rw [← hm]; exact hil)
      have hh12 : h ≤ 12 := by omega
      have il : i ≤ 100000 := by omega
      clear hR hX hs hm hnm hn hh hc hi hi'
      generalize lv f h 0 = ra at *
      go_enter Tryz.func16, Tryz.ntmps16
      go_wp2_with fail
      have HXK : Hid (Txs (W.alloc (Obj.cells #[.slice (some ⟨gB, 0, none⟩) 256 cB, .slice (some ⟨gT, 0, none⟩) 8 cT] 39)) (some ⟨b, off, none⟩) n f) := HX.out.below (below_laid _ _)
      have F0 : _ ∧ _ := ⟨K.c0, K.c1⟩
      generalize W.alloc (Obj.cells #[.slice (some ⟨gB, 0, none⟩) 256 cB, .slice (some ⟨gT, 0, none⟩) 8 cT] 39) = w0 at *
      clear HX
      generalize hb : W.heap.size = q at *
      have KX : Hid (Pk W w0 gB cB gT cT gs cs q ∧ Txs w0 (some ⟨b, off, none⟩) n f) := ⟨K, HXK.out⟩
      clear K HXK
      go_region_held3 (fun w => w.cell? ⟨q, 0, none⟩ = some (.slice (some ⟨gB, 0, none⟩) 256 cB) ∧ w.cell? ⟨q, 1, none⟩ = some (.slice (some ⟨gT, 0, none⟩) 8 cT)) (go_keep) (first | (go_at_call_of 16 (#[.agg #[.slice (some ⟨gB, 0, none⟩) 256 cB, .slice (some ⟨gT, 0, none⟩) 8 cT], .slice (some ⟨b, off + m, none⟩) m (cap - m), .int .i64 (i' : Int)] : Array Value); refine (HP.out _ (by first | exact KX.out.1.t | exact KX.out.1.drew.t) (by first | exact KX.out.2 | exact KX.out.2.drew)).mono ?_; rintro e w1 ⟨v, rfl, hv1, hb1⟩; have hl1 := cell_lt KX.out.1.c0; have KY : Hid (Pk W w1 gB cB gT cT gs cs q ∧ Txs w1 (some ⟨b, off, none⟩) n f ∧ w1.ownsRow (q + 1) 9 1 v h (pts (fun j => f (m + j)) i' h)) := (by first | exact ⟨KX.out.1.below hb1, KX.out.2.below hb1, own_mono hv1 hl1⟩ | exact ⟨KX.out.1.drew.below hb1, KX.out.2.drew.below hb1, own_mono hv1 hl1⟩); have F' : w1.cell? ⟨q, 0, none⟩ = some (.slice (some ⟨gB, 0, none⟩) 256 cB) ∧ w1.cell? ⟨q, 1, none⟩ = some (.slice (some ⟨gT, 0, none⟩) 8 cT) := ⟨KY.out.1.c0, KY.out.1.c1⟩; clear F0 KX hb1 hv1 hl1; have F0 := F'; clear F'))
      go_wp2_with fail
      refine wp_region_noPanic ?_
      refine wp_region_peel (S := fun w => w.cell? ⟨q, 0, none⟩ = some (.slice (some ⟨gB, 0, none⟩) 256 cB) ∧ w.cell? ⟨q, 1, none⟩ = some (.slice (some ⟨gT, 0, none⟩) 8 cT)) 8 (by kernel_rfl) rfl (by kernel_rfl) F0 (fun hHeld => ?_)
      refine wpAnyH_take (i := 0) (oi := _) (v := ?_) rfl (by kernel_rfl) (by kernel_rfl) (by kernel_rfl) (fun _ _ _ h => h) (Or.inl ⟨by rfl, ?_⟩) (by assumption) ?_
      rotate_left
      · ((intro w hSw; (try dsimp only at hSw); (try obtain ⟨hS0, hS1⟩ := hSw); go_simp) <;> (try with_reducible rfl))
      try simp only [Act.put]
      refine wpAnyH_take (i := 1) (oi := _) (v := ?_) rfl (by kernel_rfl) (by kernel_rfl) (by kernel_rfl) (fun _ _ _ h => h) (Or.inl ⟨by rfl, ?_⟩) (by assumption) ?_
      rotate_left
      · ((intro w hSw; (try dsimp only at hSw); (try obtain ⟨hS0, hS1⟩ := hSw); go_simp) <;> (try with_reducible rfl))
      try simp only [Act.put]
      refine wpAnyH_take (i := 2) (oi := _) (v := ?_) rfl (by kernel_rfl) (by kernel_rfl) (by kernel_rfl) (fun _ _ _ h => h) (Or.inl ⟨by rfl, ?_⟩) (by assumption) ?_
      rotate_left
      · ((intro w hSw; (try dsimp only at hSw); (try obtain ⟨hS0, hS1⟩ := hSw); go_simp) <;> (try with_reducible rfl))
      try simp only [Act.put]
      refine wpAnyH_take (i := 3) (oi := _) (v := ?_) rfl (by kernel_rfl) (by kernel_rfl) (by kernel_rfl) (fun _ _ _ h => h) (Or.inl ⟨by rfl, ?_⟩) (by assumption) ?_
      rotate_left
      · ((intro w hSw; (try dsimp only at hSw); (try obtain ⟨hS0, hS1⟩ := hSw); go_simp) <;> (try with_reducible rfl))
      try simp only [Act.put]
      refine wpAnyH_take (i := 4) (oi := _) (v := ?_) rfl (by kernel_rfl) (by kernel_rfl) (by kernel_rfl) (fun _ _ _ h => h) (Or.inl ⟨by rfl, ?_⟩) (by assumption) ?_
      rotate_left
      · ((intro w hSw; (try dsimp only at hSw); (try obtain ⟨hS0, hS1⟩ := hSw); go_simp) <;> (try with_reducible rfl))
      try simp only [Act.put]
      refine wpAnyH_ready (rs := [5]) (by kernel_rfl) (by simp) ?_
      refine AllReadyH.cons (o := _) rfl (fun KK hKK => ?_) AllReadyH.nil
      go_simp
      (go_at_call 14; refine (HA.out _ KY.out.1.drew.t KY.out.2.1.drew).mono ?_; rintro e w2 ⟨rfl, hb2⟩)
      have KZ : Hid (Pk W w2 gB cB gT cT gs cs q ∧ w2.ownsRow (q + 1) 9 1 v h (pts (fun j => f (m + j)) i' h)) := ⟨KY.out.1.drew.below hb2, own_below (w := w1.drew) KY.out.2.2 hb2⟩
      have F2 : w2.cell? ⟨q, 0, none⟩ = some (.slice (some ⟨gB, 0, none⟩) 256 cB) ∧ w2.cell? ⟨q, 1, none⟩ = some (.slice (some ⟨gT, 0, none⟩) 8 cT) := ⟨KZ.out.1.c0, KZ.out.1.c1⟩
      refine hKK.out _ _ F2 (fun hHeld => ?_)
      clear hKK KK F0 KY hb2
      try simp only [Act.put]
      refine wpAnyH_ready (rs := [6]) (by kernel_rfl) (by simp) ?_
      refine AllReadyH.cons (o := _) rfl (fun KK hKK => ?_) AllReadyH.nil
      go_simp
      have KA := KZ.out.1.below (below_laid w2 (.cells #[.string ra] 9))
      refine hKK.out _ _ ⟨KA.c0, KA.c1⟩ (fun hHeld => ?_)
      clear hKK KK
      try simp only [Act.put]
      refine wpAnyH_ready (rs := [7]) (by kernel_rfl) (by simp) ?_
      refine AllReadyH.cons (o := _) rfl (fun KK hKK => ?_) AllReadyH.nil
      simp only [Array.getElem_pop, List.getElem_toArray, List.getElem_cons_succ, List.getElem_cons_zero]
      rw [if_pos (by rfl)]
      refine wp_append_own _ _ _ 22 rfl (q + 1) 9 j0 (.string (ByteArray.mk #[])) 1 16 Tryz.underlying22 HJ.out.1 HJ.out.2.1 HJ.out.2.2.1 HJ.out.2.2.2 rfl (by decide) v h (pts (fun j => f (m + j)) i' h) rfl (own_below KZ.out.2 (below_laid _ _)) ⟨w2.heap.size, 0, none⟩ 1 1 [.string ra] rfl rfl ?_ ?_ (by simp only [maxLen]; omega) (by omega) ?_ ?_
      · exact fun p u hu => by rcases p with _ | p <;> simp at hu; subst hu; simp [go_sem]
      · intro u hu; simp at hu; subst hu; rfl
      · have := cell_lt KZ.out.1.c0; simp; omega
      intro v' w' hown' hgr _
      have BB : Below W.heap.size W w' := by
        have h1 := KZ.out.1.d
        exact (h1.alloc h1.size _).grown hgr (by have := h1.size; simp; omega) fun r hr => by have := (KZ.out.2.lt r hr).1; omega
      have FW : w'.cell? ⟨q, 0, none⟩ = some (.slice (some ⟨gB, 0, none⟩) 256 cB) ∧ w'.cell? ⟨q, 1, none⟩ = some (.slice (some ⟨gT, 0, none⟩) 8 cT) := ⟨hgr.cell KA.c0 (fun e => by have := (KZ.out.2.lt q e.symm).1; omega), hgr.cell KA.c1 (fun e => by have := (KZ.out.2.lt q e.symm).1; omega)⟩
      refine hKK.out _ _ FW (fun hHeld => ?_)
      clear hKK KK
      try simp only [Act.put]
      refine wpAnyH_done (by kernel_rfl) ?_ _
      refine peel_last rfl (fun KK hKK => ?_)
      go_simp
      refine hKK _ _ ?_
      refine NoPanic.normal ?_
      clear hKK KK
      go_wp2
      go_ret
      exact ⟨_, rfl, by rw [HE.out]; exact own_mono hown' (by omega), BB⟩
end Go.Proofs.YtfepgoddoohpbaaGreat
