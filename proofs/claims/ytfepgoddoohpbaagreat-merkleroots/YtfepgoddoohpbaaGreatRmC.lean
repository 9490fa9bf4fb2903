/- The contract of the law's Texts and the walk of MerkleRoots over the seat's translation. -/
import Derived.Test.YtfepgoddoohpbaaGreatRmB
namespace Go.Proofs.YtfepgoddoohpbaaGreat
open Go.RowKit

set_option maxHeartbeats 1000000 in
set_option maxRecDepth 100000 in
theorem texts_same (a a' : Option Addr) (n cap cap' : Nat) (f : Nat → ByteArray) (hn : n ≤ 1000000) (W : World) (hX : Txs W a n f) (hY : Txs W a' n f) :
    Calls Tryz.prog 15 #[.slice a n cap, .slice a' n cap'] W fun e w' => e = .returned (.bool true) ∧ Below W.heap.size W w' := by
  have HX : Hid (Txs W a n f) := hX
  have HY : Hid (Txs W a' n f) := hY
  clear hX hY
  go_enter Tryz.func15, Tryz.ntmps15
  go_wp2
  go_loopw [5] (fun u wr => ∃ k : Nat, k ≤ n ∧ u = .int .i64 k ∧ Hid (Below W.heap.size W wr)) (fun u _ => n - (intOf u).toNat)
  case atStart => exact ⟨0, Nat.zero_le _, rfl, Below.refl _ _⟩
  case round =>
    obtain ⟨k, hk, rfl, HB⟩ := hrel
    by_cases hlt : k < n
    · have k1 : (k : Int) < (n : Int) := by omega
      have k0 : (0 : Int) ≤ (k : Int) := by omega
      obtain ⟨b1, o1, rfl, _, c1⟩ := HX.out.cells k hlt
      obtain ⟨b2, o2, rfl, _, c2⟩ := HY.out.cells k hlt
      have d1 := keepc HB.out c1
      have d2 := keepc HB.out c2
      clear c1 c2
      generalize f k = s at d1 d2
      go_wp2
      go_region
      go_wp2
      exact ⟨⟨k + 1, hlt, by simp, HB.out.drew⟩, by simp [intOf]; omega⟩
    · have k1 : ¬ (k : Int) < (n : Int) := by omega
      go_wp2
      go_ret
      exact ⟨rfl, HB.out⟩
theorem own_txs {w : World} {base : Nat} {T : TypeId} {v : Value} {n : Nat} {f : Nat → ByteArray} (h : w.ownsRow base T 1 v n ((List.range n).map fun k => .string (f k))) : ∃ a cap, v = .slice a n cap ∧ Txs w a n f := by
  rcases h.2 with ⟨rfl, rfl⟩ | ⟨g, cap, cur, rfl, _, hg, _, _, _, ht⟩
  · exact ⟨none, 0, rfl, ⟨fun i hi => absurd hi (Nat.not_lt_zero i)⟩⟩
  · refine ⟨_, _, rfl, ⟨fun i hi => ⟨g, 0, rfl, (Array.getElem?_eq_some_iff.1 hg).1, ?_⟩⟩⟩
    have h1 : (cur.toList.take (n * 1))[i]? = ((List.range n).map fun k => Value.string (f k))[i]? := by rw [ht]
    rw [List.getElem?_take_of_lt (by omega), List.getElem?_map, List.getElem?_range hi] at h1
    have h2 : cur[i]? = some (.string (f i)) := by simpa using h1
    rw [Nat.zero_add]
    simp [World.cell?, hg, h2]
/-- What lies in memory: the document's tables, the texts, and a path. -/
structure Rk (W w : World) (gB cB gT cT : Nat) (gs cs : Nat → Nat) (q b off n : Nat) (f : Nat → ByteArray) (b' h : Nat) (P : Nat → ByteArray) : Prop where
  p : Pk W w gB cB gT cT gs cs q
  x : Txs w (some ⟨b, off, none⟩) n f
  y : Txs w (some ⟨b', 0, none⟩) h P
theorem Rk.below {W w w' : World} {gB cB gT cT : Nat} {gs cs : Nat → Nat} {q b off n : Nat} {f : Nat → ByteArray} {b' h : Nat} {P : Nat → ByteArray} (k : Rk W w gB cB gT cT gs cs q b off n f b' h P) (r : Below w.heap.size w w') : Rk W w' gB cB gT cT gs cs q b off n f b' h P := ⟨k.p.below r, k.x.below r, k.y.below r⟩
theorem Rk.drew {W w : World} {gB cB gT cT : Nat} {gs cs : Nat → Nat} {q b off n : Nat} {f : Nat → ByteArray} {b' h : Nat} {P : Nat → ByteArray} (k : Rk W w gB cB gT cT gs cs q b off n f b' h P) : Rk W w.drew gB cB gT cT gs cs q b off n f b' h P := ⟨k.p.drew, k.x.drew, k.y.drew⟩
theorem nil_is : (ByteArray.mk #[]).toList.isEmpty = true := by decide +kernel
set_option maxHeartbeats 1600000 in
set_option maxRecDepth 100000 in
theorem mo_few (a : Option Addr) (ss : List ByteArray) (cap : Nat) (i : Int) (hm : ss.length ≤ maxLen) (W : World) (h : StrRow W a ss) (hf : fewB ss 16 100 = false) :
    Calls Tryz.prog 3 #[.slice a ss.length cap, .int .i64 i] W fun e w' => e = .returned (.bool true) ∧ Below W.heap.size W w' := by
  have HF : Hid (Calls Tryz.prog 6 #[.slice a ss.length cap, .int .i64 16, .int .i64 100] W fun e w' => e = .returned (.bool false) ∧ w' = W) := by
    have := few_any a ss cap 16 100 hm W h
    rw [hf] at this
    exact this
  clear h hf
  go_enter Tryz.func3, Tryz.ntmps3
  go_wp2_with (first | (go_at_call 6; refine HF.out.mono ?_; rintro e w9 ⟨rfl, hw⟩; obtain rfl := hw.symm; clear hw) | (go_at_call 7; refine (awake12.go _).mono ?_; rintro e w1 ⟨rfl, hb1⟩))
  go_ret
  exact ⟨rfl, hb1⟩
set_option maxHeartbeats 1600000 in
set_option maxRecDepth 100000 in
theorem mo_no (a : Option Addr) (n cap : Nat) (i : Int) (hn : filB n = false) (hno : ∀ h, h ≤ 12 → n ≠ 2 ^ h) (W : World)
    (HF : Hid (Calls Tryz.prog 6 #[.slice a n cap, .int .i64 16, .int .i64 100] W fun e w' => e = .returned (.bool true) ∧ w' = W)) :
    Calls Tryz.prog 3 #[.slice a n cap, .int .i64 i] W fun e w' => e = .returned (.bool true) ∧ Below W.heap.size W w' := by
  have HH : Hid (Same 12 #[.int .i64 (n : Int)] (.int .i64 (-1))) := height_no _ hno
  have H1 : Hid (∀ g, Same 9 #[.pointer (some ⟨g, 0, none⟩), .slice a n cap] (.tuple #[.slice none 0 0, .int .i64 6])) := fun g => rows_size g a n cap hn
  have H2 : Hid (∀ g, Same 10 #[.pointer (some ⟨g, 0, none⟩), .slice a n cap] (.tuple #[.string (ByteArray.mk #[]), .int .i64 6])) := fun g => root_size g a n cap hn
  have H3 : Hid (Same 11 #[.slice none 0 0, .int .i64 i] (.tuple #[.slice none 0 0, .int .i64 4])) := path_empty none 0 i
  have hne := nil_is
  clear hn hno
  go_enter Tryz.func3, Tryz.ntmps3
  go_wp2_with (first | (go_at_call 6; refine HF.out.mono ?_; rintro e w9 ⟨rfl, hw⟩; obtain rfl := hw.symm; clear hw) | (go_at_call 12; refine (HH.out _).mono ?_; rintro e w9 ⟨rfl, hw⟩; obtain rfl := hw.symm; clear hw) | (go_at_call 7; refine (awake12.go _).mono ?_; rintro e w1 ⟨rfl, hb1⟩) | (go_at_call 8; refine (make_any _).mono ?_; rintro e w2 ⟨g, rfl, hg, ht, hb2⟩; have D2 := hb1.trans (hb2.mono hb1.size); clear hb1 hb2 ht) | (go_at_call 9; refine (H1.out _ _).mono ?_; rintro e w9 ⟨rfl, hw⟩; obtain rfl := hw.symm; clear hw) | (go_at_call 10; refine (H2.out _ _).mono ?_; rintro e w9 ⟨rfl, hw⟩; obtain rfl := hw.symm; clear hw) | (go_at_call 11; refine (H3.out _).mono ?_; rintro e w9 ⟨rfl, hw⟩; obtain rfl := hw.symm; clear hw))
  go_ret
  exact ⟨rfl, D2⟩
set_option maxHeartbeats 6400000 in
set_option maxRecDepth 100000 in
theorem mo_out (b off n cap h : Nat) (i : Int) (f : Nat → ByteArray) (hh : h ≤ 12) (hn : n = 2 ^ h) (hc : n ≤ cap) (hs : ∀ i, i < n → (f i).size ≤ 100) (hi : i < 0 ∨ (n : Int) ≤ i) (W : World) (hX : Txs W (some ⟨b, off, none⟩) n f)
    (HF : Hid (Calls Tryz.prog 6 #[.slice (some ⟨b, off, none⟩) n cap, .int .i64 16, .int .i64 100] W fun e w' => e = .returned (.bool true) ∧ w' = W)) :
    Calls Tryz.prog 3 #[.slice (some ⟨b, off, none⟩) n cap, .int .i64 i] W fun e w' => e = .returned (.bool true) ∧ Below W.heap.size W w' := by
  have HH : Hid (Same 12 #[.int .i64 (n : Int)] (.int .i64 (h : Int))) := height_ok h n hh hn
  have hs' : ∀ i, i < n → (f i).size ≤ 1048575 := fun i hi => by have := hs i hi; omega
  have hs2 : ∀ i, i < n → (f i).size ≤ 1000 := fun i hi => by have := hs i hi; omega
  have HR : Hid (∀ g w, Tab w g → Txs w (some ⟨b, off, none⟩) n f → Calls Tryz.prog 9 #[.pointer (some ⟨g, 0, none⟩), .slice (some ⟨b, off, none⟩) n cap] w fun e w' => ∃ G cap' bl, e = .returned (.tuple #[.slice (some ⟨G, 0, none⟩) (h + 1) cap', .int .i64 0]) ∧ h + 1 ≤ cap' ∧ Tree w' G h bl f ∧ Below w.heap.size w w') := fun g w t x => rows_ok g _ n cap h f hh hn hs' w t x
  have HO : Hid (∀ g w, Tab w g → Txs w (some ⟨b, off, none⟩) n f → Calls Tryz.prog 10 #[.pointer (some ⟨g, 0, none⟩), .slice (some ⟨b, off, none⟩) n cap] w fun e w' => e = .returned (.tuple #[.string (lv f h 0), .int .i64 0]) ∧ Below w.heap.size w w') := fun g w t x => root_ok g _ n cap h f hh hn hs' w t x
  have HQ : Hid (∀ G cap' bl w, Tree w G h bl f → Calls Tryz.prog 11 #[.slice (some ⟨G, 0, none⟩) (h + 1) cap', .int .i64 i] w fun e w' => e = .returned (.tuple #[.slice none 0 0, .int .i64 4]) ∧ w' = w) := fun G cap' bl w t => path_none (some ⟨G, 0, none⟩) h cap' i _ _ _ _ (by rw [hn] at hi; exact hi) w t.gr
  have HRR : Hid (∀ gB cB gT cT gs cs w, RTab w gB gT gs cs → Txs w (some ⟨b, off, none⟩) n f → Calls Tryz.prog 14 #[.agg #[.slice (some ⟨gB, 0, none⟩) 256 cB, .slice (some ⟨gT, 0, none⟩) 8 cT], .slice (some ⟨b, off, none⟩) n cap] w fun e w' => e = .returned (.string (lv f h 0)) ∧ Below w.heap.size w w') := fun gB cB gT cT gs cs w r x => rroot_ok gB cB gT cT gs cs h b off n cap f w hh hn hc hs2 r x
  have HX : Hid (Txs W (some ⟨b, off, none⟩) n f) := hX
  have h0 : ¬ (h : Int) < 0 := by omega
  have HI : Hid (i < 0 ∨ (¬ i < 0 ∧ (n : Int) ≤ i)) := (by omega : i < 0 ∨ (¬ i < 0 ∧ (n : Int) ≤ i))
  clear hX hs hs' hs2 hn hi hc
  generalize lv f h 0 = r at *
  go_enter Tryz.func3, Tryz.ntmps3
  go_wp2_with (first
    | (go_at_call 6; refine HF.out.mono ?_; rintro e w9 ⟨rfl, hw⟩; obtain rfl := hw.symm; clear hw)
    | (go_at_call 12; refine (HH.out _).mono ?_; rintro e w9 ⟨rfl, hw⟩; obtain rfl := hw.symm; clear hw)
    | (go_at_call 7; refine (awake12.go _).mono ?_; rintro e w1 ⟨rfl, hb1⟩)
    | (go_at_call 8; refine (make_any _).mono ?_; rintro e w2 ⟨g, rfl, hg, ht, hb2⟩; have HT : Hid (Hold W w2 g) := ⟨ht, hb1.trans (hb2.mono hb1.size)⟩; clear ht hb2 hb1)
    | (go_at_call 9; refine (HR.out _ _ HT.out.t (HX.out.below HT.out.d)).mono ?_; rintro e w3 ⟨G, cap', bl, rfl, hcp, hTr, hb3⟩; have HT3 : Hid (Hold W w3 g) := HT.out.below hb3; have HTr : Hid (Tree w3 G h bl f) := hTr; clear hTr hb3 HT)
    | (go_at_call 10; refine (HO.out _ _ HT3.out.t (HX.out.below HT3.out.d)).mono ?_; rintro e w4 ⟨rfl, hb4⟩; have HT4 : Hid (Hold W w4 g) := HT3.out.below hb4; have HTr4 : Hid (Tree w4 G h bl f) := HTr.out.below hb4; clear hb4 HT3 HTr)
    | (go_at_call 11; refine (HQ.out _ _ _ _ HTr4.out).mono ?_; rintro e w9 ⟨rfl, hw⟩; obtain rfl := hw.symm; clear hw))
  refine (rmake_any _).mono ?_
  rintro e w6 ⟨gB, cB, gT, cT, gs, cs, rfl, hr6, hb6⟩
  have HA : Hid (Pk W (w6.alloc (Obj.cells #[.slice (some ⟨gB, 0, none⟩) 256 cB, .slice (some ⟨gT, 0, none⟩) 8 cT] 39)) gB cB gT cT gs cs w6.heap.size ∧ Txs (w6.alloc (Obj.cells #[.slice (some ⟨gB, 0, none⟩) 256 cB, .slice (some ⟨gT, 0, none⟩) 8 cT] 39)) (some ⟨b, off, none⟩) n f) := by
    have d6 := (HT4.out.below hb6).d
    exact ⟨⟨hr6.below (below_laid _ _), by simp [go_sem], by simp [go_sem], d6.alloc d6.size _⟩, HX.out.below (d6.alloc d6.size _)⟩
  clear hr6 hb6 HT4
  have HRR2 : Hid (∀ w, RTab w gB gT gs cs → Txs w (some ⟨b, off, none⟩) n f → Calls Tryz.prog 14 #[.agg #[.slice (some ⟨gB, 0, none⟩) 256 cB, .slice (some ⟨gT, 0, none⟩) 8 cT], .slice (some ⟨b, off, none⟩) n cap] w fun e w' => e = .returned (.string r) ∧ Below w.heap.size w w') := fun w t x => HRR.out gB cB gT cT gs cs w t x
  rcases HI.out with h1 | ⟨h1, h2⟩
  · go_wp2_with (first
      | (go_at_call 14; refine (HRR2.out _ HA.out.1.t HA.out.2).mono ?_; rintro e w7 ⟨rfl, hb7⟩; have HB : Hid (Below W.heap.size W w7) := HA.out.1.d.trans (hb7.mono HA.out.1.d.size); clear hb7)
      | (go_at_call 12; refine (HH.out _).mono ?_; rintro e w9 ⟨rfl, hw⟩; obtain rfl := hw.symm; clear hw))
    go_ret
    exact ⟨rfl, HB.out⟩
  · go_wp2_with (first
      | (go_at_call 14; refine (HRR2.out _ HA.out.1.t HA.out.2).mono ?_; rintro e w7 ⟨rfl, hb7⟩; have HB : Hid (Below W.heap.size W w7) := HA.out.1.d.trans (hb7.mono HA.out.1.d.size); clear hb7)
      | (go_at_call 12; refine (HH.out _).mono ?_; rintro e w9 ⟨rfl, hw⟩; obtain rfl := hw.symm; clear hw))
    go_ret
    exact ⟨rfl, HB.out⟩
set_option maxHeartbeats 6400000 in
set_option maxRecDepth 100000 in
theorem mo_in (b off n cap h i : Nat) (f : Nat → ByteArray) (hh : h ≤ 12) (hn : n = 2 ^ h) (hc : n ≤ cap) (hs : ∀ i, i < n → (f i).size ≤ 100) (hi : i < n) (W : World) (hX : Txs W (some ⟨b, off, none⟩) n f)
    (HF : Hid (Calls Tryz.prog 6 #[.slice (some ⟨b, off, none⟩) n cap, .int .i64 16, .int .i64 100] W fun e w' => e = .returned (.bool true) ∧ w' = W)) :
    Calls Tryz.prog 3 #[.slice (some ⟨b, off, none⟩) n cap, .int .i64 (i : Int)] W fun e w' => e = .returned (.bool true) ∧ Below W.heap.size W w' := by
  have HH : Hid (Same 12 #[.int .i64 (n : Int)] (.int .i64 (h : Int))) := height_ok h n hh hn
  have hs' : ∀ i, i < n → (f i).size ≤ 1048575 := fun i hi => by have := hs i hi; omega
  have hs2 : ∀ i, i < n → (f i).size ≤ 1000 := fun i hi => by have := hs i hi; omega
  have HR : Hid (∀ g w, Tab w g → Txs w (some ⟨b, off, none⟩) n f → Calls Tryz.prog 9 #[.pointer (some ⟨g, 0, none⟩), .slice (some ⟨b, off, none⟩) n cap] w fun e w' => ∃ G cap' bl, e = .returned (.tuple #[.slice (some ⟨G, 0, none⟩) (h + 1) cap', .int .i64 0]) ∧ h + 1 ≤ cap' ∧ Tree w' G h bl f ∧ Below w.heap.size w w') := fun g w t x => rows_ok g _ n cap h f hh hn hs' w t x
  have HO : Hid (∀ g w, Tab w g → Txs w (some ⟨b, off, none⟩) n f → Calls Tryz.prog 10 #[.pointer (some ⟨g, 0, none⟩), .slice (some ⟨b, off, none⟩) n cap] w fun e w' => e = .returned (.tuple #[.string (lv f h 0), .int .i64 0]) ∧ Below w.heap.size w w') := fun g w t x => root_ok g _ n cap h f hh hn hs' w t x
  have HQ : Hid (∀ G cap' bl w, h + 1 ≤ cap' → Tree w G h bl f → Calls Tryz.prog 11 #[.slice (some ⟨G, 0, none⟩) (h + 1) cap', .int .i64 (i : Int)] w fun e w' => ∃ b', e = .returned (.tuple #[.slice (some ⟨b', 0, none⟩) h h, .int .i64 0]) ∧ w'.rowIs b' 9 h (fun k => .string (lv f k (sib i k))) ∧ Below w.heap.size w w') := fun G cap' bl w hc t => by
    refine (path_ok (some ⟨G, 0, none⟩) h cap' i _ _ _ _ (by rw [hn] at hi; exact hi) hc (by omega) (fun k _ => Nat.le_trans (szr_le hh k) (by decide)) ?_ (szr_top h) w t.gr).mono ?_
    · unfold hvB
      rw [List.all_eq_true]
      intro k hk
      have : k < h := by simpa using hk
      simp [szr_step this]
    · rintro e w' ⟨b', rfl, _, hr, hb⟩
      exact ⟨b', rfl, hr, hb⟩
  have HRR : Hid (∀ gB cB gT cT gs cs w, RTab w gB gT gs cs → Txs w (some ⟨b, off, none⟩) n f → Calls Tryz.prog 14 #[.agg #[.slice (some ⟨gB, 0, none⟩) 256 cB, .slice (some ⟨gT, 0, none⟩) 8 cT], .slice (some ⟨b, off, none⟩) n cap] w fun e w' => e = .returned (.string (lv f h 0)) ∧ Below w.heap.size w w') := fun gB cB gT cT gs cs w r x => rroot_ok gB cB gT cT gs cs h b off n cap f w hh hn hc hs2 r x
  have HPP : Hid (∀ gB cB gT cT gs cs w, RTab w gB gT gs cs → Txs w (some ⟨b, off, none⟩) n f → Calls Tryz.prog 16 #[.agg #[.slice (some ⟨gB, 0, none⟩) 256 cB, .slice (some ⟨gT, 0, none⟩) 8 cT], .slice (some ⟨b, off, none⟩) n cap, .int .i64 (i : Int)] w fun e w' => ∃ a5 c5, e = .returned (.slice a5 h c5) ∧ Txs w' a5 h (fun k => lv f k (sib i k)) ∧ Below w.heap.size w w') := fun gB cB gT cT gs cs w r x => by
    refine (rpath_ok gB cB gT cT gs cs h b off n cap i f w hh hn hc hi hs2 r x).mono ?_
    rintro e w' ⟨v, rfl, ho, hb⟩
    obtain ⟨a5, c5, rfl, hx⟩ := own_txs ho
    exact ⟨a5, c5, rfl, hx, hb⟩
  have HTx : Hid (∀ a5 c5 b' w, Txs w a5 h (fun k => lv f k (sib i k)) → Txs w (some ⟨b', 0, none⟩) h (fun k => lv f k (sib i k)) → Calls Tryz.prog 15 #[.slice (some ⟨b', 0, none⟩) h h, .slice a5 h c5] w fun e w' => e = .returned (.bool true) ∧ Below w.heap.size w w') := fun a5 c5 b' w x y => texts_same _ _ h h c5 _ (by omega) w y x
  have HLL : Hid (∀ gB cB gT cT gs cs w, RTab w gB gT gs cs → Calls Tryz.prog 17 #[.agg #[.slice (some ⟨gB, 0, none⟩) 256 cB, .slice (some ⟨gT, 0, none⟩) 8 cT], .string (f i)] w fun e w' => e = .returned (.string (lfv (f i))) ∧ Below w.heap.size w w') := fun gB cB gT cT gs cs w r => rleaf_ok gB cB gT cT gs cs (f i) (by have := hs i hi; omega) w r
  obtain ⟨bq, oq, e0, hbq, cq⟩ := hX.cells i hi
  obtain ⟨rfl, rfl⟩ : b = bq ∧ off = oq := by injection e0 with e; injection e with h1 h2; exact ⟨h1, h2⟩
  have HX : Hid (Txs W (some ⟨b, off, none⟩) n f) := hX
  have n1 : (i : Int) < (n : Int) := by omega
  have n2 : ¬ (n : Int) ≤ (i : Int) := by omega
  have n3 : ¬ (i : Int) < 0 := by omega
  have n4 : (0 : Int) ≤ (i : Int) := by omega
  have h0 : ¬ (h : Int) < 0 := by omega
  have HT0 : Hid (∀ w G bl, Tree w G h bl f → w.cell? ⟨G, 0, none⟩ = some (.slice (some ⟨bl 0, 0, none⟩) n n) ∧ w.cell? ⟨bl 0, i, none⟩ = some (.string (lfv (f i)))) := fun w G bl t => by
    have t0 := t.top 0 (Nat.zero_le _)
    have r0 := (t.row 0 (Nat.zero_le _)).cell (i := i) (by rw [hn] at hi; exact hi)
    have e : szr h 0 = n := hn.symm
    rw [e] at t0
    exact ⟨t0, r0⟩
  clear hX hs hs' hs2 hn hi hc e0
  generalize lv f h 0 = r at *
  generalize lfv (f i) = l0 at *
  generalize f i = s0 at *
  generalize hPd : (fun k => lv f k (sib i k)) = P at *
  have HQ2 : Hid (∀ G cap' bl w, h + 1 ≤ cap' → Tree w G h bl f → Calls Tryz.prog 11 #[.slice (some ⟨G, 0, none⟩) (h + 1) cap', .int .i64 (i : Int)] w fun e w' => ∃ b', e = .returned (.tuple #[.slice (some ⟨b', 0, none⟩) h h, .int .i64 0]) ∧ Txs w' (some ⟨b', 0, none⟩) h P ∧ Below w.heap.size w w') := fun G cap' bl w hc t => (HQ.out G cap' bl w hc t).mono fun e w' ⟨b', h1, h2, h3⟩ => ⟨b', h1, by rw [← hPd]; exact Txs.of_row h2, h3⟩
  clear HQ hPd
  go_enter Tryz.func3, Tryz.ntmps3
  go_wp2_with (first
    | (go_at_call 6; refine HF.out.mono ?_; rintro e w9 ⟨rfl, hw⟩; obtain rfl := hw.symm; clear hw)
    | (go_at_call 12; refine (HH.out _).mono ?_; rintro e w9 ⟨rfl, hw⟩; obtain rfl := hw.symm; clear hw)
    | (go_at_call 7; refine (awake12.go _).mono ?_; rintro e w1 ⟨rfl, hb1⟩)
    | (go_at_call 8; refine (make_any _).mono ?_; rintro e w2 ⟨g, rfl, hg, ht, hb2⟩; have HT : Hid (Hold W w2 g) := ⟨ht, hb1.trans (hb2.mono hb1.size)⟩; clear ht hb2 hb1)
    | (go_at_call 9; refine (HR.out _ _ HT.out.t (HX.out.below HT.out.d)).mono ?_; rintro e w3 ⟨G, cap', bl, rfl, hcp, hTr, hb3⟩; have HT3 : Hid (Hold W w3 g) := HT.out.below hb3; have HTr : Hid (Tree w3 G h bl f) := hTr; clear hTr hb3 HT)
    | (go_at_call 10; refine (HO.out _ _ HT3.out.t (HX.out.below HT3.out.d)).mono ?_; rintro e w4 ⟨rfl, hb4⟩; have HT4 : Hid (Hold W w4 g) := HT3.out.below hb4; have HTr4 : Hid (Tree w4 G h bl f) := HTr.out.below hb4; clear hb4 HT3 HTr)
    | (go_at_call 11; refine (HQ2.out _ _ _ _ hcp HTr4.out).mono ?_; rintro e w5 ⟨b', rfl, hr5, hb5⟩; have HT5 : Hid (Hold W w5 g ∧ Tree w5 G h bl f ∧ Txs w5 (some ⟨b', 0, none⟩) h P) := ⟨HT4.out.below hb5, HTr4.out.below hb5, hr5⟩; clear hb5 HT4 HTr4 hr5))
  refine (rmake_any _).mono ?_
  rintro e w6 ⟨gB, cB, gT, cT, gs, cs, rfl, hr6, hb6⟩
  have HA : Hid (Rk W (w6.alloc (Obj.cells #[.slice (some ⟨gB, 0, none⟩) 256 cB, .slice (some ⟨gT, 0, none⟩) 8 cT] 39)) gB cB gT cT gs cs w6.heap.size b off n f b' h P ∧ Tree (w6.alloc (Obj.cells #[.slice (some ⟨gB, 0, none⟩) 256 cB, .slice (some ⟨gT, 0, none⟩) 8 cT] 39)) G h bl f) := by
    have d6 := (HT5.out.1.below hb6).d
    exact ⟨⟨⟨hr6.below (below_laid _ _), by simp [go_sem], by simp [go_sem], d6.alloc d6.size _⟩, HX.out.below (d6.alloc d6.size _), (HT5.out.2.2.below hb6).below (below_laid _ _)⟩, (HT5.out.2.1.below hb6).below (below_laid _ _)⟩
  clear hr6 hb6 HT5
  have HRR2 : Hid (∀ w, RTab w gB gT gs cs → Txs w (some ⟨b, off, none⟩) n f → Calls Tryz.prog 14 #[.agg #[.slice (some ⟨gB, 0, none⟩) 256 cB, .slice (some ⟨gT, 0, none⟩) 8 cT], .slice (some ⟨b, off, none⟩) n cap] w fun e w' => e = .returned (.string r) ∧ Below w.heap.size w w') := fun w t x => HRR.out gB cB gT cT gs cs w t x
  have HP : Hid (∀ w, RTab w gB gT gs cs → Txs w (some ⟨b, off, none⟩) n f → Calls Tryz.prog 16 #[.agg #[.slice (some ⟨gB, 0, none⟩) 256 cB, .slice (some ⟨gT, 0, none⟩) 8 cT], .slice (some ⟨b, off, none⟩) n cap, .int .i64 (i : Int)] w fun e w' => ∃ a5 c5, e = .returned (.slice a5 h c5) ∧ Txs w' a5 h P ∧ Below w.heap.size w w') := fun w t x => HPP.out gB cB gT cT gs cs w t x
  have HLf : Hid (∀ w, RTab w gB gT gs cs → Calls Tryz.prog 17 #[.agg #[.slice (some ⟨gB, 0, none⟩) 256 cB, .slice (some ⟨gT, 0, none⟩) 8 cT], .string s0] w fun e w' => e = .returned (.string l0) ∧ Below w.heap.size w w') := fun w t => HLL.out gB cB gT cT gs cs w t
  go_wp2_with (first
    | (go_at_call 14; refine (HRR2.out _ HA.out.1.p.t HA.out.1.x).mono ?_; rintro e w7 ⟨rfl, hb7⟩; have HB : Hid (Rk W w7 gB cB gT cT gs cs w6.heap.size b off n f b' h P ∧ Tree w7 G h bl f) := ⟨HA.out.1.below hb7, HA.out.2.below hb7⟩; clear hb7)
    | (go_at_call 12; refine (HH.out _).mono ?_; rintro e w9 ⟨rfl, hw⟩; obtain rfl := hw.symm; clear hw))
  have KX : Hid (Rk W w7 gB cB gT cT gs cs w6.heap.size b off n f b' h P) := HB.out.1
  have hcl := HT0.out w7 G bl HB.out.2
  generalize bl 0 = b0 at hcl
  have hdl := keepc HB.out.1.p.d cq
  generalize w6.heap.size = q at *
  have F0 : w7.cell? ⟨q, 0, none⟩ = some (.slice (some ⟨gB, 0, none⟩) 256 cB) ∧ w7.cell? ⟨q, 1, none⟩ = some (.slice (some ⟨gT, 0, none⟩) 8 cT) ∧ w7.cell? ⟨G, 0, none⟩ = some (.slice (some ⟨b0, 0, none⟩) n n) ∧ w7.cell? ⟨b0, i, none⟩ = some (.string l0) ∧ w7.cell? ⟨b, off + i, none⟩ = some (.string s0) := ⟨KX.out.p.c0, KX.out.p.c1, hcl.1, hcl.2, hdl⟩
  clear HA HB hcl hdl
  go_region_held3 (fun w => w.cell? ⟨q, 0, none⟩ = some (.slice (some ⟨gB, 0, none⟩) 256 cB) ∧ w.cell? ⟨q, 1, none⟩ = some (.slice (some ⟨gT, 0, none⟩) 8 cT) ∧ w.cell? ⟨G, 0, none⟩ = some (.slice (some ⟨b0, 0, none⟩) n n) ∧ w.cell? ⟨b0, i, none⟩ = some (.string l0) ∧ w.cell? ⟨b, off + i, none⟩ = some (.string s0)) (go_keep) (first | (go_at_call 16; refine (HP.out _ (by first | exact KX.out.p.t | exact KX.out.drew.p.t) (by first | exact KX.out.x | exact KX.out.drew.x)).mono ?_; rintro e w' ⟨a5, c5, rfl, hx5, hb'⟩; have HX5 : Hid (Txs w' a5 h P) := hx5; clear hx5; have KX' : Hid (Rk W w' gB cB gT cT gs cs q b off n f b' h P) := (by first | exact KX.out.below hb' | exact KX.out.drew.below hb'); have F' : w'.cell? ⟨q, 0, none⟩ = some (.slice (some ⟨gB, 0, none⟩) 256 cB) ∧ w'.cell? ⟨q, 1, none⟩ = some (.slice (some ⟨gT, 0, none⟩) 8 cT) ∧ w'.cell? ⟨G, 0, none⟩ = some (.slice (some ⟨b0, 0, none⟩) n n) ∧ w'.cell? ⟨b0, i, none⟩ = some (.string l0) ∧ w'.cell? ⟨b, off + i, none⟩ = some (.string s0) := ⟨keepc hb' F0.1, keepc hb' F0.2.1, keepc hb' F0.2.2.1, keepc hb' F0.2.2.2.1, keepc hb' F0.2.2.2.2⟩; clear F0 KX hb'; have KX := KX'; have F0 := F'; clear KX' F') | (go_at_call 15; refine (HTx.out _ _ _ _ HX5.out (by first | exact KX.out.y | exact KX.out.drew.y)).mono ?_; rintro e w' ⟨rfl, hb'⟩; clear HX5; have KX' : Hid (Rk W w' gB cB gT cT gs cs q b off n f b' h P) := (by first | exact KX.out.below hb' | exact KX.out.drew.below hb'); have F' : w'.cell? ⟨q, 0, none⟩ = some (.slice (some ⟨gB, 0, none⟩) 256 cB) ∧ w'.cell? ⟨q, 1, none⟩ = some (.slice (some ⟨gT, 0, none⟩) 8 cT) ∧ w'.cell? ⟨G, 0, none⟩ = some (.slice (some ⟨b0, 0, none⟩) n n) ∧ w'.cell? ⟨b0, i, none⟩ = some (.string l0) ∧ w'.cell? ⟨b, off + i, none⟩ = some (.string s0) := ⟨keepc hb' F0.1, keepc hb' F0.2.1, keepc hb' F0.2.2.1, keepc hb' F0.2.2.2.1, keepc hb' F0.2.2.2.2⟩; clear F0 KX hb'; have KX := KX'; have F0 := F'; clear KX' F') | (go_at_call 17; refine (HLf.out _ (by first | exact KX.out.p.t | exact KX.out.drew.p.t)).mono ?_; rintro e w' ⟨rfl, hb'⟩; have KX' : Hid (Rk W w' gB cB gT cT gs cs q b off n f b' h P) := (by first | exact KX.out.below hb' | exact KX.out.drew.below hb'); have F' : w'.cell? ⟨q, 0, none⟩ = some (.slice (some ⟨gB, 0, none⟩) 256 cB) ∧ w'.cell? ⟨q, 1, none⟩ = some (.slice (some ⟨gT, 0, none⟩) 8 cT) ∧ w'.cell? ⟨G, 0, none⟩ = some (.slice (some ⟨b0, 0, none⟩) n n) ∧ w'.cell? ⟨b0, i, none⟩ = some (.string l0) ∧ w'.cell? ⟨b, off + i, none⟩ = some (.string s0) := ⟨keepc hb' F0.1, keepc hb' F0.2.1, keepc hb' F0.2.2.1, keepc hb' F0.2.2.2.1, keepc hb' F0.2.2.2.2⟩; clear F0 KX hb'; have KX := KX'; have F0 := F'; clear KX' F'))
  go_wp2
  go_ret
  exact ⟨rfl, KX.out.p.d⟩
theorem mo_any (a : Option Addr) (ss : List ByteArray) (cap : Nat) (i : Int) (hm : ss.length ≤ maxLen) (hc : ss.length ≤ cap) (W : World) (h : StrRow W a ss) :
    Calls Tryz.prog 3 #[.slice a ss.length cap, .int .i64 i] W fun e w' => e = .returned (.bool true) ∧ Below W.heap.size W w' := by
  cases hf : fewB ss 16 100
  · exact mo_few a ss cap i hm W h hf
  · have HF : Hid (Calls Tryz.prog 6 #[.slice a ss.length cap, .int .i64 16, .int .i64 100] W fun e w' => e = .returned (.bool true) ∧ w' = W) := by
      have := few_any a ss cap 16 100 hm W h
      rw [hf] at this
      exact this
    rcases fil_cases ss.length with ⟨_, k, hk, hn⟩ | ⟨h0, hn⟩
    · obtain ⟨h16, hs⟩ := fewB_of hf
      have hp : 0 < ss.length := by rw [hn]; exact Nat.two_pow_pos k
      have hs' : ∀ i, i < ss.length → (ss.getD i ByteArray.empty).size ≤ 100 := fun i hi => by
        have := hs (ss.getD i ByteArray.empty) (by simp [List.getD_eq_getElem?_getD, hi])
        omega
      have hx := h.txs
      obtain ⟨b, off, rfl, _, _⟩ := hx.cells 0 hp
      by_cases hi : i < 0 ∨ (ss.length : Int) ≤ i
      · exact mo_out b off ss.length cap k i _ hk hn hc hs' hi W hx HF
      · obtain ⟨j, rfl⟩ : ∃ j : Nat, i = (j : Int) := ⟨i.toNat, by omega⟩
        exact mo_in b off ss.length cap k j _ hk hn hc hs' (by omega) W hx HF
    · exact mo_no a ss.length cap i h0 hn W HF
end Go.Proofs.YtfepgoddoohpbaaGreat
