/- The contract of steeplelaw09.Refs over the seat's translation: rows of elements as the document has them. -/
import Derived.Test.YtccaobfhldfamaaWvO
import Derived.Test.YtccaobfhldfamaaPWvS
import Derived.Test.YtccaobfhldfamaaPSnA
import Derived.Test.YtccaobfhldfamaaRgA
namespace Go.Proofs.Ytccaobfhldfamaa
open Go.RowKit
open Cb
open Tw (pm)

/-- A row of rows. -/
def tbW (ts : List (List (Nat × Nat))) (k : Nat) : List (Nat × Nat) := ts.getD k []
theorem tb_memW {ts : List (List (Nat × Nat))} {k : Nat} (h : k < ts.length) : tbW ts k ∈ ts := by
  unfold tbW; rw [show ts.getD k [] = ts[k] by simp [h]]; exact List.getElem_mem h
structure TRowW (w : World) (a : Option Addr) (ts : List (List (Nat × Nat))) : Prop where
  cells : ∀ i, i < ts.length → ∃ (b off : Nat) (ra : Option Addr) (rc : Nat), a = some ⟨b, off, none⟩ ∧ b < w.heap.size ∧ w.cell? ⟨b, off + i, none⟩ = some (.slice ra (tbW ts i).length rc) ∧ ERow w ra (tbW ts i)
theorem TRowW.below {w w' : World} {a : Option Addr} {ts : List (List (Nat × Nat))} (h : TRowW w a ts) (hb : Below w.heap.size w w') : TRowW w' a ts := ⟨fun i hi => by
  obtain ⟨b, off, ra, rc, h1, h2, h3, h5⟩ := h.cells i hi
  exact ⟨b, off, ra, rc, h1, Nat.lt_of_lt_of_le h2 hb.size, keepc hb h3, h5.below hb⟩⟩
/-- Rows with their elements, as slices and as lists. -/
theorem held_trow {w : World} {a : Option Addr} {ls : List (Option Addr × Nat × Nat)} {rs : List (List (Nat × Nat))} (hn : rs.length = ls.length) (hg : Grid w a ls) (hh : Held w ls rs) : TRowW w a rs := ⟨fun i hi => by
  obtain ⟨b, off, h1, h2, h3⟩ := hg.cells i (by omega)
  obtain ⟨q1, _, q3⟩ := hh i (by omega)
  exact ⟨b, off, _, _, h1, h2, by rw [h3, q1]; rfl, q3⟩⟩
theorem choose_list {α : Type} (d : α) (P : Nat → α → Prop) : ∀ n, (∀ i, i < n → ∃ x, P i x) → ∃ l : List α, l.length = n ∧ ∀ i, i < n → P i (l.getD i d)
  | 0, _ => ⟨[], rfl, fun i hi => absurd hi (Nat.not_lt_zero _)⟩
  | n + 1, h => by
    obtain ⟨l, hl, hP⟩ := choose_list d P n fun i hi => h i (by omega)
    obtain ⟨x, hx⟩ := h n (by omega)
    refine ⟨l ++ [x], by simp [hl], fun i hi => ?_⟩
    by_cases e : i < n
    · rw [show (l ++ [x]).getD i d = l.getD i d by simp [List.getD, List.getElem?_append_left (show i < l.length by omega)]]
      exact hP i e
    · obtain rfl : i = n := by omega
      rw [show (l ++ [x]).getD i d = x by subst hl; simp [List.getD]]
      exact hx
theorem trow_held {w : World} {a : Option Addr} {rs : List (List (Nat × Nat))} (h : TRowW w a rs) (hl : ∀ t ∈ rs, ltE t) : ∃ ls : List (Option Addr × Nat × Nat), ls.length = rs.length ∧ Grid w a ls ∧ Held w ls rs := by
  obtain ⟨ls, h1, h2⟩ := choose_list (none, 0, 0) (fun i (r : Option Addr × Nat × Nat) => (∃ b off : Nat, a = some ⟨b, off, none⟩ ∧ b < w.heap.size ∧ w.cell? ⟨b, off + i, none⟩ = some (.slice r.1 r.2.1 r.2.2)) ∧ r.2.1 = (rs.getD i []).length ∧ ERow w r.1 (rs.getD i [])) rs.length fun i hi => by
    obtain ⟨b, off, ra, rc, e1, e2, e3, e4⟩ := h.cells i hi
    exact ⟨(ra, (rs.getD i []).length, rc), ⟨b, off, e1, e2, e3⟩, rfl, e4⟩
  refine ⟨ls, h1, ⟨fun i hi => (h2 i (by omega)).1⟩, fun i hi => ?_⟩
  obtain ⟨_, q1, q2⟩ := h2 i (by omega)
  exact ⟨q1, hl _ (tb_memW (k := i) (by omega)), q2⟩
/-- Even hangs on lengths alone. -/
theorem even_same {ls ks : List (Option Addr × Nat × Nat)} (hn : ks.length = ls.length) (h : ∀ i, i < ls.length → (ks.getD i (none, 0, 0)).2.1 = (ls.getD i (none, 0, 0)).2.1) : evenB ks = evenB ls := by
  have key : ∀ l : List (Option Addr × Nat × Nat), evenB l = true ↔ ∀ i, i < l.length → (l.getD i (none, 0, 0)).2.1 = (l.getD 0 (none, 0, 0)).2.1 := fun l => by
    unfold evenB
    rw [List.all_eq_true]
    refine ⟨fun h i hi => by simpa using h _ (mem_sg l i hi), fun h r hr => ?_⟩
    obtain ⟨i, hi, rfl⟩ := List.getElem_of_mem hr
    have := h i hi
    rw [show l.getD i (none, 0, 0) = l[i] by simp [hi]] at this
    simpa using this
  rw [Bool.eq_iff_iff, key ks, key ls]
  refine ⟨fun g i hi => ?_, fun g i hi => ?_⟩
  · have := g i (by omega)
    rw [h i hi, h 0 (by omega)] at this
    exact this
  · rw [h i (by omega), h 0 (by omega)]
    exact g i (by omega)
set_option maxHeartbeats 1000000 in
set_option maxRecDepth 100000 in
/-- Elements as the document has them. -/
theorem ref_ownW (a : Option Addr) (cap : Nat) (es : List (Nat × Nat)) (hn : es.length ≤ 1000) (W : World) (hr : ERow W a es) :
    Calls Try.prog 11 #[.slice a es.length cap] W fun e w' => ∃ a' cap', e = .returned (.slice a' es.length cap') ∧ w'.ownsRow W.heap.size 50 2 (.slice a' es.length cap') es.length (flat es) ∧ Below W.heap.size W w' := by
  have HC : Hid (ERow W a es) := hr
  clear hr
  go_enter Try.func11, Try.ntmps11
  go_wp2_with fail
  go_loopw [3, 4] (fun v u wr => ∃ j : Nat, j ≤ es.length ∧ u = .int .i64 j ∧ wr.ownsRow W.heap.size 50 2 v j (flat (es.take j)) ∧ Below W.heap.size W wr) (fun _ u _ => es.length - (intOf u).toNat)
  case atStart => exact ⟨0, Nat.zero_le _, rfl, ⟨by simp [flat], .inl ⟨rfl, rfl⟩⟩, Below.refl _ _⟩
  case round =>
    obtain ⟨j, hj, rfl, hown, hbw⟩ := hrel
    by_cases hlt : j < es.length
    · obtain ⟨b, off, rfl, hb, c1, c0⟩ := HC.out.cells j hlt
      have d1 : wr.cell? ⟨b, off + j * 2, none⟩ = some (.int .u64 ((es.getD j (0, 0)).1 : Nat)) := by rw [hbw.cell (p := ⟨b, off + j * 2, none⟩) hb]; exact c1
      have d0 : wr.cell? ⟨b, off + j * 2 + 1, none⟩ = some (.int .u64 ((es.getD j (0, 0)).2 : Nat)) := by rw [hbw.cell (p := ⟨b, off + j * 2 + 1, none⟩) hb]; exact c0
      have H : Hid (es.take (j + 1) = es.take j ++ [es.getD j (0, 0)]) := take_sn es j hlt
      obtain ⟨i0, hi, hz0, hz1, hz2⟩ := info_relem
      have HI : Hid (Try.prog.info? 50 = some i0 ∧ i0.zero = some (.agg #[.int .u64 0, .int .u64 0]) ∧ i0.size = 2 ∧ i0.bytes = 16) := ⟨hi, hz0, hz1, hz2⟩
      have HO : Hid (wr.ownsRow W.heap.size 50 2 u3 j (flat (es.take j))) := hown
      have HB : Hid (Below W.heap.size W wr) := hbw
      clear hown c1 c0 hi hz0 hz1 hz2 hbw HC
      generalize es.getD j (0, 0) = x at *
      go_wp2_with (at_builtin; refine wpList_append_own _ rfl _ _ 31 rfl W.heap.size 50 i0 (.agg #[.int .u64 0, .int .u64 0]) 2 16 Try.underlying31 HI.out.1 HI.out.2.1 HI.out.2.2.1 HI.out.2.2.2 rfl (by decide) _ _ _ rfl (own_below HO.out (by go_grown)) ⟨wr.heap.size, 0, none⟩ 1 1 [.int .u64 (x.1 : Int), .int .u64 (x.2 : Int)] rfl rfl (fun p u hu => by rcases p with _ | _ | p <;> simp at hu <;> subst hu <;> simp [go_sem]) (by intro u hu; simp at hu; rcases hu with rfl | rfl <;> rfl) (by simp only [maxLen]; omega) (by omega) (by have := HB.out.size; simp; omega) ?_; intro v' w' hown' hgr _)
      refine ⟨⟨j + 1, hlt, by simp, ?_, ?_⟩, by simp [intOf]; omega⟩
      · rw [H.out, flat_snoc]; exact hown'
      · exact (HB.out.alloc HB.out.size _).grown hgr (by have := HB.out.size; simp; omega) fun k hk => (HO.out.lt k hk).1
    · have hje : j = es.length := by omega
      subst hje
      rw [List.take_of_length_le (Nat.le_refl _)] at hown
      have HB : Hid (Below W.heap.size W wr) := hbw
      obtain ⟨a', cap', hv, _⟩ := own_row hown
      subst hv
      have HE := hidT hown
      clear hown hbw HC
      go_wp2
      go_ret
      exact ⟨_, _, rfl, HE.out, HB.out⟩
theorem own_farW {w w' : World} {base : Nat} {T : TypeId} {s : Nat} {v : Value} {n : Nat} {xs : List Value} {row : Option Nat} (h : w.ownsRow base T s v n xs) (hg : w.grownBy w' row) (hne : ∀ g, v.ownBlock = some g → row ≠ some g) : w'.ownsRow base T s v n xs := by
  refine ⟨h.1, ?_⟩
  rcases h.2 with h1 | ⟨g, cap, cur, e, hb, hh, h2, h3, h4, h5⟩
  · exact .inl h1
  · have hl : g < w.heap.size := by
      rcases Nat.lt_or_ge g w.heap.size with h6 | h6
      · exact h6
      · rw [Array.getElem?_eq_none h6] at hh; cases hh
    refine .inr ⟨g, cap, cur, e, hb, ?_, h2, h3, h4, h5⟩
    rw [hg.block g hl (fun e' => hne g (by rw [e]; rfl) e'.symm)]
    exact hh
theorem own_typesW {w : World} {b1 b2 : Nat} {T U : TypeId} {s1 s2 : Nat} {v1 v2 : Value} {n1 n2 : Nat} {ys zs : List Value} (h1 : w.ownsRow b1 T s1 v1 n1 ys) (h2 : w.ownsRow b2 U s2 v2 n2 zs) (hn : T ≠ U) : ∀ g, v2.ownBlock = some g → v1.ownBlock ≠ some g := by
  intro g e2 e1
  rcases h1.2 with ⟨h, _⟩ | ⟨g1, _, c1, e, _, hh1, _⟩
  · rw [h] at e1; cases e1
  rcases h2.2 with ⟨h, _⟩ | ⟨g2, _, c2, e', _, hh2, _⟩
  · rw [h] at e2; cases e2
  rw [e] at e1
  rw [e'] at e2
  simp [Value.ownBlock] at e1 e2
  subst e1 e2
  rw [hh1] at hh2
  simp at hh2
  exact hn hh2.2
/-- Rows of the document's elements that were made, one behind the other. -/
def RwOW (w : World) (xs : List Value) (j : Nat) (ts : List (List (Nat × Nat))) : Prop := ∀ p, p < j → ∃ v, xs[p]? = some v ∧ w.ownsRow 0 50 2 v (tbW ts p).length (flat (tbW ts p))
theorem RwOW.below {w w' : World} {xs : List Value} {j : Nat} {ts : List (List (Nat × Nat))} (h : RwOW w xs j ts) (hb : Below w.heap.size w w') : RwOW w' xs j ts := fun p hp => by
  obtain ⟨v, e, h2⟩ := h p hp
  exact ⟨v, e, own_below h2 hb⟩
theorem own_zeroW {w : World} {base : Nat} {T : TypeId} {s : Nat} {v : Value} {n : Nat} {xs : List Value} (h : w.ownsRow base T s v n xs) : w.ownsRow 0 T s v n xs := by
  refine ⟨h.1, ?_⟩
  rcases h.2 with h1 | ⟨g, cap, cur, e, _, rest⟩
  · exact .inl h1
  · exact .inr ⟨g, cap, cur, e, Nat.zero_le _, rest⟩
theorem info_rrowW : ∃ i, Try.prog.info? 31 = some i ∧ i.zero = some (.slice none 0 0) ∧ i.size = 1 ∧ i.bytes = 24 := by
  have h : (Try.prog.info? 31).map (fun i => (i.zero, i.size, i.bytes)) = some (some (.slice none 0 0), 1, 24) := by kernel_rfl
  obtain ⟨i, hi, he⟩ := Option.map_eq_some_iff.1 h
  simp only [Prod.mk.injEq] at he
  exact ⟨i, hi, he.1, he.2.1, he.2.2⟩
theorem RwOW.t {w : World} {base : Nat} {T : TypeId} {v : Value} {xs : List Value} {ts : List (List (Nat × Nat))} (h : w.ownsRow base T 1 v ts.length xs) (hr : RwOW w xs ts.length ts) : ∃ a cap, v = .slice a ts.length cap ∧ TRowW w a ts := by
  rcases h.2 with ⟨h1, h0⟩ | ⟨g, cap, cur, rfl, _⟩
  · refine ⟨none, 0, ?_, ⟨fun i hi => by omega⟩⟩
    rw [h1, h0]
  · refine ⟨_, cap, rfl, ⟨fun i hi => ?_⟩⟩
    have e1 := h.cellAt i (by omega)
    obtain ⟨u, e, ho⟩ := hr i hi
    rw [e] at e1
    obtain ⟨ra, rc, rfl, hE⟩ := own_row ho
    refine ⟨g, 0, ra, rc, rfl, ?_, by rw [Nat.zero_add]; exact e1, hE⟩
    rcases Nat.lt_or_ge g w.heap.size with h2 | h2
    · exact h2
    · simp [World.cell?, Array.getElem?_eq_none h2] at e1
set_option maxHeartbeats 2000000 in
set_option maxRecDepth 100000 in
theorem refs_anyW (a : Option Addr) (cap : Nat) (ts : List (List (Nat × Nat))) (hn : ts.length ≤ 1000) (hl : ∀ t ∈ ts, t.length ≤ 1000) (W : World) (hT : TRowW W a ts) :
    Calls Try.prog 8 #[.slice a ts.length cap] W fun e w' => ∃ a' cap', e = .returned (.slice a' ts.length cap') ∧ TRowW w' a' ts ∧ Below W.heap.size W w' := by
  have HT := hidT hT
  have HLn := hidT hl
  obtain ⟨i0, hi, hz0, hz1, hz2⟩ := info_rrowW
  have HI : Hid (Try.prog.info? 31 = some i0 ∧ i0.zero = some (.slice none 0 0) ∧ i0.size = 1 ∧ i0.bytes = 24) := ⟨hi, hz0, hz1, hz2⟩
  clear hT hl hi hz0 hz1 hz2
  go_enter Try.func8, Try.ntmps8
  go_wp2_with fail
  go_loopw [3, 4] (fun v u wr => ∃ (j : Nat) (xs : List Value), j ≤ ts.length ∧ u = .int .i64 j ∧ Hid (wr.ownsRow W.heap.size 31 1 v j xs ∧ RwOW wr xs j ts ∧ Below W.heap.size W wr)) (fun _ u _ => ts.length - (intOf u).toNat)
  case atStart => exact ⟨0, [], Nat.zero_le _, rfl, ⟨⟨by simp, .inl ⟨rfl, rfl⟩⟩, fun p hp => by omega, Below.refl _ _⟩⟩
  case round =>
    obtain ⟨j, xs, hj, rfl, K⟩ := hrel
    by_cases hlt : j < ts.length
    · obtain ⟨b, off, ta, tc, rfl, hb, cb, hEr⟩ := HT.out.cells j hlt
      have db := keepc K.out.2.2 cb
      have HRf : Hid (∀ w, Below W.heap.size W w → Calls Try.prog 11 #[.slice ta (tbW ts j).length tc] w fun e w' => ∃ a' cap', e = .returned (.slice a' (tbW ts j).length cap') ∧ w'.ownsRow w.heap.size 50 2 (.slice a' (tbW ts j).length cap') (tbW ts j).length (flat (tbW ts j)) ∧ Below w.heap.size w w') := fun w hb => ref_ownW ta tc (tbW ts j) (HLn.out _ (tb_memW hlt)) w (hEr.below hb)
      have j1 : (j : Int) < (ts.length : Int) := by omega
      have j2 : (0 : Int) ≤ (j : Int) := by omega
      clear cb hEr
      go_wp2_with (first
        | (go_at_call 11; refine (HRf.out _ K.out.2.2).mono ?_; rintro e w1 ⟨a1, c1, rfl, own1, hb1⟩; have K1 : Hid (w1.ownsRow W.heap.size 31 1 u3 j xs ∧ RwOW w1 xs j ts ∧ Below W.heap.size W w1 ∧ w1.ownsRow 0 50 2 (.slice a1 (tbW ts j).length c1) (tbW ts j).length (flat (tbW ts j))) := ⟨own_below K.out.1 hb1, K.out.2.1.below hb1, K.out.2.2.trans (hb1.mono K.out.2.2.size), own_zeroW own1⟩; clear own1 hb1 K db)
        | (at_builtin; refine wpList_append_own _ rfl _ _ 34 rfl W.heap.size 31 i0 (.slice none 0 0) 1 24 Try.underlying34 HI.out.1 HI.out.2.1 HI.out.2.2.1 HI.out.2.2.2 rfl (by decide) _ _ _ rfl (own_below K1.out.1 (by go_grown)) ⟨w1.heap.size, 0, none⟩ 1 1 [.slice a1 (tbW ts j).length c1] rfl rfl (fun p u hu => by rcases p with _ | p <;> simp at hu <;> subst hu <;> simp [go_sem]) (by intro u hu; simp at hu; subst hu; rfl) (by simp only [maxLen]; omega) (by omega) (by have := K1.out.2.2.1.size; simp; omega) ?_; intro v' w' hown' hgr _))
      have hA := own_below K1.out.1 (w' := w1.alloc (Obj.cells #[.slice a1 (tbW ts j).length c1] 31)) ((Below.refl _ _).alloc (Nat.le_refl _) _)
      have hB := own_below K1.out.2.2.2 (w' := w1.alloc (Obj.cells #[.slice a1 (tbW ts j).length c1] 31)) ((Below.refl _ _).alloc (Nat.le_refl _) _)
      have hC := K1.out.2.1.below (w' := w1.alloc (Obj.cells #[.slice a1 (tbW ts j).length c1] 31)) ((Below.refl _ _).alloc (Nat.le_refl _) _)
      have hxl : xs.length = j := by have := K1.out.1.1; omega
      refine ⟨⟨j + 1, _, hlt, by simp, ⟨hown', fun p hp => ?_, ?_⟩⟩, by simp [intOf]; omega⟩
      · by_cases e : p = j
        · subst e
          exact ⟨_, by rw [← hxl]; simp, own_farW hB hgr (own_typesW hA hB (by decide))⟩
        · obtain ⟨v, e', ho⟩ := hC p (by omega)
          exact ⟨v, by rw [List.getElem?_append_left (by omega)]; exact e', own_farW ho hgr (own_typesW hA ho (by decide))⟩
      · exact (K1.out.2.2.1.alloc K1.out.2.2.1.size _).grown hgr (by have := K1.out.2.2.1.size; simp; omega) fun k hk => (K1.out.1.lt k hk).1
    · obtain rfl : j = ts.length := by omega
      obtain ⟨a', cap', hv, hTr⟩ := RwOW.t K.out.1 K.out.2.1
      subst hv
      have HX : Hid (TRowW wr a' ts ∧ Below W.heap.size W wr) := ⟨hTr, K.out.2.2⟩
      clear hTr K
      go_wp2
      go_ret
      exact ⟨a', cap', rfl, HX.out.1, HX.out.2⟩
end Go.Proofs.Ytccaobfhldfamaa
