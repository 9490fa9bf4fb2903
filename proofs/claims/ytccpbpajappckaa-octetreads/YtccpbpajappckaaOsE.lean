/- The contract of the document's reader's List over the seat's translation. -/
import Derived.Test.YtccpbpajappckaaOsD
namespace Go.Proofs.Ytccpbpajappckaa
open Go.RowKit

theorem own_blkO {A B : World} {base : Nat} {e : TypeId} {size : Nat} {v : Value} {n : Nat} {xs : List Value} (h : A.ownsRow base e size v n xs) (hb : ∀ g, base ≤ g → g < A.heap.size → B.heap[g]? = A.heap[g]?) : B.ownsRow base e size v n xs := by
  refine ⟨h.1, ?_⟩
  rcases h.2 with h0 | ⟨g, cap, cur, rfl, h1, h2, h3⟩
  · exact .inl h0
  · exact .inr ⟨g, cap, cur, rfl, h1, (hb g h1 (Array.getElem?_eq_some_iff.1 h2).1).trans h2, h3⟩
/-- Two cells that can be written. -/
structure R2 (w : World) (b : Nat) (x y : Value) : Prop where
  c0 : w.cell? ⟨b, 0, none⟩ = some x
  c1 : w.cell? ⟨b, 1, none⟩ = some y
  f0 : w.frozen? ⟨b, 0, none⟩ = false
  f1 : w.frozen? ⟨b, 1, none⟩ = false
theorem R2.below {w w' : World} {b : Nat} {x y : Value} (h : R2 w b x y) (hb : Below w.heap.size w w') : R2 w' b x y := ⟨keepc hb h.c0, keepc hb h.c1, keepf hb h.c0 h.f0, keepf hb h.c1 h.f1⟩
theorem R2.blk {w w' : World} {b : Nat} {x y : Value} (h : R2 w b x y) (hb : w'.heap[b]? = w.heap[b]?) : R2 w' b x y := ⟨(World.cell?_of_block hb).trans h.c0, (World.cell?_of_block hb).trans h.c1, (World.frozen?_of_block hb).trans h.f0, (World.frozen?_of_block hb).trans h.f1⟩
theorem R2.set {w : World} {b : Nat} {x y : Value} (h : R2 w b x y) (x' y' : Value) : R2 ((w.setCell ⟨b, 0, none⟩ x').setCell ⟨b, 1, none⟩ y') b x' y' := by
  obtain ⟨c0, c1, f0, f1⟩ := h
  exact ⟨by simp [go_sem, *], by simp [go_sem, *], by simp [go_sem, *], by simp [go_sem, *]⟩
theorem R3.blk {w w' : World} {b : Nat} {x y z : Value} (h : R3 w b x y z) (hb : w'.heap[b]? = w.heap[b]?) : R3 w' b x y z := ⟨(World.cell?_of_block hb).trans h.c0, (World.cell?_of_block hb).trans h.c1, (World.cell?_of_block hb).trans h.c2, (World.frozen?_of_block hb).trans h.f0, (World.frozen?_of_block hb).trans h.f1, (World.frozen?_of_block hb).trans h.f2⟩
theorem StrRow.set3 {w : World} {a : Option Addr} {ss : List ByteArray} {c : Nat} (h : StrRow w a ss) (hn : ∀ g off, a = some ⟨g, off, none⟩ → g ≠ c) (x y z : Value) : StrRow (((w.setCell ⟨c, 0, none⟩ x).setCell ⟨c, 1, none⟩ y).setCell ⟨c, 2, none⟩ z) a ss := by
  rcases h with h | ⟨b, off, rfl, hb, hc⟩
  · exact .inl h
  · have hk : (((w.setCell ⟨c, 0, none⟩ x).setCell ⟨c, 1, none⟩ y).setCell ⟨c, 2, none⟩ z).heap[b]? = w.heap[b]? := ((Below.heap_setCell _ _ _ _ (hn b off rfl)).trans (Below.heap_setCell _ _ _ _ (hn b off rfl))).trans (Below.heap_setCell _ _ _ _ (hn b off rfl))
    exact .inr ⟨b, off, rfl, by simpa [World.setCell] using hb, fun i hi => (World.cell?_of_block hk).trans (hc i hi)⟩
/-- What the loop has laid: the number, the reader, the result. -/
structure Lw (W w : World) (b N : Nat) (s : ByteArray) (e : Int) : Prop where
  n : w.cell? ⟨b, 2, none⟩ = some (.int .i64 (N : Int))
  x : R2 w (b + 1) (.string s) (.int .i64 e)
  r : R3 w (W.heap.size + 1) (.string ⟨#[]⟩) (.int .i64 0) (.slice none 0 0)
  d : Below W.heap.size W w
theorem Lw.below {W w w' : World} {b N : Nat} {s : ByteArray} {e : Int} (h : Lw W w b N s e) (hb : Below w.heap.size w w') : Lw W w' b N s e := ⟨keepc hb h.n, h.x.below hb, h.r.below hb, h.d.trans (hb.mono h.d.size)⟩
theorem Lw.put {W w : World} {b N : Nat} {s : ByteArray} {e : Int} (h : Lw W w b N s e) (hb : W.heap.size + 1 < b) (s' : ByteArray) (e' : Int) : Lw W ((w.setCell ⟨b + 1, 0, none⟩ (.string s')).setCell ⟨b + 1, 1, none⟩ (.int .i64 e')) b N s' e' := by
  have hk : ∀ i, i ≠ b + 1 → ((w.setCell ⟨b + 1, 0, none⟩ (.string s')).setCell ⟨b + 1, 1, none⟩ (.int .i64 e')).heap[i]? = w.heap[i]? := fun i hi => (Below.heap_setCell _ _ _ _ hi).trans (Below.heap_setCell _ _ _ _ hi)
  exact ⟨(World.cell?_of_block (hk b (by omega))).trans h.n, h.x.set _ _, h.r.blk (hk _ (by omega)), (h.d.setCell (by simp; omega) _).setCell (by simp; omega) _⟩
theorem Lw.grown {W w w' : World} {b N : Nat} {s : ByteArray} {e : Int} (h : Lw W w b N s e) {r : Option Nat} (k : w.grownBy w' r) (hr : ∀ i, r = some i → b + 1 < i) (hb : W.heap.size + 1 < b) : Lw W w' b N s e :=
  ⟨(World.cell?_of_block (k.block b (cell_lt h.n) (fun e => by have := hr _ e.symm; omega))).trans h.n, h.x.blk (k.block _ (cell_lt h.x.c0) (fun e => by have := hr _ e.symm; omega)), h.r.blk (k.block _ (cell_lt h.r.c0) (fun e => by have := hr _ e.symm; omega)), h.d.grown k h.d.size (fun i e => by have := hr i e; omega)⟩
set_option maxRecDepth 100000 in
set_option maxHeartbeats 8000000 in
theorem rR_list (s : ByteArray) (e m long : Int) (W : World) : Calls Try.prog 27 #[.agg #[.string s, .int .i64 e], .int .i64 m, .int .i64 long] W fun r w' => ∃ v, r = .returned (.agg #[.string (rdList s e m long).1, .int .i64 (rdList s e m long).2.1, v]) ∧ (TxS w' v (rdList s e m long).2.2 ∧ ∀ g, v.ownBlock = some g → W.heap.size ≤ g) ∧ Below W.heap.size W w' := by
  have HN := hidR (rR_num s e m)
  have hp := rdNum_pos s e m
  have HQ : Hid (rdList s e m long = if (rdNum s e m).2.1 = 0 then rdTexts long (rdNum s e m).2.2.toNat (rdNum s e m).1 [] else ((rdNum s e m).1, (rdNum s e m).2.1, some [])) := rfl
  obtain ⟨i0, hi0, hz0, hz1, hz2⟩ := info_text
  have HI : Hid (Try.prog.info? 9 = some i0 ∧ i0.zero = some (.string ⟨#[]⟩) ∧ i0.size = 1 ∧ i0.bytes = 16) := ⟨hi0, hz0, hz1, hz2⟩
  clear hi0 hz0 hz1 hz2
  generalize rdList s e m long = R at *
  generalize rdNum s e m = q at *
  obtain ⟨q1, q2, q3⟩ := q
  dsimp only at *
  obtain ⟨N, rfl⟩ : ∃ N : Nat, q3 = (N : Int) := ⟨q3.toNat, by omega⟩
  have hN9 : (N : Int) ≤ 2147483647 := hp.2
  obtain ⟨Ra, Rb, Rc⟩ := R
  dsimp only at *
  by_cases h2 : q2 = 0
  · subst h2
    rw [if_pos rfl, Int.toNat_natCast] at HQ
    go_enter Try.func27, Try.ntmps27
    go_wp2_with (go_at_call 25; refine (HN.out.go _).mono ?_; rintro e w1 ⟨rfl, hb1⟩; have K1 : Hid (R3 w1 (W.heap.size + 1) (.string ⟨#[]⟩) (.int .i64 0) (.slice none 0 0) ∧ Below W.heap.size W w1) := ⟨R3.below ⟨by simp [go_sem], by simp [go_sem], by simp [go_sem], by simp [go_sem], by simp [go_sem], by simp [go_sem]⟩ hb1, (((Below.refl _ _).alloc (Nat.le_refl _) _).alloc (by simp) _).trans (hb1.mono (by simp; omega))⟩; clear hb1)
    have KZ : Hid (Lw W ((w1.alloc (Obj.cells #[.string q1, .int .i64 0, .int .i64 (N : Int)] 60)).alloc (Obj.cells #[.string q1, .int .i64 0] 27)) w1.heap.size N q1 0 ∧ W.heap.size + 1 < w1.heap.size) := by
      have bz : Below w1.heap.size w1 ((w1.alloc (Obj.cells #[.string q1, .int .i64 0, .int .i64 (N : Int)] 60)).alloc (Obj.cells #[.string q1, .int .i64 0] 27)) := ((Below.refl _ _).alloc (Nat.le_refl _) _).alloc (by simp) _
      exact ⟨⟨by simp [go_sem], ⟨by simp [go_sem], by simp [go_sem], by simp [go_sem], by simp [go_sem]⟩, K1.out.1.below bz, K1.out.2.trans (bz.mono K1.out.2.size)⟩, cell_lt K1.out.1.c0⟩
    clear K1
    generalize ((w1.alloc (Obj.cells #[.string q1, .int .i64 0, .int .i64 (N : Int)] 60)).alloc (Obj.cells #[.string q1, .int .i64 0] 27)) = w2 at *
    generalize w1.heap.size = b at *
    have hbW := KZ.out.2
    go_loopw [9, 10] (fun l u wr => (∃ (k : Nat) (s' : ByteArray) (acc : List ByteArray), k ≤ N ∧ u = .int .i64 k ∧ Hid (rdTexts long (N - k) s' acc = (Ra, Rb, Rc)) ∧ Hid (acc.length = k ∧ wr.ownsRow (b + 1 + 1) 9 1 l k (acc.map Value.string) ∧ Lw W wr b N s' 0 ∧ b + 1 < wr.heap.size)) ∨ (∃ k : Nat, k ≤ N ∧ u = .int .i64 k ∧ Hid (Rb ≠ 0 ∧ Rc = none ∧ Lw W wr b N Ra Rb))) (fun _ u _ => N - (intOf u).toNat)
    case atStart => exact .inl ⟨0, q1, [], Nat.zero_le _, rfl, HQ.out.symm, ⟨rfl, ⟨by simp, .inl ⟨rfl, rfl⟩⟩, KZ.out.1, cell_lt KZ.out.1.x.c0⟩⟩
    case round =>
      clear KZ
      rcases hrel with ⟨k, s', acc, hk, rfl, HD, HK⟩ | ⟨k, hk, rfl, HK⟩
      · have ln := HK.out.2.2.1.n
        obtain ⟨x0, x1, t0, t1⟩ := HK.out.2.2.1.x
        by_cases hlt : k < N
        · have k1 : (k : Int) < (N : Int) := by omega
          have H3 := hidR (fun w => rR_text s' 0 long w)
          have HS : Hid ((if (rdText s' 0 long).2.1 = 0 then rdTexts long (N - (k + 1)) (rdText s' 0 long).1 (acc ++ [(rdText s' 0 long).2.2]) else ((rdText s' 0 long).1, (rdText s' 0 long).2.1, none)) = (Ra, Rb, Rc)) := by
            show _ = _
            rw [← HD.out, show N - k = (N - (k + 1)) + 1 by omega]
            rfl
          clear HD
          generalize rdText s' 0 long = y at *
          obtain ⟨y1, y2, y3⟩ := y
          dsimp only at *
          by_cases hy : y2 = 0
          · subst hy
            rw [if_pos rfl] at HS
            go_upto_region 8 with (go_at_call 26; refine (H3.out _).mono ?_; rintro r w3 ⟨v, rfl, ho, hb3⟩; obtain ⟨g, hg9, rfl, hc⟩ : ∃ g, wr.heap.size ≤ g ∧ v = .slice (some ⟨g, 0, none⟩) 1 1 ∧ w3.cell? ⟨g, 0, none⟩ = some (.string y3) := (by rcases ho with ⟨_, h⟩ | ⟨h, _⟩; exact h; exact absurd rfl h); have K3 : Hid (w3.ownsRow (b + 1 + 1) 9 1 u9 k (acc.map Value.string) ∧ Lw W w3 b N s' 0 ∧ b + 1 < w3.heap.size ∧ w3.cell? ⟨g, 0, none⟩ = some (.string y3) ∧ acc.length = k ∧ b + 1 < g) := ⟨own_below HK.out.2.1 hb3, HK.out.2.2.1.below hb3, Nat.lt_of_lt_of_le HK.out.2.2.2 hb3.size, hc, HK.out.1, Nat.lt_of_lt_of_le HK.out.2.2.2 hg9⟩; clear hb3 HK x0 x1 t0 t1 ln ho hc hg9)
            have KA : Hid ((w3.alloc (Obj.cells #[.string y1, .int .i64 0, .slice (some ⟨g, 0, none⟩) 1 1] 63)).ownsRow (b + 1 + 1) 9 1 u9 k (acc.map Value.string) ∧ Lw W (w3.alloc (Obj.cells #[.string y1, .int .i64 0, .slice (some ⟨g, 0, none⟩) 1 1] 63)) b N s' 0 ∧ b + 1 < w3.heap.size ∧ (w3.alloc (Obj.cells #[.string y1, .int .i64 0, .slice (some ⟨g, 0, none⟩) 1 1] 63)).cell? ⟨g, 0, none⟩ = some (.string y3) ∧ R3 (w3.alloc (Obj.cells #[.string y1, .int .i64 0, .slice (some ⟨g, 0, none⟩) 1 1] 63)) w3.heap.size (.string y1) (.int .i64 0) (.slice (some ⟨g, 0, none⟩) 1 1) ∧ g < w3.heap.size ∧ acc.length = k ∧ b + 1 < g) := ⟨own_below K3.out.1 ((Below.refl _ _).alloc (Nat.le_refl _) _), K3.out.2.1.below ((Below.refl _ _).alloc (Nat.le_refl _) _), K3.out.2.2.1, keepc ((Below.refl _ _).alloc (Nat.le_refl _) _) K3.out.2.2.2.1, R3.new _ _ _ _ _, cell_lt K3.out.2.2.2.1, K3.out.2.2.2.2⟩
            clear K3
            generalize (w3.alloc (Obj.cells #[.string y1, .int .i64 0, .slice (some ⟨g, 0, none⟩) 1 1] 63)) = Z at *
            generalize w3.heap.size = b3 at *
            obtain ⟨x0, x1, t0, t1⟩ := KA.out.2.1.x
            obtain ⟨r0, r1, r2, _, _, _⟩ := KA.out.2.2.2.2.1
            go_upto_region 10 with fail
            have hk : ∀ i, i ≠ b + 1 → ((Z.setCell ⟨b + 1, 0, none⟩ (.string y1)).setCell ⟨b + 1, 1, none⟩ (.int .i64 0)).heap[i]? = Z.heap[i]? := fun i hi => (Below.heap_setCell _ _ _ _ hi).trans (Below.heap_setCell _ _ _ _ hi)
            have hbg := KA.out.2.2.2.2.2.2.2
            have hb3 := KA.out.2.2.1
            have KP : Hid (((Z.setCell ⟨b + 1, 0, none⟩ (.string y1)).setCell ⟨b + 1, 1, none⟩ (.int .i64 0)).ownsRow (b + 1 + 1) 9 1 u9 k (acc.map Value.string) ∧ Lw W ((Z.setCell ⟨b + 1, 0, none⟩ (.string y1)).setCell ⟨b + 1, 1, none⟩ (.int .i64 0)) b N y1 0 ∧ ((Z.setCell ⟨b + 1, 0, none⟩ (.string y1)).setCell ⟨b + 1, 1, none⟩ (.int .i64 0)).cell? ⟨g, 0, none⟩ = some (.string y3) ∧ ((Z.setCell ⟨b + 1, 0, none⟩ (.string y1)).setCell ⟨b + 1, 1, none⟩ (.int .i64 0)).cell? ⟨b3, 2, none⟩ = some (.slice (some ⟨g, 0, none⟩) 1 1) ∧ b + 1 + 1 ≤ ((Z.setCell ⟨b + 1, 0, none⟩ (.string y1)).setCell ⟨b + 1, 1, none⟩ (.int .i64 0)).heap.size) := ⟨own_blkO KA.out.1 fun i hi _ => hk i (by omega), KA.out.2.1.put hbW _ _, (World.cell?_of_block (hk g (by omega))).trans KA.out.2.2.2.1, (World.cell?_of_block (hk b3 (by omega))).trans r2, by have := cell_lt KA.out.2.1.x.c0; simp [World.setCell]; omega⟩
            have hal := KA.out.2.2.2.2.2.2.1
            clear KA x0 x1 t0 t1 r0 r1 r2 hk
            generalize ((Z.setCell ⟨b + 1, 0, none⟩ (.string y1)).setCell ⟨b + 1, 1, none⟩ (.int .i64 0)) = Y at *
            have y3c := KP.out.2.2.1
            have ysl := KP.out.2.2.2.1
            go_wp2_with (at_builtin; refine wpList_append_own _ rfl _ _ 36 rfl (b + 1 + 1) 9 i0 (.string ⟨#[]⟩) 1 16 Try.underlying36 HI.out.1 HI.out.2.1 HI.out.2.2.1 HI.out.2.2.2 rfl (by decide) _ _ _ rfl (own_below KP.out.1 ((Below.refl _ _).alloc (Nat.le_refl _) _)) ⟨Y.heap.size, 0, none⟩ 1 1 [.string y3] rfl rfl (fun p u hu => by rcases p with _ | p <;> simp at hu <;> subst hu <;> simp [go_sem]) (by intro u hu; simp at hu; rcases hu with rfl; rfl) (by simp only [maxLen]; omega) (by omega) (by have := KP.out.2.2.2.2; simp; omega) ?_; intro v' w7 hown7 hgr7 _; have K7 : Hid (Lw W w7 b N y1 0 ∧ b + 1 < w7.heap.size) := ⟨(KP.out.2.1.below ((Below.refl _ _).alloc (Nat.le_refl _) _)).grown hgr7 (fun i hi => by have := (KP.out.1.lt i hi).1; omega) hbW, by have := hgr7.size; simp at this; have := KP.out.2.2.2.2; omega⟩; clear KP y3c ysl)
            exact ⟨.inl ⟨k + 1, y1, acc ++ [y3], hlt, by simp, HS, ⟨by rw [List.length_append, hal]; rfl, by rw [List.map_append]; exact hown7, K7.out.1, K7.out.2⟩⟩, by simp [intOf]; omega⟩
          · rw [if_neg hy] at HS
            have hy' : (y2 == 0) = false := by rw [beq_eq_false_iff_ne]; exact hy
            go_upto_region 8 with (go_at_call 26; refine (H3.out _).mono ?_; rintro r w3 ⟨v, rfl, ho, hb3⟩; obtain rfl : v = .slice none 0 0 := (by rcases ho with ⟨h, _⟩ | ⟨_, h⟩; exact absurd h hy; exact h); have K3 : Hid (Lw W w3 b N s' 0) := HK.out.2.2.1.below hb3; clear hb3 HK x0 x1 t0 t1 ln ho)
            have KA : Hid (Lw W (w3.alloc (Obj.cells #[.string y1, .int .i64 y2, .slice none 0 0] 63)) b N s' 0 ∧ R3 (w3.alloc (Obj.cells #[.string y1, .int .i64 y2, .slice none 0 0] 63)) w3.heap.size (.string y1) (.int .i64 y2) (.slice none 0 0)) := ⟨K3.out.below ((Below.refl _ _).alloc (Nat.le_refl _) _), R3.new _ _ _ _ _⟩
            clear K3
            generalize (w3.alloc (Obj.cells #[.string y1, .int .i64 y2, .slice none 0 0] 63)) = Z at *
            generalize w3.heap.size = b3 at *
            obtain ⟨x0, x1, t0, t1⟩ := KA.out.1.x
            obtain ⟨r0, r1, r2, _, _, _⟩ := KA.out.2
            have HS1 : Hid (Ra = y1 ∧ Rb = y2 ∧ Rc = none) := by
              have := HS.out
              injection this with e1 e2; injection e2 with e2 e3
              exact ⟨e1.symm, e2.symm, e3.symm⟩
            go_wp2
            exact ⟨.inr ⟨k + 1, hlt, by simp, ⟨by rw [HS1.out.2.1]; exact hy, HS1.out.2.2, by rw [HS1.out.1, HS1.out.2.1]; exact KA.out.1.put hbW _ _⟩⟩, by simp [intOf]; omega⟩
        · obtain rfl : k = N := by omega
          have HD2 : Hid (Ra = s' ∧ Rb = 0 ∧ Rc = some acc) := by
            have := HD.out
            rw [Nat.sub_self] at this
            injection this with e1 e2; injection e2 with e2 e3
            exact ⟨e1.symm, e2.symm, e3.symm⟩
          obtain ⟨a', cap', rfl, hsr⟩ := own_texts HK.out.1 HK.out.2.1
          have KE : Hid (StrRow wr a' acc ∧ Lw W wr b k s' 0 ∧ ∀ g off, a' = some ⟨g, off, none⟩ → g ≠ W.heap.size + 1) := ⟨hsr, HK.out.2.2.1, fun g off e => by have := (HK.out.2.1.lt g (by rw [e]; rfl)).1; omega⟩
          have HFR : Hid (∀ g, (Value.slice a' acc.length cap').ownBlock = some g → W.heap.size ≤ g) := fun g hg => by have := (HK.out.2.1.lt g hg).1; omega
          clear HD HK hsr
          obtain ⟨a0, a1, a2, f0, f1, f2⟩ := KE.out.2.1.r
          go_wp2
          obtain ⟨rfl, rfl, rfl⟩ := HD2.out
          refine bodyPost_ret (v := .agg #[.string Ra, .int .i64 0, .slice a' acc.length cap']) (by simp [results, Try.results27, go_sem, *]) rfl ⟨.slice a' acc.length cap', rfl, ⟨⟨a', cap', rfl, KE.out.1.set3 KE.out.2.2 _ _ _⟩, HFR.out⟩, below3 KE.out.2.1.d (Nat.le_succ _) _ _ _⟩
      · obtain ⟨x0, x1, t0, t1⟩ := HK.out.2.2.x
        have ln := HK.out.2.2.n
        obtain ⟨a0, a1, a2, f0, f1, f2⟩ := HK.out.2.2.r
        have hr := HK.out.1
        have hr' : (Rb == 0) = false := by rw [beq_eq_false_iff_ne]; exact hr
        go_wp2
        all_goals
          refine bodyPost_ret (v := .agg #[.string Ra, .int .i64 Rb, .slice none 0 0]) (by simp [results, Try.results27, go_sem, *]) rfl ⟨.slice none 0 0, rfl, ⟨by rw [HK.out.2.1]; rfl, fun g e => by cases e⟩, below3 HK.out.2.2.d (Nat.le_succ _) _ _ _⟩
  · rw [if_neg h2] at HQ
    have hq' : (q2 == 0) = false := by rw [beq_eq_false_iff_ne]; exact h2
    have HQ2 : Hid (Ra = q1 ∧ Rb = q2 ∧ Rc = some []) := by
      have := HQ.out
      injection this with e1 e2; injection e2 with e2 e3
      exact ⟨e1, e2, e3⟩
    clear HQ
    go_enter Try.func27, Try.ntmps27
    go_wp2_with (go_at_call 25; refine (HN.out.go _).mono ?_; rintro e w1 ⟨rfl, hb1⟩; have K1 : Hid (R3 w1 (W.heap.size + 1) (.string ⟨#[]⟩) (.int .i64 0) (.slice none 0 0) ∧ Below W.heap.size W w1) := ⟨R3.below ⟨by simp [go_sem], by simp [go_sem], by simp [go_sem], by simp [go_sem], by simp [go_sem], by simp [go_sem]⟩ hb1, (((Below.refl _ _).alloc (Nat.le_refl _) _).alloc (by simp) _).trans (hb1.mono (by simp; omega))⟩; clear hb1)
    have KZ : Hid (Lw W ((w1.alloc (Obj.cells #[.string q1, .int .i64 q2, .int .i64 (N : Int)] 60)).alloc (Obj.cells #[.string q1, .int .i64 q2] 27)) w1.heap.size N q1 q2 ∧ W.heap.size + 1 < w1.heap.size) := by
      have bz : Below w1.heap.size w1 ((w1.alloc (Obj.cells #[.string q1, .int .i64 q2, .int .i64 (N : Int)] 60)).alloc (Obj.cells #[.string q1, .int .i64 q2] 27)) := ((Below.refl _ _).alloc (Nat.le_refl _) _).alloc (by simp) _
      exact ⟨⟨by simp [go_sem], ⟨by simp [go_sem], by simp [go_sem], by simp [go_sem], by simp [go_sem]⟩, K1.out.1.below bz, K1.out.2.trans (bz.mono K1.out.2.size)⟩, cell_lt K1.out.1.c0⟩
    clear K1
    generalize ((w1.alloc (Obj.cells #[.string q1, .int .i64 q2, .int .i64 (N : Int)] 60)).alloc (Obj.cells #[.string q1, .int .i64 q2] 27)) = w2 at *
    generalize w1.heap.size = b at *
    have hbW := KZ.out.2
    go_loopw [9, 10] (fun l u wr => l = .slice none 0 0 ∧ u = .int .i64 0 ∧ Hid (Lw W wr b N q1 q2)) (fun _ _ _ => 0)
    case atStart => exact ⟨rfl, rfl, KZ.out.1⟩
    case round =>
      clear KZ
      obtain ⟨rfl, rfl, HK⟩ := hrel
      obtain ⟨x0, x1, t0, t1⟩ := HK.out.x
      have ln := HK.out.n
      obtain ⟨a0, a1, a2, f0, f1, f2⟩ := HK.out.r
      go_wp2
      all_goals
        obtain ⟨rfl, rfl, rfl⟩ := HQ2.out
        refine bodyPost_ret (v := .agg #[.string Ra, .int .i64 Rb, .slice none 0 0]) (by simp [results, Try.results27, go_sem, *]) rfl ⟨.slice none 0 0, rfl, ⟨⟨none, 0, rfl, .inl rfl⟩, fun g e => by cases e⟩, below3 HK.out.d (Nat.le_succ _) _ _ _⟩
end Go.Proofs.Ytccpbpajappckaa
