/- steeplelaw01.read, and the walk of OctetReads, over the seat's translation. -/
import Derived.Test.YtccpbpajappckaaOsI
import Derived.Test.YtccpbpajappckaaOsJ
import Derived.Test.YtccpbpajappckaaOctN
namespace Go.Proofs.Ytccpbpajappckaa
open Go.RowKit

theorem read_all (q : Nat) (s : ByteArray) (hs : s.size ≤ 3000) (e k m g l : Int) (W : World) (h : Rd q s e W) : Calls Try.prog 7 #[.pointer (some ⟨q, 0, none⟩), .agg #[.string s, .int .i64 e], .agg #[.int .i64 k, .int .i64 m, .int .i64 g, .int .i64 l]] W fun r w' => ∃ (s' : ByteArray) (e' : Int), r = .returned (.tuple #[.agg #[.string s', .int .i64 e'], .bool true]) ∧ Step q s' e' W w' ∧ s'.size ≤ s.size := by
  by_cases k0 : k = 0
  · subst k0
    exact (read_num q s e m g l W h).mono fun r w' ⟨h1, h2⟩ => ⟨_, _, h1, h2, (num_size s e m).1⟩
  · by_cases k1 : k = 1
    · subst k1
      have hz := (text_size s e m).1
      have he := text_err s e m
      obtain ⟨q1, q2, t, ht⟩ : ∃ q1 q2 t, rdText s e m = (q1, q2, t) := ⟨_, _, _, rfl⟩
      rw [ht] at hz he
      dsimp only at hz he
      by_cases h2 : q2 = 0
      · subst h2
        exact (read_text1 q s e m g l q1 t ht W h).mono fun r w' ⟨h1, h2⟩ => ⟨_, _, h1, h2, hz⟩
      · rw [he h2] at ht
        exact (read_text0 q s e m g l q1 q2 h2 ht W h).mono fun r w' ⟨h1, h2⟩ => ⟨_, _, h1, h2, hz⟩
    · by_cases k2 : k = 2
      · subst k2
        exact (read_list q s hs e m g l W h).mono fun r w' ⟨h1, h2⟩ => ⟨_, _, h1, h2, (list_size s e m g).1⟩
      · by_cases k3 : k = 3
        · subst k3
          have hz := (elem_size s e l).1
          have he := elem_err s e l
          obtain ⟨q1, q2, t, ht⟩ : ∃ q1 q2 t, rdElem s e l = (q1, q2, t) := ⟨_, _, _, rfl⟩
          rw [ht] at hz he
          dsimp only at hz he
          by_cases h2 : q2 = 0
          · subst h2
            exact (read_elem1 q s e m g l q1 t ht W h).mono fun r w' ⟨h1, h2⟩ => ⟨_, _, h1, h2, hz⟩
          · rw [he h2] at ht
            exact (read_elem0 q s e m g l q1 q2 h2 ht W h).mono fun r w' ⟨h1, h2⟩ => ⟨_, _, h1, h2, hz⟩
        · have b : ∀ n : Int, ¬ k = n → (k == n) = false := fun n hn => by rw [beq_eq_false_iff_ne]; exact hn
          exact (read_elems q s hs e m g l k (b 0 k0) (b 1 k1) (b 2 k2) (b 3 k3) W h).mono fun r w' ⟨h1, h2⟩ => ⟨_, _, h1, h2, (elems_size s e l m).1⟩
/-- Calls in memory. -/
def CRow (w : World) (a : Option Addr) (n : Nat) : Prop := ∀ i, i < n → ∃ (b off : Nat) (k m g l : Int), a = some ⟨b, off, none⟩ ∧ w.cell? ⟨b, off + i * 4, none⟩ = some (.int .i64 k) ∧ w.cell? ⟨b, off + i * 4 + 1, none⟩ = some (.int .i64 m) ∧ w.cell? ⟨b, off + i * 4 + 2, none⟩ = some (.int .i64 g) ∧ w.cell? ⟨b, off + i * 4 + 3, none⟩ = some (.int .i64 l)
theorem R2.newD (w : World) (x y : Value) (T : TypeId) : R2 (w.alloc (Obj.cells #[x, y] T)).drew w.heap.size x y := ⟨by simp [go_sem], by simp [go_sem], by simp [go_sem], by simp [go_sem]⟩
/-- Both readers. -/
structure Lk (W w : World) (q b6 : Nat) (s : ByteArray) (e : Int) : Prop where
  rd : Rd q s e w
  x : R2 w b6 (.string s) (.int .i64 e)
  sz : s.size ≤ 3000
  d : Below W.heap.size W w
theorem Lk.below {W w w' : World} {q b6 : Nat} {s : ByteArray} {e : Int} (h : Lk W w q b6 s e) (hb : Below w.heap.size w w') : Lk W w' q b6 s e := ⟨h.rd.below hb, h.x.below hb, h.sz, h.d.trans (hb.mono h.d.size)⟩
/-- Behind the call: the reader, the document's one as it was, and the new one. -/
structure Lm (W w : World) (q b6 b8 : Nat) (s s2 : ByteArray) (e e2 : Int) : Prop where
  rd : Rd q s2 e2 w
  x : R2 w b6 (.string s) (.int .i64 e)
  y0 : w.cell? ⟨b8, 0, none⟩ = some (.string s2)
  y1 : w.cell? ⟨b8, 1, none⟩ = some (.int .i64 e2)
  sz : s2.size ≤ 3000
  d : Below W.heap.size W w
set_option maxHeartbeats 4000000 in
set_option maxRecDepth 100000 in
theorem os_long (s : ByteArray) (a : Option Addr) (n cap : Nat) (h3 : 3000 < s.size) (W : World) : Calls Try.prog 3 #[.string s, .slice a n cap] W fun e w' => e = .returned (.bool true) ∧ Below W.heap.size W w' := by
  have AW := hidR awake_any
  have q3 : (3000 : Int) < (s.size : Int) := by omega
  clear h3
  go_enter Try.func3, Try.ntmps3
  go_wp2_with (go_at_call 5; refine (AW.out _).mono ?_; rintro e w1 ⟨rfl, hb1⟩)
  go_ret
  exact ⟨rfl, hb1⟩
set_option maxHeartbeats 20000000 in
set_option maxRecDepth 100000 in
theorem os_any (s : ByteArray) (a : Option Addr) (n cap : Nat) (hs : s.size ≤ 3000) (W : World) (hr : CRow W a n) : Calls Try.prog 3 #[.string s, .slice a n cap] W fun e w' => e = .returned (.bool true) ∧ Below W.heap.size W w' := by
  have AW := hidR awake_any
  have HC := hidR hr
  have q3 : ¬ (3000 : Int) < (s.size : Int) := by omega
  have HRA := hidR (fun (q : Nat) (s : ByteArray) (hs : s.size ≤ 3000) (e k m g l : Int) (v : World) (h : Rd q s e v) => read_all q s hs e k m g l v h)
  have HS := hidR hs
  clear hr
  go_enter Try.func3, Try.ntmps3
  go_upto_region 5 with (go_at_call 6; refine (read_any s _).mono ?_; rintro e w1 ⟨rfl, rfl⟩)
  have KS : Hid (Lk W ((W.alloc (Obj.cells #[.string s, .int .i64 0] 58)).alloc (Obj.cells #[.string s, .int .i64 0] 27)) W.heap.size (W.heap.size + 1) s 0) := ⟨(rd_new s W).below ((Below.refl _ _).alloc (Nat.le_refl _) _), ⟨by simp [go_sem], by simp [go_sem], by simp [go_sem], by simp [go_sem]⟩, HS.out, by go_grown⟩
  generalize ((W.alloc (Obj.cells #[.string s, .int .i64 0] 58)).alloc (Obj.cells #[.string s, .int .i64 0] 27)) = w0 at *
  obtain ⟨b6, hb6⟩ : ∃ b6, b6 = W.heap.size + 1 := ⟨_, rfl⟩
  rw [← hb6] at KS ⊢
  obtain ⟨q, hq⟩ : ∃ q, q = W.heap.size := ⟨_, rfl⟩
  rw [← hq] at KS ⊢
  have HQB := hidR (And.intro hq hb6)
  clear hq hb6 HS
  go_wp2_with fail
  go_loopw [7] (fun u wr => ∃ (i : Nat) (s' : ByteArray) (e' : Int), i ≤ n ∧ i ≤ 30 ∧ u = .int .i64 i ∧ Hid (Lk W wr q b6 s' e')) (fun u _ => 30 - (intOf u).toNat)
  case atStart => exact ⟨0, s, 0, Nat.zero_le _, Nat.zero_le _, rfl, KS.out⟩
  case round =>
    obtain ⟨i, s', e', hi, hi30, rfl, HK⟩ := hrel
    clear KS
    by_cases hlt : i < n ∧ i < 30
    · have i1 : (i : Int) < (n : Int) := by omega
      have i2 : (i : Int) < 30 := by omega
      have i0' : (0 : Int) ≤ (i : Int) := by omega
      obtain ⟨bc, oc, k, m, g, l, rfl, d0, d1, d2, d3⟩ := HC.out i hlt.1
      have bcl : bc < W.heap.size := cell_lt d0
      have D := hidR (fun (v : World) (hb : Below W.heap.size W v) => And.intro ((hb.cell (p := ⟨bc, oc + i * 4, none⟩) bcl).trans d0) (And.intro ((hb.cell (p := ⟨bc, oc + i * 4 + 1, none⟩) bcl).trans d1) (And.intro ((hb.cell (p := ⟨bc, oc + i * 4 + 2, none⟩) bcl).trans d2) ((hb.cell (p := ⟨bc, oc + i * 4 + 3, none⟩) bcl).trans d3))))
      clear d0 d1 d2 d3
      have hqlt : q < wr.heap.size := HK.out.rd.lt
      have h6lt : b6 < wr.heap.size := cell_lt HK.out.x.c0
      have q6 : q ≠ b6 := by have := HQB.out; omega
      go_upto_region 8 with fail
      go_cut [8, 9] (fun p8 p9 wx => ∃ (b8 : Nat) (s2 : ByteArray) (e2 : Int), p8 = .pointer (some ⟨b8, 0, none⟩) ∧ p9 = .bool true ∧ Hid (Lm W wx q b6 b8 s' s2 e' e2))
      case first =>
        obtain ⟨x0, x1, _, _⟩ := HK.out.x
        obtain ⟨d0, d1, d2, d3⟩ := D.out wr HK.out.d
        have n5 : ¬ wr.heap.size = b6 := by omega
        have n6 : ¬ b6 = wr.heap.size := by omega
        have n7 : ¬ wr.heap.size = bc := by have := HK.out.d.size; omega
        have n8 : ¬ bc = wr.heap.size := by have := HK.out.d.size; omega
        go_region_held3 (fun w => w.cell? ⟨b6, 0, none⟩ = some (.string s') ∧ w.cell? ⟨b6, 1, none⟩ = some (.int .i64 e') ∧ w.cell? ⟨bc, oc + i * 4, none⟩ = some (.int .i64 k) ∧ w.cell? ⟨bc, oc + i * 4 + 1, none⟩ = some (.int .i64 m) ∧ w.cell? ⟨bc, oc + i * 4 + 2, none⟩ = some (.int .i64 g) ∧ w.cell? ⟨bc, oc + i * 4 + 3, none⟩ = some (.int .i64 l)) (first | (go_keep; done) | (exact ⟨by simp [go_sem, *], by simp [go_sem, *], by simp [go_sem, *], by simp [go_sem, *], by simp [go_sem, *], by simp [go_sem, *]⟩)) (first | (go_at_call 7; refine (HRA.out q s' HK.out.sz e' k m g l _ (Lk.below HK.out (by first | exact (Below.refl _ _).drew | go_grown)).rd).mono ?_; rintro r w2 ⟨s2, e2, rfl, st, hsz⟩; have R8 := R2.blk (R2.newD wr (.string ⟨#[]⟩) (.int .i64 0) 27) (st.rest wr.heap.size (cell_lt (R2.newD wr (.string ⟨#[]⟩) (.int .i64 0) 27).c0) (by omega)); have R9 := hidR R8; clear R8; have KL : Hid (Rd q s2 e2 w2 ∧ R2 w2 b6 (.string s') (.int .i64 e') ∧ s2.size ≤ 3000 ∧ Below W.heap.size W w2) := ⟨st.here, (Lk.below HK.out (by first | exact (Below.refl _ _).drew | go_grown)).x.blk (st.rest b6 (cell_lt (Lk.below HK.out (by first | exact (Below.refl _ _).drew | go_grown)).x.c0) (fun e => q6 e.symm)), Nat.le_trans hsz HK.out.sz, st.belowO (Lk.below HK.out (by first | exact (Below.refl _ _).drew | go_grown)).d (by have := HQB.out; omega)⟩; clear st hsz x0 x1 d0 d1 d2 d3; obtain ⟨x0, x1, _, _⟩ := KL.out.2.1; obtain ⟨d0, d1, d2, d3⟩ := D.out w2 KL.out.2.2.2; have m1 := Nat.ne_of_gt (cell_lt x0); have m2 := Nat.ne_of_gt (cell_lt d0); have m3 := Nat.ne_of_lt (cell_lt x0); have m4 := Nat.ne_of_lt (cell_lt d0); obtain ⟨y0, y1, z0, z1⟩ := R9.out) | (go_at_call 7; refine (HRA.out q s' HK.out.sz e' k m g l _ (Lk.below HK.out (by first | exact (Below.refl _ _).drew | go_grown)).rd).mono ?_; rintro r w2 ⟨s2, e2, rfl, st, hsz⟩; have KL : Hid (Rd q s2 e2 w2 ∧ R2 w2 b6 (.string s') (.int .i64 e') ∧ s2.size ≤ 3000 ∧ Below W.heap.size W w2) := ⟨st.here, (Lk.below HK.out (by first | exact (Below.refl _ _).drew | go_grown)).x.blk (st.rest b6 (cell_lt (Lk.below HK.out (by first | exact (Below.refl _ _).drew | go_grown)).x.c0) (fun e => q6 e.symm)), Nat.le_trans hsz HK.out.sz, st.belowO (Lk.below HK.out (by first | exact (Below.refl _ _).drew | go_grown)).d (by have := HQB.out; omega)⟩; clear st hsz x0 x1 d0 d1 d2 d3; obtain ⟨x0, x1, _, _⟩ := KL.out.2.1; obtain ⟨d0, d1, d2, d3⟩ := D.out w2 KL.out.2.2.2; have m1 := Nat.ne_of_gt (cell_lt x0); have m2 := Nat.ne_of_gt (cell_lt d0); have m3 := Nat.ne_of_lt (cell_lt x0); have m4 := Nat.ne_of_lt (cell_lt d0)))
        · go_wp2_with fail
          go_meet
          refine ⟨w2.heap.size, s2, e2, rfl, rfl, ?_⟩
          have BZ : Below w2.heap.size w2 (w2.alloc (Obj.cells #[.string s2, .int .i64 e2] 27)) := (Below.refl _ _).alloc (Nat.le_refl _) _
          exact ⟨KL.out.1.below BZ, KL.out.2.1.below BZ, by simp [go_sem], by simp [go_sem], KL.out.2.2.1, KL.out.2.2.2.trans (BZ.mono KL.out.2.2.2.size)⟩
        · go_wp2_with fail
          go_meet
          refine ⟨wr.heap.size, s2, e2, rfl, rfl, ?_⟩
          have hk : ∀ i, i ≠ wr.heap.size → ((w2.setCell ⟨wr.heap.size, 0, none⟩ (.string s2)).setCell ⟨wr.heap.size, 1, none⟩ (.int .i64 e2)).heap[i]? = w2.heap[i]? := fun i hi => (Below.heap_setCell _ _ _ _ hi).trans (Below.heap_setCell _ _ _ _ hi)
          have hWr : W.heap.size ≤ wr.heap.size := HK.out.d.size
          exact ⟨(hk q (by omega)).trans KL.out.1, KL.out.2.1.blk (hk b6 (by omega)), (R9.out.set _ _).c0, (R9.out.set _ _).c1, KL.out.2.2.1, (KL.out.2.2.2.setCell (by simpa using hWr) _).setCell (by simpa using hWr) _⟩
      case rest =>
        obtain ⟨b8, s2, e2, rfl, rfl, HL⟩ := hcut
        clear HK D
        have y0 := HL.out.y0
        have y1 := HL.out.y1
        obtain ⟨x0, x1, f0, f1⟩ := HL.out.x
        have HF := hidR (fun v (h : Rd q s2 e2 v) => rd_Fail q s2 e2 v h)
        have HL9 := hidR (fun v (h : Rd q s2 e2 v) => rd_Left q s2 e2 v h)
        have HE9 := hidR (fun v (h : Rd q s2 e2 v) => rd_End q s2 e2 v h)
        have HRE := hidR (rR_end s2 e2)
        have KM : Hid (Lk W ((wc.setCell ⟨b6, 0, none⟩ (.string s2)).setCell ⟨b6, 1, none⟩ (.int .i64 e2)) q b6 s2 e2) := ⟨((Below.heap_setCell _ _ _ _ (by simpa using q6)).trans (Below.heap_setCell _ _ _ _ (by simpa using q6))).trans HL.out.rd, HL.out.x.set _ _, HL.out.sz, (HL.out.d.setCell (by have := HQB.out; simp; omega) _).setCell (by have := HQB.out; simp; omega) _⟩
        go_upto_region 11 with fail
        generalize ((wc.setCell ⟨b6, 0, none⟩ (.string s2)).setCell ⟨b6, 1, none⟩ (.int .i64 e2)) = Y at *
        clear HL x0 x1 f0 f1 y0 y1
        obtain ⟨x0, x1, f0, f1⟩ := KM.out.x
        go_region_held3 (fun w => w.cell? ⟨b6, 0, none⟩ = some (.string s2) ∧ w.cell? ⟨b6, 1, none⟩ = some (.int .i64 e2)) (first | (go_keep; done) | (exact ⟨by simp [go_sem, *], by simp [go_sem, *]⟩)) (first
          | (go_at_call 8; refine (HF.out _ (by first | exact KM.out.rd | exact (KM.out.below (Below.refl _ _).drew).rd)).mono ?_; rintro r w3 ⟨rfl, rfl⟩)
          | (go_at_call 9; refine (HL9.out _ (by first | exact KM.out.rd | exact (KM.out.below (Below.refl _ _).drew).rd)).mono ?_; rintro r w3 ⟨rfl, rfl⟩)
          | (go_at_call 10; refine (HE9.out _ (by first | exact KM.out.rd | exact (KM.out.below (Below.refl _ _).drew).rd)).mono ?_; rintro r w3 ⟨rfl, rfl⟩)
          | (go_at_call 11; refine (HRE.out.go _).mono ?_; rintro r w4 ⟨rfl, hb4⟩; have K4 := hidR (KM.out.below ((Below.refl _ _).drew.trans hb4)); clear hb4 KM x0 x1 f0 f1; obtain ⟨x0, x1, f0, f1⟩ := K4.out.x))
        go_wp2_with fail
        exact ⟨⟨i + 1, s2, e2, hlt.1, hlt.2, by go_num, K4.out⟩, by simp [intOf]; omega⟩
    · have HB := HK.out.d
      by_cases hin : i < n
      · have i2 : ¬ (i : Int) < 30 := by omega
        have i1 : (i : Int) < (n : Int) := by omega
        clear hlt
        go_wp2_with (go_at_call 5; refine (AW.out _).mono ?_; rintro e w7 ⟨rfl, hb7⟩)
        go_ret
        exact ⟨rfl, HB.trans (hb7.mono HB.size)⟩
      · have i1 : ¬ (i : Int) < (n : Int) := by omega
        clear hlt
        go_wp2_with (go_at_call 5; refine (AW.out _).mono ?_; rintro e w7 ⟨rfl, hb7⟩)
        go_ret
        exact ⟨rfl, HB.trans (hb7.mono HB.size)⟩
end Go.Proofs.Ytccpbpajappckaa
