/- The contract of expr.degree over the seat's translation. -/
import Derived.Test.YtfhojakhoobnhaaPExC
import Derived.Test.YtfhojakhoobnhaaPSlC
namespace Go.Proofs.Ytfhojakhoobnhaa
open Go.RowKit

/-- The row of degrees, a step in its box, and what lay there. -/
structure Dx (W w : World) (g L : Nat) (f : Nat → Value) (q : Nat) (k a b : Int) (v : Nat × Nat) : Prop where
  row : w.rowIs g 3 L f
  k : w.cell? ⟨q, 0, none⟩ = some (.int .i64 k)
  a : w.cell? ⟨q, 1, none⟩ = some (.int .i64 a)
  b : w.cell? ⟨q, 2, none⟩ = some (.int .i64 b)
  h : w.cell? ⟨q, 3, none⟩ = some (.int .u64 (v.1 : Int))
  l : w.cell? ⟨q, 4, none⟩ = some (.int .u64 (v.2 : Int))
  d : Below W.heap.size W w
theorem Dx.below {W w w' : World} {g L : Nat} {f : Nat → Value} {q : Nat} {k a b : Int} {v : Nat × Nat} (h : Dx W w g L f q k a b v) (hb : Below w.heap.size w w') : Dx W w' g L f q k a b v :=
  ⟨h.row.of_block (hb.block _ h.row.lt), keepc hb h.k, keepc hb h.a, keepc hb h.b, keepc hb h.h, keepc hb h.l, h.d.trans (hb.mono h.d.size)⟩
theorem Hid.mkX {p : Prop} (h : p) : Hid p := h
theorem frm_ahead {o : Stp} {n : Int} (h : frm o n = true) (hk : o.k = 3 ∨ o.k = 4) : (0 ≤ o.a ∧ o.a < n) ∧ (0 ≤ o.b ∧ o.b < n) := by
  unfold frm at h
  rw [if_neg (by omega), if_neg (by omega), if_pos hk] at h
  have := of_decide_eq_true h
  exact ⟨this.1, this.2.1⟩
theorem hnI_frm {lv vr n : Int} {o : Stp} (h : hnI lv vr n o = 0) : frm o n = true := by
  unfold hnI at h
  by_cases hf : frm o n = true
  · exact hf
  · rw [if_neg hf] at h; exact absurd h (by decide)
set_option maxHeartbeats 20000000 in
set_option maxRecDepth 100000 in
theorem xdeg (lv vr : Int) (sa : Option Addr) (cap : Nat) (l : List Stp) (hl : ∀ o ∈ l, o.ok) (hm : l.length ≤ 100000) (W : World) (hR : ORow W sa l) :
    Calls Try.prog 82 #[.int .i64 lv, .int .i64 vr, .slice sa l.length cap] W fun e w' => e = .returned (.tuple #[.int .i64 (if chk lv vr l = 0 then (dfun l (l.length - 1) : Int) else 0), .int .i64 (chk lv vr l)]) ∧ Below W.heap.size W w' := by
  have HL : Hid (Ret 103 #[.int .i64 lv] (.bool (decide (0 ≤ lv ∧ lv ≤ 7)))) := xlevel lv
  by_cases h1 : 0 ≤ lv ∧ lv ≤ 7
  · rw [decide_eq_true h1] at HL
    by_cases h2 : 0 ≤ vr
    · have g2 : ¬ vr < 0 := by omega
      by_cases h3 : l.length = 0
      · rw [show chk lv vr l = 3 by unfold chk; rw [if_pos ⟨h1, h2⟩, if_pos h3], if_neg (by decide)]
        have g3 : ((l.length : Int) == 0) = true := by rw [beq_iff_eq]; omega
        clear hl hR h1 h2 h3
        go_enter Try.func82, Try.ntmps82
        go_wp2_with (go_at_call 103; refine (HL.out.go _).mono ?_; rintro e w1 ⟨rfl, hb1⟩)
        refine bodyPost_ret (v := .tuple #[.int .i64 0, .int .i64 3]) (by simp [results, Try.results82, go_sem, *]) rfl ⟨rfl, hb1⟩
      · have g3 : ((l.length : Int) == 0) = false := by rw [beq_eq_false_iff_ne]; omega
        by_cases h4 : 200 < l.length
        · rw [show chk lv vr l = 2 by unfold chk; rw [if_pos ⟨h1, h2⟩, if_neg h3, if_pos h4], if_neg (by decide)]
          have g4 : (200 : Int) < (l.length : Int) := by omega
          clear hl hR h1 h2 h3 h4
          go_enter Try.func82, Try.ntmps82
          go_wp2_with (go_at_call 103; refine (HL.out.go _).mono ?_; rintro e w1 ⟨rfl, hb1⟩)
          refine bodyPost_ret (v := .tuple #[.int .i64 0, .int .i64 2]) (by simp [results, Try.results82, go_sem, *]) rfl ⟨rfl, hb1⟩
        · have hc : chk lv vr l = chkF lv vr l l.length := by unfold chk; rw [if_pos ⟨h1, h2⟩, if_neg h3, if_neg h4]
          rw [hc]
          obtain ⟨zz, hzz⟩ : ∃ z : Int, z = (if chkF lv vr l l.length = 0 then (dfun l (l.length - 1) : Int) else 0) := ⟨_, rfl⟩
          rw [← hzz]
          obtain ⟨cc, hcc⟩ : ∃ c : Int, c = chkF lv vr l l.length := ⟨_, rfl⟩
          rw [← hcc]
          have HZ : Hid (cc = chkF lv vr l l.length ∧ zz = (if chkF lv vr l l.length = 0 then (dfun l (l.length - 1) : Int) else 0)) := ⟨hcc, hzz⟩
          clear hzz hcc
          have g4 : ¬ (200 : Int) < (l.length : Int) := by omega
          obtain ⟨i0, hi, hz0, hz1, hz2⟩ := info_int1
          have HN : Hid (Try.prog.info? 3 = some i0 ∧ i0.zero = some (.int .i64 0) ∧ i0.size = 1 ∧ i0.bytes = 8) := ⟨hi, hz0, hz1, hz2⟩
          have HR : Hid (ORow W sa l ∧ ∀ o ∈ l, o.ok) := ⟨hR, hl⟩
          have h200 : l.length ≤ 200 := by omega
          have h0 : 0 < l.length := by omega
          clear hi hz0 hz1 hz2 hl hR h1 h2 h3 h4 hc hm
          go_enter Try.func82, Try.ntmps82
          go_wp2_with (first | (go_at_call 103; refine (HL.out.go _).mono ?_; rintro e w1 ⟨rfl, hb1⟩; have D1 : Hid (Below W.heap.size W w1) := hb1; clear hb1) | (at_make; refine wpList_make_full _ rfl _ _ 64 rfl 0 3 i0 (.int .i64 0) 1 Try.underlying64 HN.out.1 HN.out.2.1 HN.out.2.2.1 .i64 .i64 _ _ l.length rfl rfl rfl rfl (by rw [HN.out.2.2.2]; omega) (by simp only [maxLen]; omega) (Nat.zero_le _) ?_; intro w2 own2 hgr2))
          have D2 : Hid (Below W.heap.size W w2) := D1.out.grown hgr2 D1.out.size (fun k hk => by cases hk)
          obtain ⟨f0, R0⟩ := own_rowN own2
          have hg : W.heap.size ≤ w1.heap.size := D1.out.size
          clear own2 hgr2 HN D1
          generalize w1.heap.size = g at *
          go_loopw [33] (fun u wr => ∃ (i : Nat) (f : Nat → Value), i ≤ l.length ∧ u = .int .i64 i ∧ wr.rowIs g 3 l.length f ∧ Hid (chkF lv vr l i = 0 ∧ ∀ p, p < i → f p = .int .i64 (dfun (l.take i) p : Nat)) ∧ Below W.heap.size W wr) (fun u _ => l.length - (intOf u).toNat)
          case atStart => exact ⟨0, f0, Nat.zero_le _, rfl, R0, ⟨rfl, fun p hp => by omega⟩, D2.out⟩
          case round =>
            obtain ⟨i, f, hil, rfl, hRr, HF, hD⟩ := hrel
            clear R0 D2
            by_cases hlt : i < l.length
            · obtain ⟨b0, off, rfl, hb0, c0, c1, c2, c3, c4⟩ := HR.out.1.cells i hlt
              have hok : (l.getD i zst).ok := HR.out.2 _ (by rw [show l.getD i zst = l[i] by simp [hlt]]; exact List.getElem_mem hlt)
              have HH := Hid.mkX (xhind lv vr (i : Int) (l.getD i zst) hok)
              have HE : Hid (er lv vr l i = if hnI lv vr (i : Int) (l.getD i zst) = 0 then (if 8 < dg (l.getD i zst) (dfun (l.take i)) then 7 else 0) else hnI lv vr (i : Int) (l.getD i zst)) := rfl
              have HS : Hid (hnI lv vr (i : Int) (l.getD i zst) = 0 → ∀ w, (∀ p, p < i → w.cell? ⟨g, p, none⟩ = some (.int .i64 (dfun (l.take i) p : Nat))) → Calls Try.prog 105 #[(l.getD i zst).val, .slice (some ⟨g, 0, none⟩) l.length l.length] w fun e w' => e = .returned (.int .i64 (dg (l.getD i zst) (dfun (l.take i)) : Nat)) ∧ Below w.heap.size w w') := fun h w hw => xstep g l.length i (dfun (l.take i)) (dfun_le (by omega) HF.out.1) (l.getD i zst) (by omega) (fun hk => frm_ahead (hnI_frm h) hk) w hw
              have HW : Hid (dfun (l.take (i + 1)) i = dg (l.getD i zst) (dfun (l.take i))) := dfun_new hlt
              have C0 := keepc hD c0
              have C1 := keepc hD c1
              have C2 := keepc hD c2
              have C3 := keepc hD c3
              have C4 := keepc hD c4
              have HDr : Hid (wr.rowIs g 3 l.length f ∧ Below W.heap.size W wr) := ⟨hRr, hD⟩
              clear c0 c1 c2 c3 c4 hRr hD hok hb0
              unfold Stp.val at HH HS
              generalize l.getD i zst = o at *
              obtain ⟨k, a, b, v⟩ := o
              dsimp only at *
              have b1 : (i : Int) < (l.length : Int) := by omega
              have b2 : (0 : Int) ≤ (i : Int) := by omega
              have X1 : Hid (Dx W (wr.alloc (Obj.cells #[.int .i64 k, .int .i64 a, .int .i64 b, .int .u64 (v.1 : Int), .int .u64 (v.2 : Int)] 91)) g l.length f wr.heap.size k a b v) := by
                have hb := (Below.refl wr.heap.size wr).alloc (Nat.le_refl _) (Obj.cells #[.int .i64 k, .int .i64 a, .int .i64 b, .int .u64 (v.1 : Int), .int .u64 (v.2 : Int)] 91)
                exact ⟨HDr.out.1.of_block (hb.block _ HDr.out.1.lt), by simp [go_sem], by simp [go_sem], by simp [go_sem], by simp [go_sem], by simp [go_sem], HDr.out.2.trans (hb.mono HDr.out.2.size)⟩
              by_cases hE : hnI lv vr (i : Int) ⟨k, a, b, v⟩ = 0
              · have HS2 := HS.out hE
                rw [hE] at HH
                rw [if_pos hE] at HE
                have HS : Hid (∀ w, (∀ p, p < i → w.cell? ⟨g, p, none⟩ = some (.int .i64 (dfun (l.take i) p : Nat))) → Calls Try.prog 105 #[.agg #[.int .i64 k, .int .i64 a, .int .i64 b, .int .u64 (v.1 : Int), .int .u64 (v.2 : Int)], .slice (some ⟨g, 0, none⟩) l.length l.length] w fun e w' => e = .returned (.int .i64 (dg ⟨k, a, b, v⟩ (dfun (l.take i)) : Nat)) ∧ Below w.heap.size w w') := HS2
                clear HS2 hE
                generalize dg ⟨k, a, b, v⟩ (dfun (l.take i)) = D at *
                by_cases h8 : 8 < D
                · have HC : Hid (chkF lv vr l l.length = 7) := by
                    rw [if_pos h8] at HE
                    show _ = _
                    rw [chkF_at HF.out.1 (by rw [HE.out]; decide) hlt, HE.out]
                  have h8' : (8 : Int) < (D : Int) := by omega
                  clear h8 HE HW
                  go_wp2_with (first | (go_at_call 104; refine (HH.out.go _).mono ?_; rintro e w2 ⟨rfl, hb2⟩; have X2 : Hid (Dx W w2 g l.length f wr.heap.size k a b v) := X1.out.below hb2; clear hb2; obtain ⟨_, cx0, cx1, cx2, cx3, cx4, _⟩ := X2.out) | (go_at_call 105; refine (HS.out _ (fun p hp => by rw [X2.out.row.cell (i := p) (by omega), HF.out.2 p hp])).mono ?_; rintro e w3 ⟨rfl, hb3⟩; have X3 : Hid (Dx W w3 g l.length f wr.heap.size k a b v) := X2.out.below hb3; clear hb3 cx0 cx1 cx2 cx3 cx4; have y1 := X3.out.row.cell (i := i) hlt; have y0 := X3.out.row.frozen i))
                  refine bodyPost_ret (v := .tuple #[.int .i64 0, .int .i64 7]) (by simp [results, Try.results82, go_sem, *]) rfl ⟨?_, ?_⟩
                  · rw [HZ.out.1, HZ.out.2, HC.out]; rfl
                  · exact X3.out.d.setCell hg _
                · have HC : Hid (chkF lv vr l (i + 1) = 0) := by
                    rw [if_neg h8] at HE
                    show _ = _
                    rw [chkF, if_pos HF.out.1, HE.out]
                  have h8' : ¬ (8 : Int) < (D : Int) := by omega
                  clear h8 HE
                  go_wp2_with (first | (go_at_call 104; refine (HH.out.go _).mono ?_; rintro e w2 ⟨rfl, hb2⟩; have X2 : Hid (Dx W w2 g l.length f wr.heap.size k a b v) := X1.out.below hb2; clear hb2; obtain ⟨_, cx0, cx1, cx2, cx3, cx4, _⟩ := X2.out) | (go_at_call 105; refine (HS.out _ (fun p hp => by rw [X2.out.row.cell (i := p) (by omega), HF.out.2 p hp])).mono ?_; rintro e w3 ⟨rfl, hb3⟩; have X3 : Hid (Dx W w3 g l.length f wr.heap.size k a b v) := X2.out.below hb3; clear hb3 cx0 cx1 cx2 cx3 cx4; have y1 := X3.out.row.cell (i := i) hlt; have y0 := X3.out.row.frozen i))
                  refine ⟨⟨i + 1, _, hlt, by simp, X3.out.row.set i _, ⟨HC.out, fun p hp => ?_⟩, X3.out.d.setCell hg _⟩, by simp [intOf]; omega⟩
                  by_cases hpi : p = i
                  · subst hpi
                    rw [if_pos rfl, HW.out]
                  · rw [if_neg hpi, HF.out.2 p (by omega), dfun_old hlt (by omega)]
              · have HC : Hid (chkF lv vr l l.length = hnI lv vr (i : Int) ⟨k, a, b, v⟩) := by
                  rw [if_neg hE] at HE
                  show _ = _
                  rw [chkF_at HF.out.1 (by rw [HE.out]; exact hE) hlt, HE.out]
                clear HE HS HW
                generalize hnI lv vr (i : Int) ⟨k, a, b, v⟩ = E at *
                have hE' : (E != 0) = true := by simp [hE]
                go_wp2_with (go_at_call 104; refine (HH.out.go _).mono ?_; rintro e w2 ⟨rfl, hb2⟩; have X2 : Hid (Dx W w2 g l.length f wr.heap.size k a b v) := X1.out.below hb2; clear hb2; obtain ⟨_, cx0, cx1, cx2, cx3, cx4, _⟩ := X2.out)
                refine bodyPost_ret (v := .tuple #[.int .i64 0, .int .i64 E]) (by simp [results, Try.results82, go_sem, *]) rfl ⟨?_, ?_⟩
                · rw [HZ.out.1, HZ.out.2, HC.out, if_neg hE]
                · exact X2.out.d
            · obtain rfl : i = l.length := by omega
              have r1 := hRr.cell (i := l.length - 1) (by omega)
              rw [HF.out.2 _ (by omega), List.take_of_length_le (Nat.le_refl _)] at r1
              have e1 : IntKind.i64.wrap ((l.length : Int) - 1) = ((l.length - 1 : Nat) : Int) := by rw [IntKind.wrap_i64]; omega
              have e2 : (l.length : Int) - 1 = ((l.length - 1 : Nat) : Int) := by omega
              have hDD : Hid (Below W.heap.size W wr) := hD
              have HC : Hid (chkF lv vr l l.length = 0) := HF.out.1
              obtain ⟨m, hm⟩ : ∃ m, m = l.length - 1 := ⟨_, rfl⟩
              rw [← hm] at r1 e1 e2
              have HY : Hid (dfun l (l.length - 1) = dfun l m) := by rw [hm]; rfl
              have b3 : (m : Int) < (l.length : Int) := by omega
              have b4 : (0 : Int) ≤ (m : Int) := by omega
              clear hRr HF hD HR hm
              generalize dfun l m = y at *
              go_wp2_with fail
              refine bodyPost_ret (v := .tuple #[.int .i64 (y : Int), .int .i64 0]) (by simp [results, Try.results82, go_sem, *]) rfl ⟨?_, hDD.out⟩
              rw [HZ.out.1, HZ.out.2, HC.out, if_pos rfl, HY.out]
    · rw [show chk lv vr l = 1 by unfold chk; rw [if_neg (fun h => h2 h.2)], if_neg (by decide)]
      have g2 : vr < 0 := by omega
      clear hl hR h1 h2
      go_enter Try.func82, Try.ntmps82
      go_wp2_with (go_at_call 103; refine (HL.out.go _).mono ?_; rintro e w1 ⟨rfl, hb1⟩)
      refine bodyPost_ret (v := .tuple #[.int .i64 0, .int .i64 1]) (by simp [results, Try.results82, go_sem, *]) rfl ⟨rfl, hb1⟩
  · rw [decide_eq_false h1] at HL
    rw [show chk lv vr l = 1 by unfold chk; rw [if_neg (fun h => h1 h.1)], if_neg (by decide)]
    clear hl hR h1
    go_enter Try.func82, Try.ntmps82
    go_wp2_with (go_at_call 103; refine (HL.out.go _).mono ?_; rintro e w1 ⟨rfl, hb1⟩)
    refine bodyPost_ret (v := .tuple #[.int .i64 0, .int .i64 1]) (by simp [results, Try.results82, go_sem, *]) rfl ⟨rfl, hb1⟩
end Go.Proofs.Ytfhojakhoobnhaa

/- Contracts of expr.Check, Degree and Uses over the seat's translation. -/
namespace Go.Proofs.Ytfhojakhoobnhaa
open Go.RowKit

theorem xcheck (lv vr : Int) (sa : Option Addr) (cap : Nat) (l : List Stp) (hl : ∀ o ∈ l, o.ok) (hm : l.length ≤ 100000) (W : World) (hR : ORow W sa l) :
    Calls Try.prog 54 #[.int .i64 lv, .int .i64 vr, .slice sa l.length cap] W fun e w' => e = .returned (.int .i64 (chk lv vr l)) ∧ Below W.heap.size W w' := by
  have H := Hid.mkX (xdeg lv vr sa cap l hl hm W hR)
  clear hl hR
  generalize (if chk lv vr l = 0 then (dfun l (l.length - 1) : Int) else 0) = z at *
  generalize chk lv vr l = c at *
  go_enter Try.func54, Try.ntmps54
  go_wp2_with (go_at_call 82; refine H.out.mono ?_; rintro e w1 ⟨rfl, hb1⟩)
  go_ret
  exact ⟨rfl, hb1⟩
theorem xdegree (sa : Option Addr) (cap : Nat) (l : List Stp) (hl : ∀ o ∈ l, o.ok) (hm : l.length ≤ 100000) (W : World) (hR : ORow W sa l) :
    Calls Try.prog 85 #[.slice sa l.length cap] W fun e w' => e = .returned (.int .i64 (if chk 7 9223372036854775807 l = 0 then (dfun l (l.length - 1) : Int) else -1)) ∧ Below W.heap.size W w' := by
  have H := Hid.mkX (xdeg 7 9223372036854775807 sa cap l hl hm W hR)
  clear hl hR
  by_cases hc : chk 7 9223372036854775807 l = 0
  · rw [hc, if_pos rfl] at H
    rw [if_pos hc]
    clear hc
    generalize dfun l (l.length - 1) = y at *
    go_enter Try.func85, Try.ntmps85
    go_wp2_with (go_at_call 82; refine H.out.mono ?_; rintro e w1 ⟨rfl, hb1⟩)
    go_ret
    exact ⟨rfl, hb1⟩
  · rw [if_neg hc] at H
    rw [if_neg hc]
    generalize chk 7 9223372036854775807 l = c at *
    have hc' : (c != 0) = true := by simp [hc]
    go_enter Try.func85, Try.ntmps85
    go_wp2_with (go_at_call 82; refine H.out.mono ?_; rintro e w1 ⟨rfl, hb1⟩)
    go_ret
    exact ⟨rfl, hb1⟩
/-- Is the variable n one of the steps? -/
def usesB (l : List Stp) (n : Int) : Bool := l.any fun o => decide (o.k = 2 ∧ o.a = n)
end Go.Proofs.Ytfhojakhoobnhaa

/- Contracts of expr.allOf and value over the seat's translation; values of steps, no Go in sight. -/
namespace Go.Proofs.Ytfhojakhoobnhaa
open Go.RowKit
open Cb
open Tw (pm)

set_option maxHeartbeats 2000000 in
/-- Are all elements of a level? -/
theorem xall (l : Int) (a : Option Addr) (cap : Nat) (es : List (Nat × Nat)) (hes : ltE es) (W : World) (hr : ERow W a es) (h10 : es.length ≤ 100000) :
    Calls Try.prog 55 #[.int .i64 l, .slice a es.length cap] W fun e w' => e = .returned (.bool (es.all fun e => ofB l (e.1 : Int) (e.2 : Int))) ∧ Below W.heap.size W w' := by
  have HR : Hid (ERow W a es) := hr
  have HO : Hid (∀ j : Nat, Ret 64 #[.int .i64 l, .agg #[.int .u64 ((es.getD j (0, 0)).1 : Int), .int .u64 ((es.getD j (0, 0)).2 : Int)]] (.bool (ofB l ((es.getD j (0, 0)).1 : Int) ((es.getD j (0, 0)).2 : Int)))) := fun j => of_ret l _ _ (hes.at j).2
  clear hr hes
  go_enter Try.func55, Try.ntmps55
  go_wp2_with fail
  go_loopw [9] (fun u wr => ∃ j : Nat, j ≤ es.length ∧ u = .int .i64 j ∧ Hid ((es.take j).all (fun e => ofB l (e.1 : Int) (e.2 : Int)) = true) ∧ Below W.heap.size W wr) (fun u _ => es.length - (intOf u).toNat)
  case atStart => exact ⟨0, Nat.zero_le _, rfl, (by rfl), Below.refl _ _⟩
  case round =>
    obtain ⟨j, hj, rfl, HT, hD⟩ := hrel
    by_cases hlt : j < es.length
    · obtain ⟨b, off, rfl, hb, c1, c0⟩ := HR.out.cells j hlt
      have d1 : wr.cell? ⟨b, off + j * 2, none⟩ = some (.int .u64 ((es.getD j (0, 0)).1 : Nat)) := by rw [hD.cell (p := ⟨b, off + j * 2, none⟩) hb]; exact c1
      have d0 : wr.cell? ⟨b, off + j * 2 + 1, none⟩ = some (.int .u64 ((es.getD j (0, 0)).2 : Nat)) := by rw [hD.cell (p := ⟨b, off + j * 2 + 1, none⟩) hb]; exact c0
      have H1 := HO.out j
      have HD : Hid (Below W.heap.size W wr) := hD
      have HS : Hid (es.take (j + 1) = es.take j ++ [es.getD j (0, 0)]) := take_sn es j hlt
      have HM : Hid (es.getD j (0, 0) ∈ es) := by show _ ∈ _; rw [show es.getD j (0, 0) = es[j] by simp [hlt]]; exact List.getElem_mem hlt
      clear hD c1 c0 HR HO
      generalize es.getD j (0, 0) = x at *
      rcases hB : ofB l (x.1 : Int) (x.2 : Int) with _ | _
      · rw [hB] at H1
        go_wp2_with fail
        refine (H1.go _).mono ?_
        rintro e w4 ⟨rfl, hb4⟩
        have HD4 : Hid (Below W.heap.size W w4) := (HD.out.alloc HD.out.size _).trans (hb4.mono (by have := HD.out.size; simp; omega))
        clear hb4 d1 d0 HD
        go_wp2
        go_ret
        refine ⟨?_, HD4.out⟩
        rw [show (es.all fun e => ofB l (e.1 : Int) (e.2 : Int)) = false from by
          rw [List.all_eq_false]; exact ⟨x, HM.out, by rw [hB]; decide⟩]
        rfl
      · rw [hB] at H1
        go_wp2_with fail
        refine (H1.go _).mono ?_
        rintro e w4 ⟨rfl, hb4⟩
        have HD4 : Hid (Below W.heap.size W w4) := (HD.out.alloc HD.out.size _).trans (hb4.mono (by have := HD.out.size; simp; omega))
        clear hb4 d1 d0 HD
        go_wp2
        exact ⟨⟨j + 1, hlt, by simp, (by show _ = _; rw [HS.out, List.all_append, HT.out]; simp [hB]), HD4.out⟩, by simp [intOf]; omega⟩
    · have HD : Hid (Below W.heap.size W wr) := hD
      obtain rfl : j = es.length := by omega
      clear hD
      go_wp2
      go_ret
      refine ⟨?_, HD.out⟩
      have := HT.out
      rw [List.take_of_length_le (Nat.le_refl _)] at this
      rw [this]
      rfl
/-- The value of a step, from those of the steps ahead and of the variables. -/
def va (o : Stp) (d : Nat → Nat × Nat) (vs : List (Nat × Nat)) : Nat × Nat :=
  if o.k = 2 then el vs o.a.toNat else if o.k = 3 then xa (d o.a.toNat) (d o.b.toNat) else if o.k = 4 then pm (d o.a.toNat) (d o.b.toNat) else o.v
/-- Two numbers of a step, two elements of a row, and room for one. -/
structure Vst (W w : World) (g x y : Nat) (a b : Int) (p q : Nat × Nat) : Prop where
  a : w.cell? ⟨W.heap.size, 1, none⟩ = some (.int .i64 a)
  b : w.cell? ⟨W.heap.size, 2, none⟩ = some (.int .i64 b)
  p1 : w.cell? ⟨g, x * 2, none⟩ = some (.int .u64 (p.1 : Int))
  p2 : w.cell? ⟨g, x * 2 + 1, none⟩ = some (.int .u64 (p.2 : Int))
  q1 : w.cell? ⟨g, y * 2, none⟩ = some (.int .u64 (q.1 : Int))
  q2 : w.cell? ⟨g, y * 2 + 1, none⟩ = some (.int .u64 (q.2 : Int))
  r : Ew w (W.heap.size + 1) 0 0
  d : Below W.heap.size W w
theorem Vst.below {W w w' : World} {g x y : Nat} {a b : Int} {p q : Nat × Nat} (h : Vst W w g x y a b p q) (hb : Below w.heap.size w w') : Vst W w' g x y a b p q :=
  ⟨keepc hb h.a, keepc hb h.b, keepc hb h.p1, keepc hb h.p2, keepc hb h.q1, keepc hb h.q2, h.r.below hb, h.d.trans (hb.mono h.d.size)⟩
theorem Vst.drew {W w : World} {g x y : Nat} {a b : Int} {p q : Nat × Nat} (h : Vst W w g x y a b p q) : Vst W w.drew g x y a b p q := h.below (Below.refl _ _).drew
theorem Vst.facts {W w : World} {g x y : Nat} {a b : Int} {p q : Nat × Nat} (h : Vst W w g x y a b p q) :
    w.cell? ⟨W.heap.size, 1, none⟩ = some (.int .i64 a) ∧ w.cell? ⟨W.heap.size, 2, none⟩ = some (.int .i64 b) ∧ w.cell? ⟨g, x * 2, none⟩ = some (.int .u64 (p.1 : Int)) ∧ w.cell? ⟨g, x * 2 + 1, none⟩ = some (.int .u64 (p.2 : Int)) ∧ w.cell? ⟨g, y * 2, none⟩ = some (.int .u64 (q.1 : Int)) ∧ w.cell? ⟨g, y * 2 + 1, none⟩ = some (.int .u64 (q.2 : Int)) :=
  ⟨h.a, h.b, h.p1, h.p2, h.q1, h.q2⟩
set_option maxHeartbeats 8000000 in
set_option maxRecDepth 100000 in
theorem xval (m : Nat) (g L n : Nat) (d : Nat → Nat × Nat) (hd : ∀ p, lt2 (d p) ∧ ofE m (d p)) (o : Stp) (hn : n ≤ L) (hs : o.k = 3 ∨ o.k = 4 → (0 ≤ o.a ∧ o.a < n) ∧ (0 ≤ o.b ∧ o.b < n)) (sa : Option Addr) (cap : Nat) (vs : List (Nat × Nat)) (hv : o.k = 2 → 0 ≤ o.a ∧ o.a < vs.length) (W : World) (hr : ∀ p, p < n → W.cell? ⟨g, p * 2, none⟩ = some (.int .u64 ((d p).1 : Int)) ∧ W.cell? ⟨g, p * 2 + 1, none⟩ = some (.int .u64 ((d p).2 : Int))) (hV : ERow W sa vs) :
    Calls Try.prog 56 #[.int .i64 (m : Int), o.val, .slice (some ⟨g, 0, none⟩) L L, .slice sa vs.length cap] W fun e w' => e = .returned (.agg #[.int .u64 ((va o d vs).1 : Int), .int .u64 ((va o d vs).2 : Int)]) ∧ Below W.heap.size W w' := by
  obtain ⟨k, a, b, v⟩ := o
  unfold va Stp.val
  dsimp only at *
  by_cases h2 : k = 2
  · rw [if_pos h2]
    obtain ⟨ha0, ha1⟩ := hv h2
    subst h2
    obtain ⟨x, rfl⟩ : ∃ x : Nat, a = (x : Int) := ⟨a.toNat, by omega⟩
    obtain ⟨b0, off, rfl, hb0, c1, c0⟩ := hV.cells x (by omega)
    rw [Int.toNat_natCast]
    unfold el
    generalize vs.getD x (0, 0) = r at *
    have hb := ((Below.refl W.heap.size W).alloc (Nat.le_refl _) (Obj.cells #[.int .i64 2, .int .i64 (x : Int), .int .i64 b, .int .u64 (v.1 : Int), .int .u64 (v.2 : Int)] 91)).alloc (by simp) (Obj.cells #[.int .u64 0, .int .u64 0] 24)
    have d1 := keepc hb c1
    have d0 := keepc hb c0
    clear hr hd hs hv hV c1 c0 hb
    go_enter Try.func56, Try.ntmps56
    go_wp2
    refine bodyPost_ret (v := .agg #[.int .u64 (r.1 : Int), .int .u64 (r.2 : Int)]) (by simp [results, Try.results56, go_sem, *]) rfl ⟨rfl, ?_⟩
    go_grown
  · rw [if_neg h2]
    have g2 : (k == 2) = false := by rw [beq_eq_false_iff_ne]; exact h2
    by_cases h34 : k = 3 ∨ k = 4
    · obtain ⟨ha, hb⟩ := hs h34
      obtain ⟨x, rfl⟩ : ∃ x : Nat, a = (x : Int) := ⟨a.toNat, by omega⟩
      obtain ⟨y, rfl⟩ : ∃ y : Nat, b = (y : Int) := ⟨b.toNat, by omega⟩
      have hx : (x : Int) < (L : Int) := by omega
      have hy : (y : Int) < (L : Int) := by omega
      have hx0 : (0 : Int) ≤ (x : Int) := by omega
      have hy0 : (0 : Int) ≤ (y : Int) := by omega
      obtain ⟨r1, r2⟩ := hr x (by omega)
      obtain ⟨s1, s2⟩ := hr y (by omega)
      have e1 := hd x
      have e2 := hd y
      rw [Int.toNat_natCast, Int.toNat_natCast]
      generalize d x = p at *
      generalize d y = q at *
      have hgl : g < W.heap.size := cell_lt r1
      have hg : ¬ g = W.heap.size + 1 := by omega
      have hb0 := ((Below.refl W.heap.size W).alloc (Nat.le_refl _) (Obj.cells #[.int .i64 k, .int .i64 (x : Int), .int .i64 (y : Int), .int .u64 (v.1 : Int), .int .u64 (v.2 : Int)] 91)).alloc (by simp) (Obj.cells #[.int .u64 0, .int .u64 0] 24)
      have K : Vst W ((W.alloc (Obj.cells #[.int .i64 k, .int .i64 (x : Int), .int .i64 (y : Int), .int .u64 (v.1 : Int), .int .u64 (v.2 : Int)] 91)).alloc (Obj.cells #[.int .u64 0, .int .u64 0] 24)) g x y (x : Int) (y : Int) p q :=
        ⟨by simp [go_sem], by simp [go_sem], keepc hb0 r1, keepc hb0 r2, keepc hb0 s1, keepc hb0 s2, ⟨⟨by simp [go_sem], by simp [go_sem]⟩, by simp [go_sem], by simp [go_sem]⟩, hb0⟩
      have H1 : Hid (Ret 27 #[.agg #[.int .u64 (p.1 : Int), .int .u64 (p.2 : Int)], .agg #[.int .u64 (q.1 : Int), .int .u64 (q.2 : Int)]] (.agg #[.int .u64 ((xa p q).1 : Int), .int .u64 ((xa p q).2 : Int)])) := fun w => add_any _ _ _ _ e1.1.1 e1.1.2 e2.1.1 e2.1.2 w
      have H2 : Hid (Ret 83 #[.int .i64 (m : Int), .agg #[.int .u64 (p.1 : Int), .int .u64 (p.2 : Int)], .agg #[.int .u64 (q.1 : Int), .int .u64 (q.2 : Int)]] (.agg #[.int .u64 ((pm p q).1 : Int), .int .u64 ((pm p q).2 : Int)])) := by
        have := mul_any (m : Int) p q e1.1.1 e1.1.2 e2.1.1 e2.1.2
        rw [mulv_of e1.2 e2.2] at this
        exact this
      clear hr hd hs hv hV ha hb r1 r2 s1 s2 e1 e2 hb0 hgl hn
      by_cases h3 : k = 3
      · rw [if_pos h3]
        subst h3
        clear h34 H2
        generalize xa p q = r at *
        go_enter Try.func56, Try.ntmps56
        go_wp2_with fail
        generalize ((W.alloc (Obj.cells #[.int .i64 3, .int .i64 (x : Int), .int .i64 (y : Int), .int .u64 (v.1 : Int), .int .u64 (v.2 : Int)] 91)).alloc (Obj.cells #[.int .u64 0, .int .u64 0] 24)) = w3 at *
        have F := K.facts
        obtain ⟨⟨z1, z2⟩, z3, z4⟩ := K.r
        go_region_held3 (fun w => w.cell? ⟨W.heap.size, 1, none⟩ = some (.int .i64 (x : Int)) ∧ w.cell? ⟨W.heap.size, 2, none⟩ = some (.int .i64 (y : Int)) ∧ w.cell? ⟨g, x * 2, none⟩ = some (.int .u64 (p.1 : Int)) ∧ w.cell? ⟨g, x * 2 + 1, none⟩ = some (.int .u64 (p.2 : Int)) ∧ w.cell? ⟨g, y * 2, none⟩ = some (.int .u64 (q.1 : Int)) ∧ w.cell? ⟨g, y * 2 + 1, none⟩ = some (.int .u64 (q.2 : Int))) (first | (go_keep; done) | (obtain ⟨f1, f2, f3, f4, f5, f6⟩ := F; refine ⟨?_, ?_, ?_, ?_, ?_, ?_⟩ <;> simp [go_sem, *])) (first | (go_at_call 27; refine (H1.out.go _).mono ?_; rintro e w' ⟨rfl, hb'⟩; have K' := Vst.below (w' := w') (by first | exact K | exact K.drew) hb'; clear F K hb' z1 z2 z3 z4; have K := K'; clear K'; have F := K.facts; obtain ⟨⟨z1, z2⟩, z3, z4⟩ := K.r))
        go_wp2
        refine bodyPost_ret (v := .agg #[.int .u64 (r.1 : Int), .int .u64 (r.2 : Int)]) (by simp [results, Try.results56, go_sem, *]) rfl ⟨rfl, ?_⟩
        exact (K.d.setCell (by simp) _).setCell (by simp) _
      · rw [if_neg h3]
        have h4 : k = 4 := by omega
        rw [if_pos h4]
        subst h4
        clear h34 H1 h3
        generalize pm p q = r at *
        go_enter Try.func56, Try.ntmps56
        go_wp2_with fail
        generalize ((W.alloc (Obj.cells #[.int .i64 4, .int .i64 (x : Int), .int .i64 (y : Int), .int .u64 (v.1 : Int), .int .u64 (v.2 : Int)] 91)).alloc (Obj.cells #[.int .u64 0, .int .u64 0] 24)) = w3 at *
        have F := K.facts
        obtain ⟨⟨z1, z2⟩, z3, z4⟩ := K.r
        go_region_held3 (fun w => w.cell? ⟨W.heap.size, 1, none⟩ = some (.int .i64 (x : Int)) ∧ w.cell? ⟨W.heap.size, 2, none⟩ = some (.int .i64 (y : Int)) ∧ w.cell? ⟨g, x * 2, none⟩ = some (.int .u64 (p.1 : Int)) ∧ w.cell? ⟨g, x * 2 + 1, none⟩ = some (.int .u64 (p.2 : Int)) ∧ w.cell? ⟨g, y * 2, none⟩ = some (.int .u64 (q.1 : Int)) ∧ w.cell? ⟨g, y * 2 + 1, none⟩ = some (.int .u64 (q.2 : Int))) (first | (go_keep; done) | (obtain ⟨f1, f2, f3, f4, f5, f6⟩ := F; refine ⟨?_, ?_, ?_, ?_, ?_, ?_⟩ <;> simp [go_sem, *])) (first | (go_at_call 83; refine (H2.out.go _).mono ?_; rintro e w' ⟨rfl, hb'⟩; have K' := Vst.below (w' := w') (by first | exact K | exact K.drew) hb'; clear F K hb' z1 z2 z3 z4; have K := K'; clear K'; have F := K.facts; obtain ⟨⟨z1, z2⟩, z3, z4⟩ := K.r))
        go_wp2
        refine bodyPost_ret (v := .agg #[.int .u64 (r.1 : Int), .int .u64 (r.2 : Int)]) (by simp [results, Try.results56, go_sem, *]) rfl ⟨rfl, ?_⟩
        exact (K.d.setCell (by simp) _).setCell (by simp) _
    · rw [if_neg (fun h => h34 (.inl h)), if_neg (fun h => h34 (.inr h))]
      have g3 : (k == 3) = false := by rw [beq_eq_false_iff_ne]; exact fun h => h34 (.inl h)
      have g4 : (k == 4) = false := by rw [beq_eq_false_iff_ne]; exact fun h => h34 (.inr h)
      clear hr hd hs hv hV h34 h2
      go_enter Try.func56, Try.ntmps56
      go_wp2
      refine bodyPost_ret (v := .agg #[.int .u64 (v.1 : Int), .int .u64 (v.2 : Int)]) (by simp [results, Try.results56, go_sem, *]) rfl ⟨rfl, ?_⟩
      go_grown
end Go.Proofs.Ytfhojakhoobnhaa
