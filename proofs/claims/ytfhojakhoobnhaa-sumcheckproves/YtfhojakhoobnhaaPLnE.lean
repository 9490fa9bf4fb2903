/- The document's side of layer 17 over the seat's translation: steepleref06.All, steepleref17.Fits, steeplelaw17.may. -/
import Derived.Test.YtfhojakhoobnhaaPCbB
import Derived.Test.YtfhojakhoobnhaaPRfF
import Derived.Test.YtfhojakhoobnhaaLnC
namespace Go.Proofs.Ytfhojakhoobnhaa
open Go.RowKit
open Cb Ln
open Tw (pm)

set_option maxHeartbeats 2000000 in
theorem lrall (l : Int) (a : Option Addr) (cap : Nat) (es : List (Nat × Nat)) (hes : ltE es) (W : World) (hr : ERow W a es) (h10 : es.length ≤ 100000) :
    Calls Try.prog 41 #[.int .i64 l, .slice a es.length cap] W fun e w' => e = .returned (.bool (es.all fun e => ofB l (e.1 : Int) (e.2 : Int))) ∧ Below W.heap.size W w' := by
  have HR : Hid (ERow W a es) := hr
  have HO : Hid (∀ j : Nat, Ret 19 #[.int .i64 l, .agg #[.int .u64 ((es.getD j (0, 0)).1 : Int), .int .u64 ((es.getD j (0, 0)).2 : Int)]] (.bool (ofB l ((es.getD j (0, 0)).1 : Int) ((es.getD j (0, 0)).2 : Int)))) := fun j => rof_any l _ _ (hes.at j).1 (hes.at j).2
  clear hr hes
  go_enter Try.func41, Try.ntmps41
  go_wp2_with fail
  go_loopw [5] (fun u wr => ∃ j : Nat, j ≤ es.length ∧ u = .int .i64 j ∧ Hid ((es.take j).all (fun e => ofB l (e.1 : Int) (e.2 : Int)) = true) ∧ Below W.heap.size W wr) (fun u _ => es.length - (intOf u).toNat)
  case atStart => exact ⟨0, Nat.zero_le _, rfl, (by rfl), Below.refl _ _⟩
  case round =>
    obtain ⟨j, hj, rfl, HT, hD⟩ := hrel
    by_cases hlt : j < es.length
    · obtain ⟨b, off, rfl, hb, c1, c0⟩ := HR.out.cells j hlt
      have d1 : wr.cell? ⟨b, off + j * 2, none⟩ = some (.int .u64 ((es.getD j (0, 0)).1 : Nat)) := by rw [hD.cell (p := ⟨b, off + j * 2, none⟩) hb]; exact c1
      have d0 : wr.cell? ⟨b, off + j * 2 + 1, none⟩ = some (.int .u64 ((es.getD j (0, 0)).2 : Nat)) := by rw [hD.cell (p := ⟨b, off + j * 2 + 1, none⟩) hb]; exact c0
      have H1 := HO.out j
      have HD : Hid (Below W.heap.size W wr) := hD
      have HS : Hid (es.take (j + 1) = es.take j ++ [es.getD j (0, 0)]) := take_sn es j hlt
      have HM : Hid (es.getD j (0, 0) ∈ es) := by show _ ∈ _; rw [show es.getD j (0, 0) = es[j] by simp [hlt]]; exact List.getElem_mem hlt
      clear hD c1 c0 HR HO
      generalize es.getD j (0, 0) = x at *
      rcases hB : ofB l (x.1 : Int) (x.2 : Int) with _ | _
      · rw [hB] at H1
        go_wp2_with fail
        refine (H1.go _).mono ?_
        rintro e w4 ⟨rfl, hb4⟩
        have HD4 : Hid (Below W.heap.size W w4) := HD.out.trans (hb4.mono HD.out.size)
        clear hb4 d1 d0 HD
        go_wp2
        go_ret
        refine ⟨?_, HD4.out⟩
        rw [show (es.all fun e => ofB l (e.1 : Int) (e.2 : Int)) = false from by
          rw [List.all_eq_false]; exact ⟨x, HM.out, by rw [hB]; decide⟩]
        rfl
      · rw [hB] at H1
        go_wp2_with fail
        refine (H1.go _).mono ?_
        rintro e w4 ⟨rfl, hb4⟩
        have HD4 : Hid (Below W.heap.size W w4) := HD.out.trans (hb4.mono HD.out.size)
        clear hb4 d1 d0 HD
        go_wp2
        exact ⟨⟨j + 1, hlt, by simp, (by show _ = _; rw [HS.out, List.all_append, HT.out]; simp [hB]), HD4.out⟩, by simp [intOf]; omega⟩
    · have HD : Hid (Below W.heap.size W wr) := hD
      obtain rfl : j = es.length := by omega
      clear hD
      go_wp2
      go_ret
      refine ⟨?_, HD.out⟩
      have := HT.out
      rw [List.take_of_length_le (Nat.le_refl _)] at this
      rw [this]
      rfl
theorem fit_no {l d : Int} (h : ¬ (0 ≤ l ∧ l ≤ 7) ∨ d < 0) : fitB l d = false := by
  unfold fitB ofB levelB
  rcases h with h | h
  · simp
    omega
  · rw [decide_eq_false (show ¬ (0 ≤ d ∧ d ≤ 8) by omega), Bool.false_and]
/-- The last degree that fits. -/
def many (k : Nat) : Int := if k = 0 then 1 else if k = 1 then 3 else 8
theorem fit_many (k : Nat) (hk : k < 8) {d : Int} (h : 0 ≤ d) : fitB (k : Int) d = decide (d ≤ many k) := by
  obtain ⟨n, rfl⟩ : ∃ n : Nat, d = (n : Int) := ⟨d.toNat, by omega⟩
  by_cases h8 : n ≤ 8
  · have : ∀ k, k < 8 → ∀ n, n < 9 → fitB (k : Nat) (n : Nat) = decide ((n : Int) ≤ many k) := by decide +kernel
    exact this k hk n (by omega)
  · unfold fitB
    rw [decide_eq_false (show ¬ (0 ≤ (n : Int) ∧ (n : Int) ≤ 8) by omega), Bool.false_and, decide_eq_false]
    unfold many
    split
    · omega
    · split <;> omega
theorem fit_plk {k n : Nat} (hk : k < 8) (h : fitB (k : Int) ((n : Int) - 1) = true) : Ln.plk k n := by
  intro j hj
  have h0 : 0 ≤ (n : Int) - 1 := by omega
  rw [fit_many k hk h0] at h
  have h1 := of_decide_eq_true h
  have h2 : fitB (k : Int) (j : Int) = true := by rw [fit_many k hk (by omega)]; exact decide_eq_true (by omega)
  unfold fitB at h2
  rw [Bool.and_eq_true] at h2
  exact h2.2
set_option maxHeartbeats 2000000 in
theorem rfits (l d : Int) : Ret 40 #[.int .i64 l, .int .i64 d] (.bool (fitB l d)) := by
  intro W
  by_cases hl : 0 ≤ l ∧ l ≤ 7
  · obtain ⟨k, rfl⟩ : ∃ k : Nat, l = (k : Int) := ⟨l.toNat, by omega⟩
    have h1 : ¬ (k : Int) < 0 := by omega
    have h2 : ¬ 7 < (k : Int) := by omega
    rcases Int.lt_or_le d 0 with hd | hd
    · rw [fit_no (.inr hd)]
      clear hl
      go_enter Try.func40, Try.ntmps40
      go_wp2
      go_ret
      exact ⟨rfl, by go_grown⟩
    · rw [fit_many k (by omega) hd]
      have hd' : ¬ d < 0 := by omega
      obtain rfl | rfl | rfl | rfl | rfl | rfl | rfl | rfl : k = 0 ∨ k = 1 ∨ k = 2 ∨ k = 3 ∨ k = 4 ∨ k = 5 ∨ k = 6 ∨ k = 7 := by omega
      all_goals
        simp only [many]
        clear hl h1 h2
        go_enter Try.func40, Try.ntmps40
        go_wp2
        go_ret
        exact ⟨by simp, by go_grown⟩
  · rw [fit_no (.inl hl)]
    rcases Int.lt_or_le l 0 with h1 | h1
    · clear hl
      go_enter Try.func40, Try.ntmps40
      go_wp2
      go_ret
      exact ⟨rfl, by go_grown⟩
    · have h2 : 7 < l := by omega
      have h3 : ¬ l < 0 := by omega
      clear hl
      go_enter Try.func40, Try.ntmps40
      go_wp2
      go_ret
      exact ⟨rfl, by go_grown⟩
/-- What hinders values. -/
def lmy (l : Int) (t : List (Nat × Nat)) : Int := lhnd l ((t.length : Int) - 1) t []
theorem lmy_zero {l : Int} {t : List (Nat × Nat)} (h : lmy l t = 0) : ∃ k : Nat, k < 8 ∧ l = (k : Int) ∧ 0 < t.length ∧ t.length ≤ 9 ∧ Ln.plk k t.length ∧ ofT k t ∧ fitB l ((t.length : Int) - 1) = true := by
  unfold lmy lhnd at h
  by_cases hl : 0 ≤ l ∧ l ≤ 7
  · rw [if_pos hl] at h
    by_cases hf : fitB l ((t.length : Int) - 1) = true ∧ t.length ≠ 0 ∧ (t.length : Int) ≤ (t.length : Int) - 1 + 1
    · rw [if_pos hf] at h
      by_cases ha : (t.all fun e => ofB l (e.1 : Int) (e.2 : Int)) = true ∧ (([] : List (Nat × Nat)).all fun e => ofB l (e.1 : Int) (e.2 : Int)) = true
      · obtain ⟨k, rfl⟩ : ∃ k : Nat, l = (k : Int) := ⟨l.toNat, by omega⟩
        have hk : k < 8 := by omega
        have h9 : t.length ≤ 9 := by
          have := hf.1
          unfold fitB at this
          rw [Bool.and_eq_true] at this
          have := of_decide_eq_true this.1
          omega
        exact ⟨k, hk, rfl, by omega, h9, fit_plk hk hf.1, fun e he => List.all_eq_true.1 ha.1 e he, hf.1⟩
      · rw [if_neg ha] at h; exact absurd h (by decide)
    · rw [if_neg hf] at h; exact absurd h (by decide)
  · rw [if_neg hl] at h; exact absurd h (by decide)
theorem lhnd_ok {k : Nat} (hk : k < 8) {t p : List (Nat × Nat)} (h0 : 0 < t.length) (hf : fitB (k : Int) ((t.length : Int) - 1) = true) (ot : ofT k t) (op : ofT k p) : lhnd (k : Int) ((t.length : Int) - 1) t p = 0 := by
  unfold lhnd
  rw [if_pos ⟨by omega, by omega⟩, if_pos ⟨hf, by omega, by omega⟩, if_pos ⟨List.all_eq_true.2 ot, List.all_eq_true.2 op⟩]
end Go.Proofs.Ytfhojakhoobnhaa

/- The contract of line.At over the seat's translation: what hinders, and the value. -/
namespace Go.Proofs.Ytfhojakhoobnhaa
open Go.RowKit
open Cb Ln
open Tw (pm)

/-- Two boxes, and what lay there. -/
structure Ra (W w : World) (x : Nat × Nat) : Prop where
  x : Ew w W.heap.size x.1 x.2
  r : Ew w (W.heap.size + 1) 0 0
  d : Below W.heap.size W w
theorem Ra.below {W w w' : World} {x : Nat × Nat} (h : Ra W w x) (hb : Below w.heap.size w w') : Ra W w' x := ⟨h.x.below hb, h.r.below hb, h.d.trans (hb.mono h.d.size)⟩
theorem Ra.start (W : World) (x : Nat × Nat) : Ra W ((W.alloc (Obj.cells #[.int .u64 (x.1 : Int), .int .u64 (x.2 : Int)] 24)).alloc (Obj.cells #[.int .u64 0, .int .u64 0] 24)) x := by
  have e1 : Ew (W.alloc (Obj.cells #[.int .u64 (x.1 : Int), .int .u64 (x.2 : Int)] 24)) W.heap.size x.1 x.2 := ⟨⟨by simp [go_sem], by simp [go_sem]⟩, by simp [go_sem], by simp [go_sem]⟩
  exact ⟨e1.alloc _, ⟨⟨by simp [go_sem], by simp [go_sem]⟩, by simp [go_sem], by simp [go_sem]⟩, by go_grown⟩
theorem one_row {w : World} {b : Nat} {x : Nat × Nat} (h1 : w.cell? ⟨b, 0, none⟩ = some (.int .u64 (x.1 : Int))) (h2 : w.cell? ⟨b, 1, none⟩ = some (.int .u64 (x.2 : Int))) : ERow w (some ⟨b, 0, none⟩) [x] := ⟨fun i hi => by
  simp at hi
  have hb := cell_lt h1
  subst hi
  exact ⟨b, 0, rfl, hb, h1, h2⟩⟩
theorem row_elems {w : World} {b n : Nat} {T : TypeId} {g : Nat → Nat × Nat} (h : w.rowIs b T 18 (acell g)) (hn : n ≤ 9) (es : List (Nat × Nat)) (hl : es.length = n) (he : ∀ i, i < n → g i = el es i) : ERow w (some ⟨b, 0, none⟩) es := ⟨fun i hi => by
  have c1 := h.cell (i := i * 2) (by omega)
  have c0 := h.cell (i := i * 2 + 1) (by omega)
  unfold acell at c1 c0
  rw [if_pos (by omega), show i * 2 / 2 = i by omega, he i (by omega)] at c1
  rw [if_neg (by omega), show (i * 2 + 1) / 2 = i by omega, he i (by omega)] at c0
  exact ⟨b, 0, rfl, h.lt, by rw [Nat.zero_add]; exact c1, by rw [Nat.zero_add]; exact c0⟩⟩
theorem new_there (w : World) (g : Nat → Nat × Nat) : (w.alloc (.cells z18 123)).there w.heap.size 0 (ar g).toArray.size := by
  rw [show (ar g).toArray.size = 18 by rw [List.size_toArray, ar_len]]
  exact row_there (row_z w 123)
theorem new_ar {W w : World} {x : Nat × Nat} {n : Nat} {g : Nat → Nat × Nat} (h : Ra W w x) (hn : n ≤ 9) (hg : ∀ i, i < n → g i = fcv n i x) : Ra W ((w.alloc (.cells z18 123)).setCells w.heap.size 0 (ar g)) x ∧ ERow ((w.alloc (.cells z18 123)).setCells w.heap.size 0 (ar g)) (some ⟨w.heap.size, 0, none⟩) (fcs n x) :=
  ⟨h.below (below_setCells (Nat.le_refl _) _ _ _ ((Below.refl _ _).alloc (Nat.le_refl _) _)), row_elems (row_setAll (row_z w 123) g) hn _ (fcs_len n x) (fun i hi => by rw [hg i hi, fcs_el x hi])⟩
set_option maxHeartbeats 4000000 in
set_option maxRecDepth 100000 in
theorem lat_err (l : Int) (a : Option Addr) (cap : Nat) (t : List (Nat × Nat)) (x : Nat × Nat) (ht : ltE t) (hx : lt2 x) (h1 : t.length ≤ 1000) (E : Int) (hE : lhnd l ((t.length : Int) - 1) t [x] = E) (h0 : ¬ E = 0) (W : World) (ha : ERow W a t) :
    Calls Try.prog 39 #[.int .i64 l, .slice a t.length cap, .agg #[.int .u64 (x.1 : Int), .int .u64 (x.2 : Int)]] W fun e w' => e = .returned (.tuple #[.agg #[.int .u64 0, .int .u64 0], .int .i64 E]) ∧ Below W.heap.size W w' := by
  have hw : IntKind.i64.wrap ((t.length : Int) - 1) = (t.length : Int) - 1 := by rw [IntKind.wrap_i64]; omega
  have K0 : Hid (Ra W _ x) := Ra.start W x
  have HH : Hid (∀ (w : World) (b : Nat), Below W.heap.size W w → ERow w (some ⟨b, 0, none⟩) [x] → Calls Try.prog 73 #[.int .i64 l, .int .i64 ((t.length : Int) - 1), .slice a t.length cap, .slice (some ⟨b, 0, none⟩) 1 1] w fun e w' => e = .returned (.int .i64 E) ∧ Below w.heap.size w w') := fun w b hb hE' => by
    rw [← hE]
    exact lhind_any l _ a (some ⟨b, 0, none⟩) cap 1 t [x] ht (by intro e he; simp at he; subst he; exact hx) h1 (by simp) w (ha.below hb) hE'
  clear hE ha ht hx
  go_enter Try.func39, Try.ntmps39
  go_wp2_with (go_at_call 73; refine (HH.out _ _ (K0.out.d.alloc K0.out.d.size _) (one_row (by simp [go_sem]) (by simp [go_sem]))).mono ?_; rintro e w1 ⟨rfl, hb1⟩; have K1 : Hid (Ra W w1 x) := (K0.out.below ((Below.refl _ _).alloc (Nat.le_refl _) _)).below hb1; clear hb1; obtain ⟨⟨r1, r0⟩, t1, t0⟩ := K1.out.r)
  refine bodyPost_ret (v := .tuple #[.agg #[.int .u64 0, .int .u64 0], .int .i64 E]) (by simp [results, Try.results39, go_sem, *]) rfl ⟨rfl, ?_⟩
  exact below2 (p := W.heap.size + 1) K1.out.d (by omega) _ _
set_option maxHeartbeats 4000000 in
set_option maxRecDepth 100000 in
theorem lat_ok (k : Nat) (hk : k < 8) (a : Option Addr) (cap : Nat) (t : List (Nat × Nat)) (x : Nat × Nat) (ht : ltE t) (hx : lt2 x) (h0 : 0 < t.length) (h9 : t.length ≤ 9) (hf : fitB (k : Int) ((t.length : Int) - 1) = true) (ot : ofT k t) (ox : ofE k x) (W : World) (ha : ERow W a t) :
    Calls Try.prog 39 #[.int .i64 (k : Int), .slice a t.length cap, .agg #[.int .u64 (x.1 : Int), .int .u64 (x.2 : Int)]] W fun e w' => e = .returned (.tuple #[.agg #[.int .u64 ((atv t x).1 : Int), .int .u64 ((atv t x).2 : Int)], .int .i64 0]) ∧ Below W.heap.size W w' := by
  have hw : IntKind.i64.wrap ((t.length : Int) - 1) = (t.length : Int) - 1 := by rw [IntKind.wrap_i64]; omega
  have K0 : Hid (Ra W _ x) := Ra.start W x
  have hp : plk k t.length := fit_plk hk hf
  have HH : Hid (∀ (w : World) (b : Nat), Below W.heap.size W w → ERow w (some ⟨b, 0, none⟩) [x] → Calls Try.prog 73 #[.int .i64 (k : Int), .int .i64 ((t.length : Int) - 1), .slice a t.length cap, .slice (some ⟨b, 0, none⟩) 1 1] w fun e w' => e = .returned (.int .i64 0) ∧ Below w.heap.size w w') := fun w b hb hE' => by
    have := lhind_any (k : Int) ((t.length : Int) - 1) a (some ⟨b, 0, none⟩) cap 1 t [x] ht (by intro e he; simp at he; subst he; exact hx) (by omega) (by simp) w (ha.below hb) hE'
    rw [lhnd_ok hk h0 hf ot (by intro e he; simp at he; subst he; exact ox)] at this
    exact this
  have HF : Hid (∀ w, Calls Try.prog 74 #[.int .i64 (k : Int), .int .i64 (t.length : Int), .agg #[.int .u64 (x.1 : Int), .int .u64 (x.2 : Int)]] w fun e w' => ∃ g : Nat → Nat × Nat, (∀ i, i < t.length → g i = fcv t.length i x) ∧ e = .returned (.agg (ar g).toArray) ∧ Below w.heap.size w w') := fun w => factors_ok k hk t.length h9 x hx ox hp w
  have HD : Hid (∀ (w : World) (c : Option Addr) (cap2 : Nat), Below W.heap.size W w → ERow w c (fcs t.length x) → Calls Try.prog 75 #[.int .i64 (k : Int), .slice a t.length cap, .slice c t.length cap2] w fun e w' => e = .returned (.agg #[.int .u64 ((atv t x).1 : Int), .int .u64 ((atv t x).2 : Int)]) ∧ Below w.heap.size w w') := fun w c cap2 hb hc => by
    have := dot_any (k : Int) a c cap cap2 t (fcs t.length x) ht (ltE_fcs _ _) (by omega) w (ha.below hb) hc
    rw [fcs_len, dotv_rt (fcs_len _ _) (fun j hj => ⟨ot.el hk j, of_fcs hk hp ox j⟩)] at this
    exact this
  have HN : Hid (t.length ≤ 9) := h9
  have hn9 : (t.length : Int) ≤ 9 := by omega
  have hn0 : ¬ (t.length : Int) < 0 := by omega
  clear ha ht hx ot ox hf hp h0
  go_enter Try.func39, Try.ntmps39
  go_upto_region 4 with (go_at_call 73; refine (HH.out _ _ (K0.out.d.alloc K0.out.d.size _) (one_row (by simp [go_sem]) (by simp [go_sem]))).mono ?_; rintro e w1 ⟨rfl, hb1⟩; have K1 : Hid (Ra W w1 x) := (K0.out.below ((Below.refl _ _).alloc (Nat.le_refl _) _)).below hb1; clear hb1; obtain ⟨⟨x1, x0⟩, _, _⟩ := K1.out.x)
  go_wp2_with (first | (go_at_call 74; refine (HF.out _).mono ?_; rintro e w2 ⟨g, hg, rfl, hb2⟩; have K2 : Hid (Ra W w2 x ∧ ∀ i, i < t.length → g i = fcv t.length i x) := ⟨K1.out.below hb2, hg⟩; clear hb2 hg x1 x0 K1; have HI2 : Hid ((Try.prog.info? 123).map (·.size) = some (ar g).toArray.size) := info_ar2 g; have HI3 : Hid ((ar g).toArray.all (·.oneCell') = true) := one_ar g; have HT : Hid ((w2.alloc (.cells z18 123)).there w2.heap.size 0 (ar g).toArray.size) := new_there w2 g; have HC : Hid (Ra W ((w2.alloc (.cells z18 123)).setCells w2.heap.size 0 (ar g)) x ∧ ERow ((w2.alloc (.cells z18 123)).setCells w2.heap.size 0 (ar g)) (some ⟨w2.heap.size, 0, none⟩) (fcs t.length x)) := new_ar K2.out.1 HN.out K2.out.2; clear K2; unfold z18 at HC HT; generalize ar g = cs2 at *) | (refine wpList_store_mid rfl 123 _ _ rfl w2.heap.size 0 cs2.toArray rfl rfl HT.out HI2.out HI3.out ?_) | (go_at_call 75; refine (HD.out _ _ _ HC.out.1.d HC.out.2).mono ?_; rintro e w4 ⟨rfl, hb4⟩; have K4 : Hid (Ra W w4 x) := HC.out.1.below hb4; clear hb4; obtain ⟨⟨r1, r0⟩, t1, t0⟩ := K4.out.r))
  refine bodyPost_ret (v := .tuple #[.agg #[.int .u64 ((atv t x).1 : Int), .int .u64 ((atv t x).2 : Int)], .int .i64 0]) (by simp [results, Try.results39, go_sem, *]) rfl ⟨rfl, ?_⟩
  exact below2 (p := W.heap.size + 1) K4.out.d (by omega) _ _
end Go.Proofs.Ytfhojakhoobnhaa
