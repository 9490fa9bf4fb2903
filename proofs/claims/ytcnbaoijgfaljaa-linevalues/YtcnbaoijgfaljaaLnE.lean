/- The contract of line.At over the seat's translation: what hinders, and the value. -/
import Derived.Test.YtcnbaoijgfaljaaLnC
import Derived.Test.YtcnbaoijgfaljaaLnD
namespace Go.Proofs.Ytcnbaoijgfaljaa
open Go.RowKit
open Cb Ln
open Tw (pm)

/-- Two boxes, and what lay there. -/
structure Ra (W w : World) (x : Nat × Nat) : Prop where
  x : Ew w W.heap.size x.1 x.2
  r : Ew w (W.heap.size + 1) 0 0
  d : Below W.heap.size W w
theorem Ra.below {W w w' : World} {x : Nat × Nat} (h : Ra W w x) (hb : Below w.heap.size w w') : Ra W w' x := ⟨h.x.below hb, h.r.below hb, h.d.trans (hb.mono h.d.size)⟩
theorem Ra.start (W : World) (x : Nat × Nat) : Ra W ((W.alloc (Obj.cells #[.int .u64 (x.1 : Int), .int .u64 (x.2 : Int)] 25)).alloc (Obj.cells #[.int .u64 0, .int .u64 0] 25)) x := by
  have e1 : Ew (W.alloc (Obj.cells #[.int .u64 (x.1 : Int), .int .u64 (x.2 : Int)] 25)) W.heap.size x.1 x.2 := ⟨⟨by simp [go_sem], by simp [go_sem]⟩, by simp [go_sem], by simp [go_sem]⟩
  exact ⟨e1.alloc _, ⟨⟨by simp [go_sem], by simp [go_sem]⟩, by simp [go_sem], by simp [go_sem]⟩, by go_grown⟩
theorem one_row {w : World} {b : Nat} {x : Nat × Nat} (h1 : w.cell? ⟨b, 0, none⟩ = some (.int .u64 (x.1 : Int))) (h2 : w.cell? ⟨b, 1, none⟩ = some (.int .u64 (x.2 : Int))) : ERow w (some ⟨b, 0, none⟩) [x] := ⟨fun i hi => by
  simp at hi
  have hb := cell_lt h1
  subst hi
  exact ⟨b, 0, rfl, hb, h1, h2⟩⟩
theorem row_elems {w : World} {b n : Nat} {T : TypeId} {g : Nat → Nat × Nat} (h : w.rowIs b T 18 (acell g)) (hn : n ≤ 9) (es : List (Nat × Nat)) (hl : es.length = n) (he : ∀ i, i < n → g i = el es i) : ERow w (some ⟨b, 0, none⟩) es := ⟨fun i hi => by
  have c1 := h.cell (i := i * 2) (by omega)
  have c0 := h.cell (i := i * 2 + 1) (by omega)
  unfold acell at c1 c0
  rw [if_pos (by omega), show i * 2 / 2 = i by omega, he i (by omega)] at c1
  rw [if_neg (by omega), show (i * 2 + 1) / 2 = i by omega, he i (by omega)] at c0
  exact ⟨b, 0, rfl, h.lt, by rw [Nat.zero_add]; exact c1, by rw [Nat.zero_add]; exact c0⟩⟩
theorem new_there (w : World) (g : Nat → Nat × Nat) : (w.alloc (.cells z18 64)).there w.heap.size 0 (ar g).toArray.size := by
  rw [show (ar g).toArray.size = 18 by rw [List.size_toArray, ar_len]]
  exact row_there (row_z w 64)
theorem new_ar {W w : World} {x : Nat × Nat} {n : Nat} {g : Nat → Nat × Nat} (h : Ra W w x) (hn : n ≤ 9) (hg : ∀ i, i < n → g i = fcv n i x) : Ra W ((w.alloc (.cells z18 64)).setCells w.heap.size 0 (ar g)) x ∧ ERow ((w.alloc (.cells z18 64)).setCells w.heap.size 0 (ar g)) (some ⟨w.heap.size, 0, none⟩) (fcs n x) :=
  ⟨h.below (below_setCells (Nat.le_refl _) _ _ _ ((Below.refl _ _).alloc (Nat.le_refl _) _)), row_elems (row_setAll (row_z w 64) g) hn _ (fcs_len n x) (fun i hi => by rw [hg i hi, fcs_el x hi])⟩
set_option maxHeartbeats 4000000 in
set_option maxRecDepth 100000 in
theorem lat_err (l : Int) (a : Option Addr) (cap : Nat) (t : List (Nat × Nat)) (x : Nat × Nat) (ht : ltE t) (hx : lt2 x) (h1 : t.length ≤ 1000) (E : Int) (hE : lhnd l ((t.length : Int) - 1) t [x] = E) (h0 : ¬ E = 0) (W : World) (ha : ERow W a t) :
    Calls Try.prog 10 #[.int .i64 l, .slice a t.length cap, .agg #[.int .u64 (x.1 : Int), .int .u64 (x.2 : Int)]] W fun e w' => e = .returned (.tuple #[.agg #[.int .u64 0, .int .u64 0], .int .i64 E]) ∧ Below W.heap.size W w' := by
  have hw : IntKind.i64.wrap ((t.length : Int) - 1) = (t.length : Int) - 1 := by rw [IntKind.wrap_i64]; omega
  have K0 : Hid (Ra W _ x) := Ra.start W x
  have HH : Hid (∀ (w : World) (b : Nat), Below W.heap.size W w → ERow w (some ⟨b, 0, none⟩) [x] → Calls Try.prog 33 #[.int .i64 l, .int .i64 ((t.length : Int) - 1), .slice a t.length cap, .slice (some ⟨b, 0, none⟩) 1 1] w fun e w' => e = .returned (.int .i64 E) ∧ Below w.heap.size w w') := fun w b hb hE' => by
    rw [← hE]
    exact lhind_any l _ a (some ⟨b, 0, none⟩) cap 1 t [x] ht (by intro e he; simp at he; subst he; exact hx) h1 (by simp) w (ha.below hb) hE'
  clear hE ha ht hx
  go_enter Try.func10, Try.ntmps10
  go_wp2_with (go_at_call 33; refine (HH.out _ _ (K0.out.d.alloc K0.out.d.size _) (one_row (by simp [go_sem]) (by simp [go_sem]))).mono ?_; rintro e w1 ⟨rfl, hb1⟩; have K1 : Hid (Ra W w1 x) := (K0.out.below ((Below.refl _ _).alloc (Nat.le_refl _) _)).below hb1; clear hb1; obtain ⟨⟨r1, r0⟩, t1, t0⟩ := K1.out.r)
  refine bodyPost_ret (v := .tuple #[.agg #[.int .u64 0, .int .u64 0], .int .i64 E]) (by simp [results, Try.results10, go_sem, *]) rfl ⟨rfl, ?_⟩
  exact below2 (p := W.heap.size + 1) K1.out.d (by omega) _ _
set_option maxHeartbeats 4000000 in
set_option maxRecDepth 100000 in
theorem lat_ok (k : Nat) (hk : k < 8) (a : Option Addr) (cap : Nat) (t : List (Nat × Nat)) (x : Nat × Nat) (ht : ltE t) (hx : lt2 x) (h0 : 0 < t.length) (h9 : t.length ≤ 9) (hf : fitB (k : Int) ((t.length : Int) - 1) = true) (ot : ofT k t) (ox : ofE k x) (W : World) (ha : ERow W a t) :
    Calls Try.prog 10 #[.int .i64 (k : Int), .slice a t.length cap, .agg #[.int .u64 (x.1 : Int), .int .u64 (x.2 : Int)]] W fun e w' => e = .returned (.tuple #[.agg #[.int .u64 ((atv t x).1 : Int), .int .u64 ((atv t x).2 : Int)], .int .i64 0]) ∧ Below W.heap.size W w' := by
  have hw : IntKind.i64.wrap ((t.length : Int) - 1) = (t.length : Int) - 1 := by rw [IntKind.wrap_i64]; omega
  have K0 : Hid (Ra W _ x) := Ra.start W x
  have hp : plk k t.length := fit_plk hk hf
  have HH : Hid (∀ (w : World) (b : Nat), Below W.heap.size W w → ERow w (some ⟨b, 0, none⟩) [x] → Calls Try.prog 33 #[.int .i64 (k : Int), .int .i64 ((t.length : Int) - 1), .slice a t.length cap, .slice (some ⟨b, 0, none⟩) 1 1] w fun e w' => e = .returned (.int .i64 0) ∧ Below w.heap.size w w') := fun w b hb hE' => by
    have := lhind_any (k : Int) ((t.length : Int) - 1) a (some ⟨b, 0, none⟩) cap 1 t [x] ht (by intro e he; simp at he; subst he; exact hx) (by omega) (by simp) w (ha.below hb) hE'
    rw [lhnd_ok hk h0 hf ot (by intro e he; simp at he; subst he; exact ox)] at this
    exact this
  have HF : Hid (∀ w, Calls Try.prog 34 #[.int .i64 (k : Int), .int .i64 (t.length : Int), .agg #[.int .u64 (x.1 : Int), .int .u64 (x.2 : Int)]] w fun e w' => ∃ g : Nat → Nat × Nat, (∀ i, i < t.length → g i = fcv t.length i x) ∧ e = .returned (.agg (ar g).toArray) ∧ Below w.heap.size w w') := fun w => factors_ok k hk t.length h9 x hx ox hp w
  have HD : Hid (∀ (w : World) (c : Option Addr) (cap2 : Nat), Below W.heap.size W w → ERow w c (fcs t.length x) → Calls Try.prog 35 #[.int .i64 (k : Int), .slice a t.length cap, .slice c t.length cap2] w fun e w' => e = .returned (.agg #[.int .u64 ((atv t x).1 : Int), .int .u64 ((atv t x).2 : Int)]) ∧ Below w.heap.size w w') := fun w c cap2 hb hc => by
    have := dot_any (k : Int) a c cap cap2 t (fcs t.length x) ht (ltE_fcs _ _) (by omega) w (ha.below hb) hc
    rw [fcs_len, dotv_rt (fcs_len _ _) (fun j hj => ⟨ot.el hk j, of_fcs hk hp ox j⟩)] at this
    exact this
  have HN : Hid (t.length ≤ 9) := h9
  have hn9 : (t.length : Int) ≤ 9 := by omega
  have hn0 : ¬ (t.length : Int) < 0 := by omega
  clear ha ht hx ot ox hf hp h0
  go_enter Try.func10, Try.ntmps10
  go_upto_region 4 with (go_at_call 33; refine (HH.out _ _ (K0.out.d.alloc K0.out.d.size _) (one_row (by simp [go_sem]) (by simp [go_sem]))).mono ?_; rintro e w1 ⟨rfl, hb1⟩; have K1 : Hid (Ra W w1 x) := (K0.out.below ((Below.refl _ _).alloc (Nat.le_refl _) _)).below hb1; clear hb1; obtain ⟨⟨x1, x0⟩, _, _⟩ := K1.out.x)
  go_wp2_with (first | (go_at_call 34; refine (HF.out _).mono ?_; rintro e w2 ⟨g, hg, rfl, hb2⟩; have K2 : Hid (Ra W w2 x ∧ ∀ i, i < t.length → g i = fcv t.length i x) := ⟨K1.out.below hb2, hg⟩; clear hb2 hg x1 x0 K1; have HI2 : Hid ((Try.prog.info? 64).map (·.size) = some (ar g).toArray.size) := info_ar2 g; have HI3 : Hid ((ar g).toArray.all (·.oneCell') = true) := one_ar g; have HT : Hid ((w2.alloc (.cells z18 64)).there w2.heap.size 0 (ar g).toArray.size) := new_there w2 g; have HC : Hid (Ra W ((w2.alloc (.cells z18 64)).setCells w2.heap.size 0 (ar g)) x ∧ ERow ((w2.alloc (.cells z18 64)).setCells w2.heap.size 0 (ar g)) (some ⟨w2.heap.size, 0, none⟩) (fcs t.length x)) := new_ar K2.out.1 HN.out K2.out.2; clear K2; unfold z18 at HC HT; generalize ar g = cs2 at *) | (refine wpList_store_mid rfl 64 _ _ rfl w2.heap.size 0 cs2.toArray rfl rfl HT.out HI2.out HI3.out ?_) | (go_at_call 35; refine (HD.out _ _ _ HC.out.1.d HC.out.2).mono ?_; rintro e w4 ⟨rfl, hb4⟩; have K4 : Hid (Ra W w4 x) := HC.out.1.below hb4; clear hb4; obtain ⟨⟨r1, r0⟩, t1, t0⟩ := K4.out.r))
  refine bodyPost_ret (v := .tuple #[.agg #[.int .u64 ((atv t x).1 : Int), .int .u64 ((atv t x).2 : Int)], .int .i64 0]) (by simp [results, Try.results10, go_sem, *]) rfl ⟨rfl, ?_⟩
  exact below2 (p := W.heap.size + 1) K4.out.d (by omega) _ _
end Go.Proofs.Ytcnbaoijgfaljaa
