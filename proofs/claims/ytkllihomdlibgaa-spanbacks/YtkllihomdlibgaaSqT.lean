/- The walk of steeplelaw04.SpanMaps over the seat's translation. -/
import Derived.Test.YtkllihomdlibgaaSqS
import Derived.Test.YtkllihomdlibgaaSqQ
import Derived.Test.YtkllihomdlibgaaPIvB
namespace Go.Proofs.Ytkllihomdlibgaa
open Go.RowKit
open Cb Rg Sq

theorem mdv_xa (m : List (Nat × Nat)) (x y : Nat × Nat) : ∀ n, mdv n m (xa x y) = xa (mdv n m x) (mdv n m y) := fun n => by
  unfold mdv
  rw [← xs_two]
  refine xs_congr n fun i _ => ?_
  rw [hs_xa, sl_xor]
theorem mdv_zero (m : List (Nat × Nat)) (n : Nat) : mdv n m (0, 0) = (0, 0) := by
  unfold mdv
  exact xs_none n fun i _ => by rw [hs_zero]; rfl
theorem mdv_sl (m : List (Nat × Nat)) (n : Nat) (b : Bool) (e : Nat × Nat) : mdv n m (sl b e) = sl b (mdv n m e) := by
  cases b
  · exact mdv_zero m n
  · rfl
theorem mdv_xs (m : List (Nat × Nat)) (n : Nat) (f : Nat → Nat × Nat) : ∀ k, mdv n m (xs k f) = xs k fun i => mdv n m (f i)
  | 0 => mdv_zero m n
  | k + 1 => by
    simp only [xs]
    rw [mdv_xa, mdv_xs m n f k]
/-- One map behind another one. -/
theorem mdv_then (m o : List (Nat × Nat)) (x : Nat × Nat) : mdv o.length o (mdv m.length m x) = mdv m.length (m.map (thM o)) x := by
  show mdv o.length o (xs m.length fun i => sl (hs x i) (el m i)) = xs m.length fun i => sl (hs x i) (el (m.map (thM o)) i)
  rw [mdv_xs]
  refine xs_congr _ fun i hi => ?_
  rw [mdv_sl, thm_at m o hi]
  rfl
theorem lng_xs {f : Nat → Nat × Nat} {n : Nat} (hl : ∀ i, lt2 (f i)) (h : ∀ i, lngE (f i) ≤ n) (k : Nat) : lngE (xs k f) ≤ n := by
  have lt := lt_xs (fun i => hl i) k
  by_cases h0 : xs k f = (0, 0)
  · rw [h0]; exact Nat.zero_le _
  · have h1 := hs_ld lt h0
    have h2 := lng_ld lt h0
    rcases Nat.lt_or_ge (ld (xs k f)) n with h3 | h3
    · omega
    · exfalso
      rw [hs_xs, bx_congr k (g := fun _ => false) fun i _ => hs_long (f i) (hl i) _ (by have := h i; omega)] at h1
      have : ∀ k, bx k (fun _ => false) = false := fun k => by
        induction k with
        | zero => rfl
        | succ k ih => unfold bx; rw [ih]; rfl
      rw [this] at h1; cases h1
/-- What the law says of maps that fit. -/
theorem maps_then {m o : List (Nat × Nat)} (hm : ltE m) {x : Nat × Nat} (h1 : apE m x = 0) (h2 : thE m o = 0) : apE o (apV m x) = 0 ∧ apE (thL m o) x = 0 ∧ apV o (apV m x) = apV (thL m o) x := by
  have a1 : ¬ 128 < m.length ∧ ¬ m.length < lngE x := by
    unfold apE at h1
    split at h1
    · cases h1
    · rename_i k; split at h1
      · cases h1
      · rename_i k2; exact ⟨k, k2⟩
  have a2 : ¬ 128 < o.length ∧ fitL m o.length = true := by
    unfold thE at h2
    split at h2
    · cases h2
    · rename_i k; split at h2
      · rename_i k2; exact ⟨by omega, k2⟩
      · cases h2
  have e1 : apV m x = mdv m.length m x := by unfold apV; rw [h1]; rfl
  have e2 : thL m o = m.map (thM o) := by unfold thL; rw [h2]; rfl
  have hf := (fitL_iff _ _).1 a2.2
  have l1 : lngE (mdv m.length m x) ≤ o.length := lng_xs (fun i => lt_sl (ltE_el hm i)) (fun i => by
    cases hs x i
    · exact Nat.zero_le _
    · show lngE (el m i) ≤ _
      by_cases hi : i < m.length
      · exact hf _ (el_lt hi)
      · rw [el_ge (by omega)]; exact Nat.zero_le _) _
  have h3 : apE o (mdv m.length m x) = 0 := by unfold apE; rw [if_neg a2.1, if_neg (by omega)]
  have h4 : apE (m.map (thM o)) x = 0 := by unfold apE; rw [List.length_map, if_neg a1.1, if_neg a1.2]
  rw [e1, e2]
  refine ⟨h3, h4, ?_⟩
  unfold apV
  rw [h3, h4, List.length_map]
  exact mdv_then m o x
/-- What Ref gave, as long as it is wanted. -/
def RefOk (m : List (Nat × Nat)) (w : World) (L : Nat → Bool) (v : Value) : Prop := L 1 = true → L 3 = false → ∃ a c, v = .slice a m.length c ∧ ERow w a m
theorem RefOk.step {m : List (Nat × Nat)} {w w' : World} {L : Nat → Bool} {v : Value} (h : RefOk m w L v) (i : Nat) (hi : i ≠ 1) (hb : Below w.heap.size w w') : RefOk m w' (setL L i) v := fun e1 e3 => by
  rw [setL_other L (Ne.symm hi)] at e1
  have e4 : L 3 = false := by
    by_cases k : 3 = i
    · subst k; rw [setL_same] at e3; cases e3
    · rwa [setL_other L k] at e3
  obtain ⟨a, c, e, hr⟩ := h e1 e4
  exact ⟨a, c, e, hr.below hb⟩
theorem RefOk.gone {m : List (Nat × Nat)} {w' : World} {L : Nat → Bool} {v : Value} (i : Nat) (hL : L 3 = true) : RefOk m w' (setL L i) v := fun _ e3 => by
  rw [setL_true hL] at e3; cases e3
/-- The law's elements in their boxes. -/
structure Lm (W w : World) (q7 q9 : Nat) (x v : Nat × Nat) : Prop where
  d : Below W.heap.size W w
  x : El w W.heap.size x.1 x.2
  a : El w q7 v.1 v.2
  b : El w q9 v.1 v.2
theorem Lm.below {W w w' : World} {q7 q9 : Nat} {x v : Nat × Nat} (h : Lm W w q7 q9 x v) (hb : Below w.heap.size w w') : Lm W w' q7 q9 x v := ⟨h.d.trans (hb.mono h.d.size), h.x.below hb, h.a.below hb, h.b.below hb⟩
set_option maxHeartbeats 16000000 in
set_option maxRecDepth 100000 in
theorem sms_any (s0 s1 : Option Addr) (cap0 cap1 : Nat) (m o : List (Nat × Nat)) (hm : ltE m) (ho : ltE o) (x : Nat × Nat) (hx : lt2 x) (W : World) (h0 : ERow W s0 m) (h1 : ERow W s1 o) :
    Calls Try.prog 6 #[.slice s0 m.length cap0, .slice s1 o.length cap1, .agg #[.int .u64 (x.1 : Int), .int .u64 (x.2 : Int)]] W fun e w' => e = .returned (.bool true) ∧ Below W.heap.size W w' := by
  have HA := hidT awake04
  obtain ⟨c, hc⟩ : ∃ c, c = decide ((40 < m.length ∧ m.length ≤ 128) ∨ (40 < o.length ∧ o.length ≤ 128) ∨ 200 < m.length ∨ 200 < o.length) := ⟨_, rfl⟩
  have HC := hidT hc
  have HL : Hid (c = false → m.length ≤ 200 ∧ o.length ≤ 200) := fun h => by
    rw [hc] at h
    simp at h
    omega
  clear hc
  have K0 : Hid (Below W.heap.size W (W.alloc (Obj.cells #[.int .u64 (x.1 : Int), .int .u64 (x.2 : Int)] 25)) ∧ El (W.alloc (Obj.cells #[.int .u64 (x.1 : Int), .int .u64 (x.2 : Int)] 25)) W.heap.size x.1 x.2) := ⟨(Below.refl _ _).alloc (Nat.le_refl _) _, ⟨by simp [go_sem], by simp [go_sem]⟩⟩
  go_enter Try.func6, Try.ntmps6
  go_upto_region 1 with fail
  generalize W.alloc (Obj.cells #[.int .u64 (x.1 : Int), .int .u64 (x.2 : Int)] 25) = w0 at *
  go_cut [46] (fun p wx => p = .bool c ∧ wx = w0)
  case first =>
    go_wp2_with fail
    all_goals go_meet
    all_goals (refine ⟨?_, rfl⟩; rw [HC.out]; congr 1; rw [Bool.eq_iff_iff]; simp; omega)
  case rest =>
    obtain ⟨rfl, rfl⟩ := hcut
    cases c
    · have hL := HL.out rfl
      have H1 : Hid (∀ w, Below W.heap.size W w → Calls Try.prog 25 #[.slice s0 m.length cap0, .agg #[.int .u64 (x.1 : Int), .int .u64 (x.2 : Int)]] w fun e w' => e = .returned (.tuple #[.agg #[.int .u64 ((apV m x).1 : Int), .int .u64 ((apV m x).2 : Int)], .int .i64 (apE m x)]) ∧ Below w.heap.size w w') := fun w hw => apply_all s0 cap0 m x hm hx w (h0.below hw)
      have HR0 : Hid (∀ w, Below W.heap.size W w → Calls Try.prog 11 #[.slice s0 m.length cap0] w fun e w' => ∃ a c, e = .returned (.slice a m.length c) ∧ ERow w' a m ∧ Below w.heap.size w w') := fun w hw => (sref_own s0 cap0 m (by omega) w (h0.below hw)).mono fun e w' ⟨a, c, e1, o, e3⟩ => by
        obtain ⟨a', c', e', r⟩ := own_row o
        injection e' with e' _ _; subst e'
        exact ⟨a, c, e1, r, e3⟩
      have HR1 : Hid (∀ w, Below W.heap.size W w → Calls Try.prog 11 #[.slice s1 o.length cap1] w fun e w' => ∃ a c, e = .returned (.slice a o.length c) ∧ ERow w' a o ∧ Below w.heap.size w w') := fun w hw => (sref_own s1 cap1 o (by omega) w (h1.below hw)).mono fun e w' ⟨a, c, e1, o, e3⟩ => by
        obtain ⟨a', c', e', r⟩ := own_row o
        injection e' with e' _ _; subst e'
        exact ⟨a, c, e1, r, e3⟩
      have H2 : Hid (∀ w a c, ERow w a m → Calls Try.prog 26 #[.slice a m.length c, .agg #[.int .u64 (x.1 : Int), .int .u64 (x.2 : Int)]] w fun e w' => e = .returned (.tuple #[.agg #[.int .u64 ((apV m x).1 : Int), .int .u64 ((apV m x).2 : Int)], .int .i64 (apE m x)]) ∧ Below w.heap.size w w') := fun w a c h => rapply_all a c m x hm hx w h
      have H3 : Hid (∀ w, Below W.heap.size W w → Calls Try.prog 27 #[.slice s0 m.length cap0, .slice s1 o.length cap1] w fun e w' => ∃ s cp, e = .returned (.tuple #[.slice s (thL m o).length cp, .int .i64 (thE m o)]) ∧ ERow w' s (thL m o) ∧ Below w.heap.size w w') := fun w hw => then_all s0 s1 cap0 cap1 m o hm ho w (h0.below hw) (h1.below hw)
      have H4 : Hid (∀ w a c a' c', ERow w a m → ERow w a' o → Calls Try.prog 28 #[.slice a m.length c, .slice a' o.length c'] w fun e w' => ∃ s cp, e = .returned (.tuple #[.slice s (thL m o).length cp, .int .i64 (thE m o)]) ∧ ERow w' s (thL m o) ∧ Below w.heap.size w w') := fun w a c a' c' h h' => rthen_all a a' c c' m o hm ho w h h'
      have H5 : Hid (∀ w, Below W.heap.size W w → Calls Try.prog 25 #[.slice s1 o.length cap1, .agg #[.int .u64 ((apV m x).1 : Int), .int .u64 ((apV m x).2 : Int)]] w fun e w' => e = .returned (.tuple #[.agg #[.int .u64 ((apV o (apV m x)).1 : Int), .int .u64 ((apV o (apV m x)).2 : Int)], .int .i64 (apE o (apV m x))]) ∧ Below w.heap.size w w') := fun w hw => apply_all s1 cap1 o _ ho (lt_apV hm x) w (h1.below hw)
      have H6 : Hid (∀ w a c, ERow w a (thL m o) → Calls Try.prog 25 #[.slice a (thL m o).length c, .agg #[.int .u64 (x.1 : Int), .int .u64 (x.2 : Int)]] w fun e w' => e = .returned (.tuple #[.agg #[.int .u64 ((apV (thL m o) x).1 : Int), .int .u64 ((apV (thL m o) x).2 : Int)], .int .i64 (apE (thL m o) x)]) ∧ Below w.heap.size w w') := fun w a c h => apply_all a c _ x (lt_thL m ho) hx w h
      have HEQ : Hid (apE m x = 0 → thE m o = 0 → apE o (apV m x) = 0 ∧ apE (thL m o) x = 0 ∧ apV o (apV m x) = apV (thL m o) x) := fun k1 k2 => maps_then hm k1 k2
      have hTL : (thL m o).length ≤ 200 := by
        unfold thL; split
        · rw [List.length_map]; exact hL.1
        · exact Nat.zero_le _
      clear hm ho hx h0 h1 HL HC
      generalize apE o (apV m x) = E1 at *
      generalize apE (thL m o) x = E2 at *
      generalize apV o (apV m x) = y1 at *
      generalize apV (thL m o) x = y2 at *
      generalize apE m x = E at *
      generalize apV m x = v at *
      generalize thE m o = F at *
      generalize thL m o = T at *
      have d1 := K0.out.2.hi
      have d0 := K0.out.2.lo
      go_wp2_with fail
      refine (H1.out _ K0.out.1).mono ?_
      rintro e w1 ⟨rfl, hb1⟩
      have K1 : Hid (Below W.heap.size W w1 ∧ El w1 W.heap.size x.1 x.2) := ⟨K0.out.1.trans (hb1.mono K0.out.1.size), K0.out.2.below hb1⟩
      clear hb1 K0 d1 d0
      go_upto_region 4 with fail
      have E5 : ∀ w, Below (w1.alloc (Obj.cells #[.int .u64 (v.1 : Int), .int .u64 (v.2 : Int)] 25)).heap.size (w1.alloc (Obj.cells #[.int .u64 (v.1 : Int), .int .u64 (v.2 : Int)] 25)) w → w.cell? ⟨W.heap.size, 0, none⟩ = some (.int .u64 (x.1 : Int)) ∧ w.cell? ⟨W.heap.size, 1, none⟩ = some (.int .u64 (x.2 : Int)) := fun w h => ⟨((K1.out.2.alloc _).below h).hi, ((K1.out.2.alloc _).below h).lo⟩
      have HB0 : Below W.heap.size W (w1.alloc (Obj.cells #[.int .u64 (v.1 : Int), .int .u64 (v.2 : Int)] 25)) := K1.out.1.alloc K1.out.1.size _
      have K1' : Hid (Below W.heap.size W w1 ∧ El w1 W.heap.size x.1 x.2 ∧ El (w1.alloc (Obj.cells #[.int .u64 (v.1 : Int), .int .u64 (v.2 : Int)] 25)) w1.heap.size v.1 v.2) := ⟨K1.out.1, K1.out.2, ⟨by simp [go_sem], by simp [go_sem]⟩⟩
      clear K1
      have K1 := K1'
      clear K1'
      generalize w1.alloc (Obj.cells #[.int .u64 (v.1 : Int), .int .u64 (v.2 : Int)] 25) = w0 at *
      obtain ⟨q7, hq7⟩ : ∃ q7, q7 = w1.heap.size := ⟨_, rfl⟩
      rw [← hq7] at K1 ⊢
      clear hq7
      obtain ⟨N, hN⟩ : ∃ N, N = w0.heap.size := ⟨_, rfl⟩
      refine wp_region_noPanic ?_
      refine wp_region_held_drew (S := fun w => w.cell? ⟨W.heap.size, 0, none⟩ = some (.int .u64 (x.1 : Int)) ∧ w.cell? ⟨W.heap.size, 1, none⟩ = some (.int .u64 (x.2 : Int))) (by kernel_rfl) (E5 _ (Below.refl _ _).drew) (fun hHeld => ?_)
      refine wpAnyH_take (i := 0) (oi := _) (v := ?_) rfl (by kernel_rfl) (by kernel_rfl) (by kernel_rfl) (fun _ _ _ h => h) (Or.inl ⟨by rfl, ?_⟩) (by assumption) ?_
      rotate_left
      · ((intro w hSw; (try dsimp only at hSw); go_simp) <;> (try with_reducible rfl))
      show wpAnyH _ _ _ _ _ _ _ (Act.put _ (some 55) _) _
      simp only [Act.put, List.setIfInBounds_toArray, List.set_cons_succ, List.set_cons_zero]
      refine wpAnyH_take (i := 2) (oi := _) (v := ?_) rfl (by kernel_rfl) (by kernel_rfl) (by kernel_rfl) (fun _ _ _ h => h) (Or.inl ⟨by rfl, ?_⟩) (by assumption) ?_
      rotate_left
      · ((intro w hSw; (try dsimp only at hSw); go_simp) <;> (try with_reducible rfl))
      show wpAnyH _ _ _ _ _ _ _ (Act.put _ (some 57) _) _
      simp only [Act.put, List.setIfInBounds_toArray, List.set_cons_succ, List.set_cons_zero]
      refine wpAnyH_inv (fun L ac w => ∃ (p9 v10 v54 v56 v58 v59 v60 : Value) (q9 : Nat), ac = { tmps := #[.slice s0 m.length cap0, .slice s1 o.length cap1, .agg #[.int .u64 (x.1 : Int), .int .u64 (x.2 : Int)], undef, undef, .pointer (some ⟨W.heap.size, 0, none⟩), .bool false, .pointer (some ⟨q7, 0, none⟩), .int .i64 E, p9, v10, undef, undef, undef, undef, undef, undef, undef, undef, u19, u20, u21, u22, u23, u24, u25, u26, u27, u28, u29, u30, u31, u32, u33, u34, u35, u36, u37, u38, u39, u40, u41, u42, u43, u44, u45, .bool false, u47, .tuple #[.agg #[.int .u64 (v.1 : Int), .int .u64 (v.2 : Int)], .int .i64 E], .slice s0 m.length cap0, .agg #[.int .u64 (x.1 : Int), .int .u64 (x.2 : Int)], .tuple #[.agg #[.int .u64 (v.1 : Int), .int .u64 (v.2 : Int)], .int .i64 E], .agg #[.int .u64 (v.1 : Int), .int .u64 (v.2 : Int)], .int .i64 E, v54, .slice s0 m.length cap0, v56, .agg #[.int .u64 (x.1 : Int), .int .u64 (x.2 : Int)], v58, v59, v60, u61, u62, u63, u64, u65, u66, u67, u68, u69, u70, u71, u72, u73, u74, u75, u76, u77, u78, u79, u80, u81, u82, u83, u84, u85, u86, u87, u88, u89, u90, u91, u92, u93, u94, u95, u96, u97, u98, u99, u100, u101, u102, u103, u104, u105, u106, u107, u108, u109, u110, u111, u112, u113, u114, u115, u116, u117, u118, u119, u120, u121, u122, u123, u124, u125, u126], defers := [] } ∧ Hid (([0, 2].all fun i => L i) = true ∧ (RefOk m w L v56) ∧ (L 3 = true → v58 = .tuple #[.agg #[.int .u64 (v.1 : Int), .int .u64 (v.2 : Int)], .int .i64 E]) ∧ (L 4 = true → v54 = .tuple #[.agg #[.int .u64 (v.1 : Int), .int .u64 (v.2 : Int)], .int .i64 E]) ∧ (L 5 = true → v59 = .agg #[.int .u64 (v.1 : Int), .int .u64 (v.2 : Int)]) ∧ (L 6 = true → v60 = .int .i64 E) ∧ (L 9 = true → v10 = .int .i64 E) ∧ (Vas N w L [⟨7, 8, q9, p9, v⟩]) ∧ (Below N w0 w))) (by kernel_rfl) ?hIS ?step ?done _ _ _ _ (by rfl) (by decide) ?init
      case hIS =>
        rintro L ac w ⟨_, _, _, _, _, _, _, _, rfl, hI⟩
        obtain ⟨hP, h1, h3, h4, h5, h6, h9, hV, hB⟩ := hI.out
        exact E5 _ (hN ▸ hB)
      case init =>
        exact ⟨undef, undef, u54, u56, u58, u59, u60, 0, rfl, by rfl, fun h => absurd h (by decide), fun h => absurd h (by decide), fun h => absurd h (by decide), fun h => absurd h (by decide), fun h => absurd h (by decide), fun h => absurd h (by decide), Vas.start (by simp), hN ▸ (Below.refl w0.heap.size w0).drew⟩
      case step =>
        rintro L ac w ⟨p9, v10, v54, v56, v58, v59, v60, q9, rfl, hI⟩
        refine (EachAt.cons (fun h _ => absurd (all_at hI.out.1 0 (by decide)) (by rw [show L 0 = false from h]; decide)) (EachAt.cons ?s1 (EachAt.cons (fun h _ => absurd (all_at hI.out.1 2 (by decide)) (by rw [show L 2 = false from h]; decide)) (EachAt.cons ?s3 (EachAt.cons ?s4 (EachAt.cons ?s5 (EachAt.cons ?s6 (EachAt.cons ?s7 (EachAt.cons ?s8 (EachAt.cons ?s9 EachAt.nil))))))))))
        case s1 =>
          intro hl hw
          have D := waits hw
          replace hl : L 1 = false := hl
          clear hw
          refine wpOp_shut (o := _) rfl (fun KK hKK => ?_)
          obtain ⟨hP, h1, h3, h4, h5, h6, h9, hV, hB⟩ := hI.out
          have hz : N ≤ w.heap.size := hN ▸ hB.size
          have HW : Below W.heap.size W w := HB0.trans (hB.mono (hN ▸ HB0.size))
          clear D hl
          go_simp
          (go_at_call 11; refine (HR0.out _ (by first | exact HW | exact HW.drew)).mono ?_; rintro e w9 ⟨a9, c9, rfl, hr9, hb⟩)
          exact hKK.out _ _ ⟨p9, v10, v54, _, v58, v59, v60, q9, rfl, all_setL 1 hP, fun _ _ => ⟨a9, c9, rfl, hr9⟩, setL_un (show 3 ≠ 1 by decide) h3, setL_un (show 4 ≠ 1 by decide) h4, setL_un (show 5 ≠ 1 by decide) h5, setL_un (show 6 ≠ 1 by decide) h6, setL_un (show 9 ≠ 1 by decide) h9, (hV.below hb).step (by simp [nums]), hB.trans (hb.mono hz)⟩
        case s3 =>
          intro hl hw
          have D := waits hw
          replace hl : L 3 = false := hl
          clear hw
          refine wpOp_shut (o := _) rfl (fun KK hKK => ?_)
          obtain ⟨hP, h1, h3, h4, h5, h6, h9, hV, hB⟩ := hI.out
          have hz : N ≤ w.heap.size := hN ▸ hB.size
          obtain ⟨a9, c9, rfl, hr9⟩ := h1 (D 1 (by decide)) hl
          clear D hl
          go_simp
          (go_at_call 26; refine (H2.out _ _ _ (by first | exact hr9 | exact hr9.drew)).mono ?_; rintro e w9 ⟨rfl, hb⟩)
          exact hKK.out _ _ ⟨p9, v10, v54, _, _, v59, v60, q9, rfl, all_setL 3 hP, h1.step 3 (by decide) hb, fun _ => rfl, setL_un (show 4 ≠ 3 by decide) h4, setL_un (show 5 ≠ 3 by decide) h5, setL_un (show 6 ≠ 3 by decide) h6, setL_un (show 9 ≠ 3 by decide) h9, (hV.below hb).step (by simp [nums]), hB.trans (hb.mono hz)⟩
        case s4 =>
          intro hl hw
          have D := waits hw
          replace hl : L 4 = false := hl
          clear hw
          refine wpOp_shut (o := _) rfl (fun KK hKK => ?_)
          obtain ⟨hP, h1, h3, h4, h5, h6, h9, hV, hB⟩ := hI.out
          obtain rfl := h3 (D 3 (by decide))
          clear D hl
          go_simp
          exact hKK.out _ _ ⟨p9, v10, _, v56, _, v59, v60, q9, rfl, all_setL 4 hP, h1.step 4 (by decide) (Below.refl _ _), setL_un (show 3 ≠ 4 by decide) h3, fun _ => rfl, setL_un (show 5 ≠ 4 by decide) h5, setL_un (show 6 ≠ 4 by decide) h6, setL_un (show 9 ≠ 4 by decide) h9, hV.step (by simp [nums]), hB⟩
        case s5 =>
          intro hl hw
          have D := waits hw
          replace hl : L 5 = false := hl
          clear hw
          refine wpOp_shut (o := _) rfl (fun KK hKK => ?_)
          obtain ⟨hP, h1, h3, h4, h5, h6, h9, hV, hB⟩ := hI.out
          obtain rfl := h4 (D 4 (by decide))
          clear D hl
          go_simp
          exact hKK.out _ _ ⟨p9, v10, _, v56, v58, _, v60, q9, rfl, all_setL 5 hP, h1.step 5 (by decide) (Below.refl _ _), setL_un (show 3 ≠ 5 by decide) h3, setL_un (show 4 ≠ 5 by decide) h4, fun _ => rfl, setL_un (show 6 ≠ 5 by decide) h6, setL_un (show 9 ≠ 5 by decide) h9, hV.step (by simp [nums]), hB⟩
        case s6 =>
          intro hl hw
          have D := waits hw
          replace hl : L 6 = false := hl
          clear hw
          refine wpOp_shut (o := _) rfl (fun KK hKK => ?_)
          obtain ⟨hP, h1, h3, h4, h5, h6, h9, hV, hB⟩ := hI.out
          obtain rfl := h4 (D 4 (by decide))
          clear D hl
          go_simp
          exact hKK.out _ _ ⟨p9, v10, _, v56, v58, v59, _, q9, rfl, all_setL 6 hP, h1.step 6 (by decide) (Below.refl _ _), setL_un (show 3 ≠ 6 by decide) h3, setL_un (show 4 ≠ 6 by decide) h4, setL_un (show 5 ≠ 6 by decide) h5, fun _ => rfl, setL_un (show 9 ≠ 6 by decide) h9, hV.step (by simp [nums]), hB⟩
        case s7 =>
          intro hl hw
          have D := waits hw
          replace hl : L 7 = false := hl
          clear hw
          refine wpOp_shut (o := _) rfl (fun KK hKK => ?_)
          obtain ⟨hP, h1, h3, h4, h5, h6, h9, hV, hB⟩ := hI.out
          have hz : N ≤ w.heap.size := hN ▸ hB.size
          clear D
          go_simp
          exact hKK.out _ _ ⟨_, v10, v54, v56, v58, v59, v60, _, rfl, all_setL 7 hP, h1.step 7 (by decide) ((Below.refl _ _).alloc (Nat.le_refl _) _), setL_un (show 3 ≠ 7 by decide) h3, setL_un (show 4 ≠ 7 by decide) h4, setL_un (show 5 ≠ 7 by decide) h5, setL_un (show 6 ≠ 7 by decide) h6, setL_un (show 9 ≠ 7 by decide) h9, Vas.laid (l1 := []) (l2 := []) hV hl hz (by simp [nums]), hB.alloc hz _⟩
        case s8 =>
          intro hl hw
          have D := waits hw
          replace hl : L 8 = false := hl
          clear hw
          refine wpOp_shut (o := _) rfl (fun KK hKK => ?_)
          obtain ⟨hP, h1, h3, h4, h5, h6, h9, hV, hB⟩ := hI.out
          have hz : N ≤ w.heap.size := hN ▸ hB.size
          have e9 : p9 = .pointer (some ⟨q9, 0, none⟩) := (hV.ok ⟨7, 8, q9, p9, v⟩ (by simp)).ptr (D 7 (by decide))
          obtain rfl := h5 (D 5 (by decide))
          have D3 : L 3 = true := D 3 (by decide)
          obtain rfl := h3 D3
          subst e9
          obtain ⟨c, hE, _⟩ := (hV.ok ⟨7, 8, q9, .pointer (some ⟨q9, 0, none⟩), v⟩ (by simp)).room (D 7 (by decide))
          have hlow : N ≤ q9 := (hV.ok ⟨7, 8, q9, .pointer (some ⟨q9, 0, none⟩), v⟩ (by simp)).low (D 7 (by decide))
          obtain ⟨⟨e1, e0⟩, f1, f0⟩ := hE
          dsimp only at e1 e0 f1 f0
          have D7 := D 7 (by decide)
          clear D hl
          go_simp
          exact hKK.out _ _ ⟨_, v10, v54, v56, _, _, v60, q9, rfl, all_setL 8 hP, RefOk.gone 8 D3, setL_un (show 3 ≠ 8 by decide) h3, setL_un (show 4 ≠ 8 by decide) h4, setL_un (show 5 ≠ 8 by decide) h5, setL_un (show 6 ≠ 8 by decide) h6, setL_un (show 9 ≠ 8 by decide) h9, Vas.fill (l1 := []) (l2 := []) (x := ⟨7, 8, q9, .pointer (some ⟨q9, 0, none⟩), v⟩) hV D7 (fun y hy => by simp at hy) (by simp [nums]), (hB.setCell hlow _).setCell hlow _⟩
        case s9 =>
          intro hl hw
          have D := waits hw
          replace hl : L 9 = false := hl
          clear hw
          refine wpOp_shut (o := _) rfl (fun KK hKK => ?_)
          obtain ⟨hP, h1, h3, h4, h5, h6, h9, hV, hB⟩ := hI.out
          obtain rfl := h6 (D 6 (by decide))
          clear D hl
          go_simp
          exact hKK.out _ _ ⟨p9, _, v54, v56, v58, v59, _, q9, rfl, all_setL 9 hP, h1.step 9 (by decide) (Below.refl _ _), setL_un (show 3 ≠ 9 by decide) h3, setL_un (show 4 ≠ 9 by decide) h4, setL_un (show 5 ≠ 9 by decide) h5, setL_un (show 6 ≠ 9 by decide) h6, fun _ => rfl, hV.step (by simp [nums]), hB⟩
      case done =>
        rintro L ac w ⟨p9, v10, v54, v56, v58, v59, v60, q9, rfl, hI⟩ hAll
        obtain ⟨hP, h1, h3, h4, h5, h6, h9, hV, hB⟩ := hI.out
        clear hI hP
        have ep9 : p9 = .pointer (some ⟨q9, 0, none⟩) := (hV.ok ⟨7, 8, q9, p9, v⟩ (by simp)).ptr (hAll 7 (by decide))
        have Eq9 : El w q9 v.1 v.2 := (hV.ok ⟨7, 8, q9, p9, v⟩ (by simp)).el (hAll 8 (by decide))
        obtain rfl := h3 (hAll 3 (by decide))
        obtain rfl := h4 (hAll 4 (by decide))
        obtain rfl := h5 (hAll 5 (by decide))
        obtain rfl := h6 (hAll 6 (by decide))
        obtain rfl := h9 (hAll 9 (by decide))
        subst ep9
        have K2 : Hid (Lm W w q7 q9 x v) := ⟨HB0.trans (hB.mono (hN ▸ HB0.size)), ⟨(E5 w (hN ▸ hB)).1, (E5 w (hN ▸ hB)).2⟩, El.below (K1.out.2.2) (hN ▸ hB), Eq9⟩
        clear h1 h3 h4 h5 h6 h9 hV hAll hHeld hB E5 HB0 Eq9 H1 H2 hN K1
        clear N w0
        refine NoPanic.normal ?_
        go_wp2_with fail
        refine (H3.out _ K2.out.d).mono ?_
        rintro e w2 ⟨a2, c2, rfl, r2, hb2⟩
        have K3 : Hid (Lm W w2 q7 q9 x v ∧ ERow w2 a2 T) := ⟨K2.out.below hb2, r2⟩
        clear hb2 r2 K2 H3
        go_wp2_with fail
        refine (HR0.out _ K3.out.1.d).mono ?_
        rintro e w3 ⟨a3, c3, rfl, r3, hb3⟩
        have K4 : Hid (Lm W w3 q7 q9 x v ∧ ERow w3 a2 T ∧ ERow w3 a3 m) := ⟨K3.out.1.below hb3, K3.out.2.below hb3, r3⟩
        clear hb3 r3 K3 HR0
        go_wp2_with fail
        refine (HR1.out _ K4.out.1.d).mono ?_
        rintro e w4 ⟨a4, c4, rfl, r4, hb4⟩
        have K5 : Hid (Lm W w4 q7 q9 x v ∧ ERow w4 a2 T ∧ ERow w4 a3 m ∧ ERow w4 a4 o) := ⟨K4.out.1.below hb4, K4.out.2.1.below hb4, K4.out.2.2.below hb4, r4⟩
        clear hb4 r4 K4 HR1
        go_wp2_with fail
        refine (H4.out _ _ _ _ _ K5.out.2.2.1 K5.out.2.2.2).mono ?_
        rintro e w5 ⟨a5, c5, rfl, r5, hb5⟩
        have K6 : Hid (Lm W w5 q7 q9 x v ∧ ERow w5 a2 T ∧ ERow w5 a5 T) := ⟨K5.out.1.below hb5, K5.out.2.1.below hb5, r5⟩
        clear hb5 r5 K5 H4
        have z1 := K6.out.1.a.hi
        have z0 := K6.out.1.a.lo
        have y9 := K6.out.1.b.hi
        have y8 := K6.out.1.b.lo
        go_wp2_with fail
        refine (same_rows _ _ _ _ T (by omega) _ K6.out.2.1 K6.out.2.2).mono ?_
        rintro e w6 ⟨rfl, hb6⟩
        have K7 : Hid (Lm W w6 q7 q9 x v ∧ ERow w6 a2 T) := ⟨K6.out.1.below hb6, K6.out.2.1.below hb6⟩
        clear hb6 K6 z1 z0 y9 y8
        have z1 := K7.out.1.a.hi
        have z0 := K7.out.1.a.lo
        have x1 := K7.out.1.x.hi
        have x0 := K7.out.1.x.lo
        by_cases hE : E = 0
        · by_cases hF : F = 0
          · obtain ⟨e1, e2, e3⟩ := HEQ.out hE hF
            subst hE hF e1 e2 e3
            clear HEQ
            go_wp2_with fail
            refine (H5.out _ K7.out.1.d).mono ?_
            rintro e w7 ⟨rfl, hb7⟩
            have B7 : Below w6.heap.size w6 (w7.alloc (Obj.cells #[.int .u64 (y1.1 : Int), .int .u64 (y1.2 : Int)] 25)) := hb7.alloc hb7.size _
            have K8 : Hid (Lm W (w7.alloc (Obj.cells #[.int .u64 (y1.1 : Int), .int .u64 (y1.2 : Int)] 25)) q7 q9 x v ∧ ERow (w7.alloc (Obj.cells #[.int .u64 (y1.1 : Int), .int .u64 (y1.2 : Int)] 25)) a2 T ∧ El (w7.alloc (Obj.cells #[.int .u64 (y1.1 : Int), .int .u64 (y1.2 : Int)] 25)) w7.heap.size y1.1 y1.2) := ⟨K7.out.1.below B7, K7.out.2.below B7, ⟨by simp [go_sem], by simp [go_sem]⟩⟩
            clear hb7 K7 B7 z1 z0 x1 x0 H5
            have x1 := K8.out.1.x.hi
            have x0 := K8.out.1.x.lo
            go_wp2_with fail
            refine (H6.out _ _ _ K8.out.2.1).mono ?_
            rintro e w8 ⟨rfl, hb8⟩
            have B8 : Below (w7.alloc (Obj.cells #[.int .u64 (y1.1 : Int), .int .u64 (y1.2 : Int)] 25)).heap.size (w7.alloc (Obj.cells #[.int .u64 (y1.1 : Int), .int .u64 (y1.2 : Int)] 25)) (w8.alloc (Obj.cells #[.int .u64 (y1.1 : Int), .int .u64 (y1.2 : Int)] 25)) := hb8.alloc hb8.size _
            have K9 : Hid (Below W.heap.size W (w8.alloc (Obj.cells #[.int .u64 (y1.1 : Int), .int .u64 (y1.2 : Int)] 25)) ∧ El (w8.alloc (Obj.cells #[.int .u64 (y1.1 : Int), .int .u64 (y1.2 : Int)] 25)) w7.heap.size y1.1 y1.2 ∧ El (w8.alloc (Obj.cells #[.int .u64 (y1.1 : Int), .int .u64 (y1.2 : Int)] 25)) w8.heap.size y1.1 y1.2) := ⟨(K8.out.1.below B8).d, K8.out.2.2.below B8, ⟨by simp [go_sem], by simp [go_sem]⟩⟩
            clear hb8 K8 B8 x1 x0 H6
            go_wp2_with fail
            refine (HA.out.go _).mono ?_
            rintro e w9 ⟨rfl, hb9⟩
            have K10 : Hid (Below W.heap.size W w9 ∧ El w9 w7.heap.size y1.1 y1.2 ∧ El w9 w8.heap.size y1.1 y1.2) := ⟨K9.out.1.trans (hb9.mono K9.out.1.size), K9.out.2.1.below hb9, K9.out.2.2.below hb9⟩
            clear hb9 K9
            have x1 := K10.out.2.1.hi
            have x0 := K10.out.2.1.lo
            have z1 := K10.out.2.2.hi
            have z0 := K10.out.2.2.lo
            go_wp2
            go_ret
            exact ⟨rfl, K10.out.1⟩
          · clear HEQ H5 H6
            go_wp2_with (go_at_call 9; refine (HA.out.go _).mono ?_; rintro e w7 ⟨rfl, hb7⟩; have D7 := hidT (K7.out.1.d.trans (hb7.mono K7.out.1.d.size)); clear hb7)
            go_ret
            exact ⟨rfl, D7.out⟩
        · clear HEQ H5 H6
          go_wp2_with (go_at_call 9; refine (HA.out.go _).mono ?_; rintro e w7 ⟨rfl, hb7⟩; have D7 := hidT (K7.out.1.d.trans (hb7.mono K7.out.1.d.size)); clear hb7)
          go_ret
          exact ⟨rfl, D7.out⟩
    · go_wp2_with (go_at_call 9; refine (HA.out.go _).mono ?_; rintro e w5 ⟨rfl, hb5⟩; have D5 := hidT (K0.out.1.trans (hb5.mono K0.out.1.size)); clear hb5)
      go_ret
      exact ⟨rfl, D5.out⟩
end Go.Proofs.Ytkllihomdlibgaa
