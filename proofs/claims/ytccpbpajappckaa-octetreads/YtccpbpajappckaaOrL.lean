/- OctetBack over the seat's translation: the walk. -/
import Derived.Test.YtccpbpajappckaaOrK
import Derived.Test.YtccpbpajappckaaOctN
import Derived.Test.YtccpbpajappckaaIvA
import Derived.Test.YtccpbpajappckaaPOeC
import Derived.Test.YtccpbpajappckaaPRefA
import Derived.BigQuiet
namespace Go.Proofs.Ytccpbpajappckaa
open Go.RowKit

/-- The box of the third argument, and what lay there before. -/
structure Bk (W w : World) (b5 : Nat) (l : Int) (c : Option Addr) (L capx : Nat) : Prop where
  lv : w.cell? ⟨b5, 0, none⟩ = some (.int .i64 l)
  sl : w.cell? ⟨b5, 1, none⟩ = some (.slice c L capx)
  d : Below W.heap.size W w
theorem Bk.below {W w w' : World} {b5 : Nat} {l : Int} {c : Option Addr} {L capx : Nat} (h : Bk W w b5 l c L capx) (hb : Below w.heap.size w w') : Bk W w' b5 l c L capx := ⟨keepc hb h.lv, keepc hb h.sl, h.d.trans (hb.mono h.d.size)⟩
theorem Bk.drew {W w : World} {b5 : Nat} {l : Int} {c : Option Addr} {L capx : Nat} (h : Bk W w b5 l c L capx) : Bk W w.drew b5 l c L capx := h.below (Below.refl _ _).drew
theorem Step.belowO {q : Nat} {t : ByteArray} {e : Int} {W w w' : World} (h : Step q t e w w') (hb : Below W.heap.size W w) (hq : W.heap.size ≤ q) : Below W.heap.size W w' :=
  ⟨h.os.trans hb.os, h.tape.trans hb.tape, h.output.trans hb.output, Nat.le_trans hb.size h.size, fun k hk => (h.rest k (Nat.lt_of_lt_of_le hk hb.size) (by omega)).trans (hb.block k hk)⟩
theorem Step.cell {q : Nat} {t : ByteArray} {e : Int} {w w' : World} (h : Step q t e w w') {b o : Nat} {v : Value} (hn : b ≠ q) (hc : w.cell? ⟨b, o, none⟩ = some v) : w'.cell? ⟨b, o, none⟩ = some v :=
  (World.cell?_of_block (h.rest b (cell_lt hc) hn)).trans hc
theorem Bk.step {q : Nat} {t : ByteArray} {e : Int} {W w w' : World} {b5 : Nat} {l : Int} {c : Option Addr} {L capx : Nat} (h : Bk W w b5 l c L capx) (k : Step q t e w w') (hq : W.heap.size ≤ q) (hn : b5 ≠ q) : Bk W w' b5 l c L capx :=
  ⟨k.cell hn h.lv, k.cell hn h.sl, k.belowO h.d hq⟩
theorem StrRow.step {q : Nat} {t : ByteArray} {e : Int} {w w' : World} {a : Option Addr} {ss : List ByteArray} (h : StrRow w a ss) (k : Step q t e w w') (hn : ∀ g off, a = some ⟨g, off, none⟩ → g ≠ q) : StrRow w' a ss := by
  rcases h with h | ⟨b, off, rfl, hb, hc⟩
  · exact .inl h
  · exact .inr ⟨b, off, rfl, Nat.lt_of_lt_of_le hb k.size, fun i hi => k.cell (hn b off rfl) (hc i hi)⟩
theorem StrRow.belowR {w w' : World} {a : Option Addr} {ss : List ByteArray} (h : StrRow w a ss) (k : Below w.heap.size w w') : StrRow w' a ss := by
  rcases h with h | ⟨b, off, e1, hb, hc⟩
  · exact .inl h
  · exact .inr ⟨b, off, e1, Nat.lt_of_lt_of_le hb k.size, fun i hi => keepc k (hc i hi)⟩
theorem ERow.stepR {q : Nat} {t : ByteArray} {e : Int} {w w' : World} {a : Option Addr} {es : List (Nat × Nat)} (h : ERow w a es) (k : Step q t e w w') (hn : ∀ g off, a = some ⟨g, off, none⟩ → g ≠ q) : ERow w' a es := ⟨fun i hi => by
  obtain ⟨b, off, e1, e2, e3, e4⟩ := h.cells i hi
  exact ⟨b, off, e1, Nat.lt_of_lt_of_le e2 k.size, k.cell (hn b off e1) e3, k.cell (hn b off e1) e4⟩⟩
set_option maxHeartbeats 8000000 in
set_option maxRecDepth 100000 in
theorem ob_few (n l : Int) (a c : Option Addr) (M cap L capx : Nat) (W : World) (HF : Hid (∀ w, Below W.heap.size W w → Calls Try.prog 12 #[.slice a M cap, .int .i64 20, .int .i64 300] w fun e w' => e = .returned (.bool false) ∧ w' = w)) :
    Calls Try.prog 4 #[.int .i64 n, .slice a M cap, .agg #[.int .i64 l, .slice c L capx]] W fun e w' => e = .returned (.bool true) ∧ Below W.heap.size W w' := by
  have AW := hidR awake_any
  go_enter Try.func4, Try.ntmps4
  go_wp2_with (first | (go_at_call 12; refine (HF.out _ (by go_grown)).mono ?_; rintro e w1 ⟨rfl, rfl⟩) | (go_at_call 5; refine (AW.out _).mono ?_; rintro e wz ⟨rfl, hbz⟩))
  go_ret
  exact ⟨rfl, by first | exact hbz | exact Below.trans (by go_grown) (hbz.mono (by simp))⟩
set_option maxHeartbeats 8000000 in
set_option maxRecDepth 100000 in
theorem ob_many (n l : Int) (a c : Option Addr) (M cap L capx : Nat) (W : World) (HF : Hid (∀ w, Below W.heap.size W w → Calls Try.prog 12 #[.slice a M cap, .int .i64 20, .int .i64 300] w fun e w' => e = .returned (.bool true) ∧ w' = w)) (hL : (50 : Int) < (L : Int)) :
    Calls Try.prog 4 #[.int .i64 n, .slice a M cap, .agg #[.int .i64 l, .slice c L capx]] W fun e w' => e = .returned (.bool true) ∧ Below W.heap.size W w' := by
  have AW := hidR awake_any
  go_enter Try.func4, Try.ntmps4
  go_wp2_with (first | (go_at_call 12; refine (HF.out _ (by go_grown)).mono ?_; rintro e w1 ⟨rfl, rfl⟩) | (go_at_call 5; refine (AW.out _).mono ?_; rintro e wz ⟨rfl, hbz⟩))
  go_ret
  exact ⟨rfl, by first | exact hbz | exact Below.trans (by go_grown) (hbz.mono (by simp))⟩
set_option maxHeartbeats 8000000 in
set_option maxRecDepth 100000 in
theorem ob_num (n l : Int) (a c : Option Addr) (M cap L capx : Nat) (W : World) (HF : Hid (∀ w, Below W.heap.size W w → Calls Try.prog 12 #[.slice a M cap, .int .i64 20, .int .i64 300] w fun e w' => e = .returned (.bool true) ∧ w' = w)) (hL : ¬ (50 : Int) < (L : Int)) (A : ByteArray) (hA : A.toList = []) (HN : Hid (∀ w, Calls Try.prog 13 #[.int .i64 n] w fun e w' => e = .returned (.string A) ∧ Below w.heap.size w w')) :
    Calls Try.prog 4 #[.int .i64 n, .slice a M cap, .agg #[.int .i64 l, .slice c L capx]] W fun e w' => e = .returned (.bool true) ∧ Below W.heap.size W w' := by
  have AW := hidR awake_any
  go_enter Try.func4, Try.ntmps4
  go_wp2_with (first | (go_at_call 12; refine (HF.out _ (by go_grown)).mono ?_; rintro e w1 ⟨rfl, rfl⟩) | (go_at_call 13; refine (HN.out _).mono ?_; rintro e w2 ⟨rfl, hb2⟩; have K2 : Hid (Bk W w2 W.heap.size l c L capx) := Bk.below ⟨by simp [go_sem], by simp [go_sem], by go_grown⟩ hb2; have k1 := K2.out.lv; have k0 := K2.out.sl; clear hb2) | (go_at_call 5; refine (AW.out _).mono ?_; rintro e wz ⟨rfl, hbz⟩))
  go_ret
  exact ⟨rfl, K2.out.d.trans (hbz.mono K2.out.d.size)⟩
set_option maxHeartbeats 8000000 in
set_option maxRecDepth 100000 in
theorem ob_els (n l : Int) (a c : Option Addr) (M cap L capx : Nat) (W : World) (HF : Hid (∀ w, Below W.heap.size W w → Calls Try.prog 12 #[.slice a M cap, .int .i64 20, .int .i64 300] w fun e w' => e = .returned (.bool true) ∧ w' = w)) (hL : ¬ (50 : Int) < (L : Int)) (A C : ByteArray) (hA : (A.toList == []) = false) (hC : C.toList = []) (HN : Hid (∀ w, Calls Try.prog 13 #[.int .i64 n] w fun e w' => e = .returned (.string A) ∧ Below w.heap.size w w')) (HE : Hid (∀ w, Below W.heap.size W w → Calls Try.prog 14 #[.int .i64 l, .slice c L capx] w fun e w' => e = .returned (.string C) ∧ Below w.heap.size w w')) :
    Calls Try.prog 4 #[.int .i64 n, .slice a M cap, .agg #[.int .i64 l, .slice c L capx]] W fun e w' => e = .returned (.bool true) ∧ Below W.heap.size W w' := by
  have AW := hidR awake_any
  go_enter Try.func4, Try.ntmps4
  go_wp2_with (first | (go_at_call 12; refine (HF.out _ (by go_grown)).mono ?_; rintro e w1 ⟨rfl, rfl⟩) | (go_at_call 13; refine (HN.out _).mono ?_; rintro e w2 ⟨rfl, hb2⟩; have K2 : Hid (Bk W w2 W.heap.size l c L capx) := Bk.below ⟨by simp [go_sem], by simp [go_sem], by go_grown⟩ hb2; have k1 := K2.out.lv; have k0 := K2.out.sl; clear hb2) | (go_at_call 14; refine (HE.out _ K2.out.d).mono ?_; rintro e w3 ⟨rfl, hb3⟩; have K3 := hidR (K2.out.below hb3); clear hb3 k1 k0 K2) | (go_at_call 5; refine (AW.out _).mono ?_; rintro e wz ⟨rfl, hbz⟩))
  go_ret
  exact ⟨rfl, K3.out.d.trans (hbz.mono K3.out.d.size)⟩
set_option maxHeartbeats 8000000 in
set_option maxRecDepth 100000 in
theorem ob_main (n l : Int) (a c : Option Addr) (M cap L capx : Nat) (W : World) (HF : Hid (∀ w, Below W.heap.size W w → Calls Try.prog 12 #[.slice a M cap, .int .i64 20, .int .i64 300] w fun e w' => e = .returned (.bool true) ∧ w' = w)) (hL : ¬ (50 : Int) < (L : Int)) (A B C D t1 t2 t3 EE : ByteArray) (hA : (A.toList == []) = false) (hC : (C.toList == []) = false) (hEE : EE.toList = [101, 110, 100]) (n1 : ¬ 9223372036854775807 < A.size + B.size) (n2 : ¬ 9223372036854775807 < A.size + B.size + C.size) (n3 : ¬ 9223372036854775807 < A.size + B.size + C.size + D.size)
    (ss : List ByteArray) (es : List (Nat × Nat)) (hM : ss.length = M) (hM2 : M ≤ 1000) (hLe : es.length = L) (hRS : Hid (StrRow W a ss)) (hRE : Hid (ERow W c es))
    (HN : Hid (∀ w, Calls Try.prog 13 #[.int .i64 n] w fun e w' => e = .returned (.string A) ∧ Below w.heap.size w w')) (HE : Hid (∀ w, Below W.heap.size W w → Calls Try.prog 14 #[.int .i64 l, .slice c L capx] w fun e w' => e = .returned (.string C) ∧ Below w.heap.size w w'))
    (HLi : Hid (∀ w, Below W.heap.size W w → Calls Try.prog 15 #[.slice a M cap] w fun e w' => e = .returned (.string B) ∧ Below w.heap.size w w'))
    (HT : Hid (∀ w, Calls Try.prog 16 #[.string { data := #[101, 110, 100] }] w fun e w' => e = .returned (.string D) ∧ Below w.heap.size w w'))
    (H1 : Hid (∀ q w, Rd q (A ++ B ++ C ++ D) 0 w → Calls Try.prog 17 #[.pointer (some ⟨q, 0, none⟩), .int .i64 n] w fun r w' => r = .returned (.int .i64 n) ∧ Step q t1 0 w w'))
    (H2 : Hid (∀ q w, Rd q t1 0 w → Calls Try.prog 18 #[.pointer (some ⟨q, 0, none⟩), .int .i64 (M : Int), .int .i64 300] w fun r w' => ∃ v, r = .returned v ∧ (TxS w' v (some ss) ∧ ∀ g, v.ownBlock = some g → w.heap.size ≤ g) ∧ Step q t2 0 w w'))
    (H3 : Hid (∀ q w, Rd q t2 0 w → Calls Try.prog 19 #[.pointer (some ⟨q, 0, none⟩), .int .i64 l, .int .i64 (L : Int)] w fun r w' => ∃ v, r = .returned v ∧ (ElS w' v (some es) ∧ ∀ g, v.ownBlock = some g → w.heap.size ≤ g) ∧ Step q t3 0 w w'))
    (H4 : Hid (∀ q w, Rd q t3 0 w → Calls Try.prog 20 #[.pointer (some ⟨q, 0, none⟩), .int .i64 3] w fun r w' => r = .returned (.string EE) ∧ Step q ⟨#[]⟩ 0 w w')) :
    Calls Try.prog 4 #[.int .i64 n, .slice a M cap, .agg #[.int .i64 l, .slice c L capx]] W fun e w' => e = .returned (.bool true) ∧ Below W.heap.size W w' := by
  have AW := hidR awake_any
  go_enter Try.func4, Try.ntmps4
  go_upto_region 3 with (first | (go_at_call 12; refine (HF.out _ (by go_grown)).mono ?_; rintro e w1 ⟨rfl, rfl⟩) | (go_at_call 13; refine (HN.out _).mono ?_; rintro e w2 ⟨rfl, hb2⟩; have K2 : Hid (Bk W w2 W.heap.size l c L capx) := Bk.below ⟨by simp [go_sem], by simp [go_sem], by go_grown⟩ hb2; have k1 := K2.out.lv; have k0 := K2.out.sl; clear hb2) | (go_at_call 14; refine (HE.out _ K2.out.d).mono ?_; rintro e w3 ⟨rfl, hb3⟩; have K3 := hidR (K2.out.below hb3); clear hb3 k1 k0 K2))
  have K := K3
  clear K3
  have k1 := K.out.lv
  have k0 := K.out.sl
  refine wp_region_noPanic ?_
  refine wp_region_held_drew (S := fun w => w.cell? ⟨W.heap.size, 0, none⟩ = some (.int .i64 l) ∧ w.cell? ⟨W.heap.size, 1, none⟩ = some (.slice c L capx)) (by kernel_rfl) (⟨K.out.drew.lv, K.out.drew.sl⟩) (fun hHeld => ?_)
  refine wpAnyH_take (i := 0) (oi := _) (v := ?_) rfl (by kernel_rfl) (by kernel_rfl) (by kernel_rfl) (fun _ _ _ h => h) (Or.inl ⟨by rfl, ?_⟩) (by assumption) ?_
  rotate_left
  · ((intro w hSw; (try dsimp only at hSw); go_simp) <;> (try with_reducible rfl))
  show wpAnyH _ _ _ _ _ _ _ (Act.put _ (some 35) _) _
  simp only [Act.put, List.setIfInBounds_toArray, List.set_cons_succ, List.set_cons_zero]
  refine wpAnyH_take (i := 2) (oi := _) (v := ?_) rfl (by kernel_rfl) (by kernel_rfl) (by kernel_rfl) (fun _ _ _ h => h) (Or.inl ⟨by rfl, ?_⟩) (by assumption) ?_
  rotate_left
  · ((intro w hSw; (try dsimp only at hSw); go_simp) <;> (try with_reducible rfl))
  show wpAnyH _ _ _ _ _ _ _ (Act.put _ (some 37) _) _
  simp only [Act.put, List.setIfInBounds_toArray, List.set_cons_succ, List.set_cons_zero]
  refine wpAnyH_take (i := 5) (oi := _) (v := ?_) rfl (by kernel_rfl) (by kernel_rfl) (by kernel_rfl) (fun _ _ _ h => h) (Or.inl ⟨by rfl, ?_⟩) (by assumption) ?_
  rotate_left
  · ((intro w hSw; (try dsimp only at hSw); go_simp) <;> (try with_reducible rfl))
  show wpAnyH _ _ _ _ _ _ _ (Act.put _ (some 40) _) _
  simp only [Act.put, List.setIfInBounds_toArray, List.set_cons_succ, List.set_cons_zero]
  refine wpAnyH_take (i := 6) (oi := _) (v := ?_) rfl (by kernel_rfl) (by kernel_rfl) (by kernel_rfl) (fun _ _ _ h => h) (Or.inl ⟨by rfl, ?_⟩) (by assumption) ?_
  rotate_left
  · ((intro w hSw; (try dsimp only at hSw); go_simp) <;> (try with_reducible rfl))
  show wpAnyH _ _ _ _ _ _ _ (Act.put _ (some 41) _) _
  simp only [Act.put, List.setIfInBounds_toArray, List.set_cons_succ, List.set_cons_zero]
  refine wpAnyH_take (i := 7) (oi := _) (v := ?_) rfl (by kernel_rfl) (by kernel_rfl) (by kernel_rfl) (fun _ _ _ h => h) (Or.inl ⟨by rfl, ?_⟩) (by assumption) ?_
  rotate_left
  · ((intro w hSw; (try dsimp only at hSw); go_simp) <;> (try with_reducible rfl))
  show wpAnyH _ _ _ _ _ _ _ (Act.put _ (some 42) _) _
  simp only [Act.put, List.setIfInBounds_toArray, List.set_cons_succ, List.set_cons_zero]
  refine wpAnyH_take (i := 8) (oi := _) (v := ?_) rfl (by kernel_rfl) (by kernel_rfl) (by kernel_rfl) (fun _ _ _ h => h) (Or.inl ⟨by rfl, ?_⟩) (by assumption) ?_
  rotate_left
  · ((intro w hSw; (try dsimp only at hSw); go_simp) <;> (try with_reducible rfl))
  show wpAnyH _ _ _ _ _ _ _ (Act.put _ (some 43) _) _
  simp only [Act.put, List.setIfInBounds_toArray, List.set_cons_succ, List.set_cons_zero]
  refine wpAnyH_ready (rs := [1]) (by kernel_rfl) (by simp) ?_
  refine AllReadyH.cons (o := _) rfl (fun KK hKK => ?_) AllReadyH.nil
  go_simp
  (go_at_call 13; refine (HN.out _).mono ?_; rintro e w9 ⟨rfl, hb⟩)
  have K' : Hid (Bk W w9 W.heap.size l c L capx) := Bk.below (by first | exact K.out | exact K.out.drew) hb
  clear K hb
  have K := K'
  clear K'
  refine hKK.out _ _ ?_ (fun hHeld => ?_)
  · exact ⟨K.out.lv, K.out.sl⟩
  clear hKK KK
  try simp only [Act.put]
  refine wpAnyH_ready (rs := [3]) (by kernel_rfl) (by simp) ?_
  refine AllReadyH.cons (o := _) rfl (fun KK hKK => ?_) AllReadyH.nil
  go_simp
  (go_at_call 15; refine (HLi.out _ (by first | exact K.out.d | exact K.out.drew.d)).mono ?_; rintro e w9 ⟨rfl, hb⟩)
  have K' : Hid (Bk W w9 W.heap.size l c L capx) := Bk.below (by first | exact K.out | exact K.out.drew) hb
  clear K hb
  have K := K'
  clear K'
  refine hKK.out _ _ ?_ (fun hHeld => ?_)
  · exact ⟨K.out.lv, K.out.sl⟩
  clear hKK KK
  try simp only [Act.put]
  refine wpAnyH_take (i := 4) (oi := _) (v := ?_) rfl (by kernel_rfl) (by kernel_rfl) (by kernel_rfl) (fun _ _ _ h => h) (Or.inl ⟨by rfl, ?_⟩) (by assumption) ?_
  rotate_left
  · ((intro w hSw; (try dsimp only at hSw); go_simp) <;> (try with_reducible rfl))
  show wpAnyH _ _ _ _ _ _ _ (Act.put _ (some 39) _) _
  simp only [Act.put, List.setIfInBounds_toArray, List.set_cons_succ, List.set_cons_zero]
  refine wpAnyH_ready (rs := [9]) (by kernel_rfl) (by simp) ?_
  refine AllReadyH.cons (o := _) rfl (fun KK hKK => ?_) AllReadyH.nil
  go_simp
  (go_at_call 14; refine (HE.out _ (by first | exact K.out.d | exact K.out.drew.d)).mono ?_; rintro e w9 ⟨rfl, hb⟩)
  have K' : Hid (Bk W w9 W.heap.size l c L capx) := Bk.below (by first | exact K.out | exact K.out.drew) hb
  clear K hb
  have K := K'
  clear K'
  refine hKK.out _ _ ?_ (fun hHeld => ?_)
  · exact ⟨K.out.lv, K.out.sl⟩
  clear hKK KK
  try simp only [Act.put]
  refine wpAnyH_take (i := 10) (oi := _) (v := ?_) rfl (by kernel_rfl) (by kernel_rfl) (by kernel_rfl) (fun _ _ _ h => h) (Or.inl ⟨by rfl, ?_⟩) (by assumption) ?_
  rotate_left
  · ((intro w hSw; (try dsimp only at hSw); go_simp) <;> (try with_reducible rfl))
  show wpAnyH _ _ _ _ _ _ _ (Act.put _ (some 45) _) _
  simp only [Act.put, List.setIfInBounds_toArray, List.set_cons_succ, List.set_cons_zero]
  refine wpAnyH_ready (rs := [11]) (by kernel_rfl) (by simp) ?_
  refine AllReadyH.cons (o := _) rfl (fun KK hKK => ?_) AllReadyH.nil
  go_simp
  (go_at_call 16; refine (HT.out _).mono ?_; rintro e w9 ⟨rfl, hb⟩)
  have K' : Hid (Bk W w9 W.heap.size l c L capx) := Bk.below (by first | exact K.out | exact K.out.drew) hb
  clear K hb
  have K := K'
  clear K'
  refine hKK.out _ _ ?_ (fun hHeld => ?_)
  · exact ⟨K.out.lv, K.out.sl⟩
  clear hKK KK
  try simp only [Act.put]
  refine wpAnyH_take (i := 12) (oi := _) (v := ?_) rfl (by kernel_rfl) (by kernel_rfl) (by kernel_rfl) (fun _ _ _ h => h) (Or.inl ⟨by rfl, ?_⟩) (by assumption) ?_
  rotate_left
  · ((intro w hSw; (try dsimp only at hSw); go_simp) <;> (try with_reducible rfl))
  show wpAnyH _ _ _ _ _ _ _ (Act.put _ (some 47) _) _
  simp only [Act.put, List.setIfInBounds_toArray, List.set_cons_succ, List.set_cons_zero]
  refine wpAnyH_ready (rs := [13]) (by kernel_rfl) (by simp) ?_
  refine AllReadyH.cons (o := _) rfl (fun KK hKK => ?_) AllReadyH.nil
  go_simp
  (go_at_call 6; refine (read_any _ _).mono ?_; rintro e w8 ⟨rfl, hw8⟩)
  have q1 : W.heap.size < w9.heap.size := cell_lt K.out.lv
  have KR : Hid (Rd w9.heap.size (A ++ B ++ C ++ D) 0 w8 ∧ Bk W w8 W.heap.size l c L capx) := by rw [hw8]; exact ⟨rd_new _ _, K.out.below ((Below.refl _ _).alloc (Nat.le_refl _) _)⟩
  clear hw8 K
  generalize w9.heap.size = q at *
  refine hKK.out _ _ ?_ (fun hHeld => ?_)
  · exact ⟨KR.out.2.lv, KR.out.2.sl⟩
  clear hKK KK
  try simp only [Act.put]
  refine wpAnyH_take (i := 14) (oi := _) (v := ?_) rfl (by kernel_rfl) (by kernel_rfl) (by kernel_rfl) (fun _ _ _ h => h) (Or.inl ⟨by rfl, ?_⟩) (by assumption) ?_
  rotate_left
  · ((intro w hSw; (try dsimp only at hSw); go_simp) <;> (try with_reducible rfl))
  show wpAnyH _ _ _ _ _ _ _ (Act.put _ (some 7) _) _
  simp only [Act.put, List.setIfInBounds_toArray, List.set_cons_succ, List.set_cons_zero]
  refine wpAnyH_done (by kernel_rfl) ?_ _
  refine NoPanic.normal ?_
  clear HN HLi HT HE HF k1 k0
  have k1 := KR.out.2.lv
  have k0 := KR.out.2.sl
  have HTA : Hid (∀ a1 a2 c1 w, StrRow w a1 ss → StrRow w a2 ss → Calls Try.prog 21 #[.slice a1 M c1, .slice a2 M cap] w fun e w' => e = .returned (.bool true) ∧ Below w.heap.size w w') := fun a1 a2 c1 w h1 h2 => texts_alike a1 a2 M c1 cap ss hM (by omega) w h1 h2
  have HRf : Hid (∀ w, ERow w c es → Calls Try.prog 23 #[.slice c L capx] w fun e w' => ∃ a' cap', e = .returned (.slice a' L cap') ∧ ERow w' a' es ∧ Below w.heap.size w w') := by
    intro w h
    have := ref_row c capx es (by omega) w h
    rw [hLe] at this
    exact this
  have HSm : Hid (∀ a1 a2 c1 c2 w, ERow w a1 es → ERow w a2 es → Calls Try.prog 22 #[.slice a1 L c1, .slice a2 L c2] w fun e w' => e = .returned (.bool true) ∧ Below w.heap.size w w') := by
    intro a1 a2 c1 c2 w h1 h2
    have := same_rows a1 a2 c1 c2 es (by omega) w h1 h2
    rw [hLe] at this
    exact this
  have HEn : Hid (∀ q w, Rd q ⟨#[]⟩ 0 w → Calls Try.prog 10 #[.pointer (some ⟨q, 0, none⟩)] w fun r w' => r = .returned (.int .i64 0) ∧ w' = w) := fun q w h => rd_End q ⟨#[]⟩ 0 w h
  go_upto_region 8 with (first | (go_at_call 17; refine (H1.out _ _ KR.out.1).mono ?_; rintro r w4 ⟨rfl, st4⟩; have K4 : Hid (Rd q t1 0 w4 ∧ Bk W w4 W.heap.size l c L capx) := ⟨st4.here, KR.out.2.step st4 (by omega) (by omega)⟩; clear st4 KR k1 k0) | (go_at_call 18; refine (H2.out _ _ K4.out.1).mono ?_; rintro r w5 ⟨v5, rfl, ⟨⟨a9, cap9, rfl, R9⟩, fr⟩, st5⟩; have K5 : Hid ((Rd q t2 0 w5 ∧ Bk W w5 W.heap.size l c L capx) ∧ StrRow w5 a9 ss ∧ ∀ g off, a9 = some ⟨g, off, none⟩ → g ≠ q) := ⟨⟨st5.here, K4.out.2.step st5 (by omega) (by omega)⟩, R9, fun g off e => by have := fr g (by rw [e]; rfl); have := K4.out.1.lt; omega⟩; clear R9 fr st5 K4; have k1 := K5.out.1.2.lv; have k0 := K5.out.1.2.sl) | (go_at_call 19; refine (H3.out _ _ K5.out.1.1).mono ?_; rintro r w6 ⟨v6, rfl, ⟨⟨a10, cap10, rfl, R10⟩, fr⟩, st6⟩; have K6 : Hid ((Rd q t3 0 w6 ∧ Bk W w6 W.heap.size l c L capx) ∧ StrRow w6 a9 ss ∧ ERow w6 a10 es ∧ (∀ g off, a9 = some ⟨g, off, none⟩ → g ≠ q) ∧ ∀ g off, a10 = some ⟨g, off, none⟩ → g ≠ q) := ⟨⟨st6.here, K5.out.1.2.step st6 (by omega) (by omega)⟩, K5.out.2.1.step st6 K5.out.2.2, R10, K5.out.2.2, fun g off e => by have := fr g (by rw [e]; rfl); have := K5.out.1.1.lt; omega⟩; clear R10 fr st6 K5 k1 k0) | (go_at_call 20; refine (H4.out _ _ K6.out.1.1).mono ?_; rintro r w7 ⟨rfl, st7⟩; have K7 : Hid (Rd q ⟨#[]⟩ 0 w7 ∧ Bk W w7 W.heap.size l c L capx ∧ StrRow w7 a9 ss ∧ ERow w7 a10 es) := ⟨st7.here, K6.out.1.2.step st7 (by omega) (by omega), K6.out.2.1.step st7 K6.out.2.2.2.1, K6.out.2.2.1.stepR st7 K6.out.2.2.2.2⟩; clear st7 K6))
  have k1 := K7.out.2.1.lv
  have k0 := K7.out.2.1.sl
  go_wp2_with (first | (go_at_call 5; refine (AW.out _).mono ?_; rintro e w8 ⟨rfl, hb8⟩; have K8 : Hid (Rd q ⟨#[]⟩ 0 w8 ∧ Bk W w8 W.heap.size l c L capx ∧ StrRow w8 a9 ss ∧ ERow w8 a10 es) := ⟨K7.out.1.below hb8, K7.out.2.1.below hb8, K7.out.2.2.1.belowR hb8, K7.out.2.2.2.below hb8⟩; clear hb8 K7; have K7 := K8; clear K8; (try clear k1 k0); have k1 := K7.out.2.1.lv; have k0 := K7.out.2.1.sl) | (go_at_call 21; refine (HTA.out _ _ _ _ K7.out.2.2.1 (hRS.out.belowR K7.out.2.1.d)).mono ?_; rintro e w8 ⟨rfl, hb8⟩; have K8 : Hid (Rd q ⟨#[]⟩ 0 w8 ∧ Bk W w8 W.heap.size l c L capx ∧ StrRow w8 a9 ss ∧ ERow w8 a10 es) := ⟨K7.out.1.below hb8, K7.out.2.1.below hb8, K7.out.2.2.1.belowR hb8, K7.out.2.2.2.below hb8⟩; clear hb8 K7; have K7 := K8; clear K8; (try clear k1 k0); have k1 := K7.out.2.1.lv; have k0 := K7.out.2.1.sl) | (go_at_call 23; refine (HRf.out _ (hRE.out.below K7.out.2.1.d)).mono ?_; rintro e w8 ⟨ra, rc, rfl, R8, hb8⟩; have K8 : Hid (Rd q ⟨#[]⟩ 0 w8 ∧ Bk W w8 W.heap.size l c L capx ∧ StrRow w8 a9 ss ∧ ERow w8 a10 es) := ⟨K7.out.1.below hb8, K7.out.2.1.below hb8, K7.out.2.2.1.belowR hb8, K7.out.2.2.2.below hb8⟩; clear hb8 K7; have K7 := K8; clear K8; (try clear k1 k0); have k1 := K7.out.2.1.lv; have k0 := K7.out.2.1.sl; have KS := hidR R8; clear R8) | (go_at_call 22; refine (HSm.out _ _ _ _ _ K7.out.2.2.2 KS.out).mono ?_; rintro e w8 ⟨rfl, hb8⟩; have K8 : Hid (Rd q ⟨#[]⟩ 0 w8 ∧ Bk W w8 W.heap.size l c L capx ∧ StrRow w8 a9 ss ∧ ERow w8 a10 es) := ⟨K7.out.1.below hb8, K7.out.2.1.below hb8, K7.out.2.2.1.belowR hb8, K7.out.2.2.2.below hb8⟩; clear hb8 K7; have K7 := K8; clear K8; (try clear k1 k0); have k1 := K7.out.2.1.lv; have k0 := K7.out.2.1.sl; clear KS) | (go_at_call 10; refine (HEn.out _ _ K7.out.1).mono ?_; rintro e w8 ⟨rfl, rfl⟩))
  go_ret
  exact ⟨by rfl, K7.out.2.1.d⟩
end Go.Proofs.Ytccpbpajappckaa
