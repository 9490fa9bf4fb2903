/- The contracts of packv.Left and One over the seat's translation. -/
import Derived.Test.YtcejppibcemdeaaPvE
import Derived.OwnWalk
namespace Go.Proofs.Ytcejppibcemdeaa
open Go.RowKit
open Cb Rg
open Tw (pm)
namespace Pv

theorem pairv_at (N : Nat) (a b : Nat × Nat) (c : Nat) (hc : c < N) : el (pairv N a b) c = sl (hs a c) b := by
  have e : el (pairv N a b) c = if hs a c = true then b else (0, 0) := by simp [pairv, el, List.getD, hc]
  rw [e]
  rfl
theorem left_no (l : Int) (x : Nat × Nat) (lx : lt2 x) (ox : ofB l (x.1 : Int) (x.2 : Int) = false) : Ret 8 #[.int .i64 l, .agg #[.int .u64 (x.1 : Int), .int .u64 (x.2 : Int)]] (.slice none 0 0) := by
  intro W
  have HO := hidT (of_ret l x.1 x.2 lx.2)
  rw [ox] at HO
  go_enter Try.func8, Try.ntmps8
  go_wp2_with (go_at_call 33; refine (HO.out.go _).mono ?_; rintro e w1 ⟨rfl, hb1⟩)
  go_ret
  exact ⟨rfl, ((Below.refl _ _).alloc (Nat.le_refl _) _).trans (hb1.mono (by simp))⟩
set_option linter.unusedSimpArgs false in
set_option linter.unusedVariables false in
set_option maxHeartbeats 4000000 in
set_option maxRecDepth 100000 in
theorem left_ok (k : Nat) (hk : k < 8) (N : Nat) (hN : N = 2 ^ k) (x : Nat × Nat) (lx : lt2 x) (ox : ofB (k : Int) (x.1 : Int) (x.2 : Int) = true) (W : World) :
    Calls Try.prog 8 #[.int .i64 (k : Int), .agg #[.int .u64 (x.1 : Int), .int .u64 (x.2 : Int)]] W fun e w' => ∃ p, e = .returned (.slice (some ⟨p, 0, none⟩) N N) ∧ (ERow w' (some ⟨p, 0, none⟩) (pairv N x (0, 1)) ∧ ∃ F, w'.rowIs p 24 (N * 2) F) ∧ W.heap.size ≤ p ∧ Below W.heap.size W w' := by
  have HO := hidT (of_ret (k : Int) x.1 x.2 lx.2)
  rw [ox] at HO
  have O1 := hidT (fun w => one_any w)
  have AP := hidT (fun (R w : World) (hT : Tn R w N (fun _ => (0, 0))) => addpair_any k hk N hN (fun _ => (0, 0)) (fun _ => lt_zero) x (0, 1) lx ox lt_one R w hT)
  have k0 : ¬ (k : Int) < 0 := by omega
  have k1 : (0 : Int) ≤ (k : Int) := by omega
  have k2 : (k : Int) < 64 := by omega
  have hsh : wrap64 ((2 : Int) ^ k) = (N : Int) := by
    rw [hN]
    have : ∀ k, k < 8 → wrap64 ((2 : Int) ^ k) = ((2 ^ k : Nat) : Int) := by decide +kernel
    exact this k hk
  have n1 : N ≤ 128 := by rw [hN]; exact Nat.le_trans (Nat.pow_le_pow_right (by decide) (show k ≤ 7 by omega)) (by decide)
  obtain ⟨i0, hi, hz0, hz1, hz2⟩ := info_elem
  have HI := hidT (show Try.prog.info? 24 = some i0 ∧ i0.zero = some (.agg #[.int .u64 0, .int .u64 0]) ∧ i0.size = 2 ∧ i0.bytes = 16 from ⟨hi, hz0, hz1, hz2⟩)
  clear hi hz0 hz1 hz2 ox lx hN
  go_enter Try.func8, Try.ntmps8
  go_upto_region 4 with (first
      | (go_at_call 33; refine (HO.out.go _).mono ?_; rintro e w1 ⟨rfl, hb1⟩; have f1 : w1.cell? ⟨W.heap.size, 0, none⟩ = some (.int .u64 (x.1 : Int)) := keepc hb1 (by simp [go_sem]); have f0 : w1.cell? ⟨W.heap.size, 1, none⟩ = some (.int .u64 (x.2 : Int)) := keepc hb1 (by simp [go_sem]); have D1 := hidT (((Below.refl W.heap.size W).alloc (Nat.le_refl _) _).trans (hb1.mono (by simp))); have HS1 := hidT (show W.heap.size + 1 ≤ w1.heap.size from by have := hb1.size; simpa using this); clear hb1)
      | (at_make; rw [hsh]; refine wpList_make_full _ rfl _ _ 26 rfl 0 24 i0 (.agg #[.int .u64 0, .int .u64 0]) 2 Try.underlying26 HI.out.1 HI.out.2.1 HI.out.2.2.1 .i64 .i64 _ _ N rfl rfl rfl rfl (by rw [HI.out.2.2.2]; omega) (by simp only [maxLen]; omega) (Nat.zero_le _) ?_; intro w3 own3 hgr3; have K0 := Tn.start own3 hgr3 (fun _ => (0, 0)) (fun c _ => rfl); have K := hidT (show Tn w1 w3 N (fun _ => (0, 0)) ∧ El w3 W.heap.size x.1 x.2 from ⟨K0, ⟨keepc K0.d f1, keepc K0.d f0⟩⟩); clear own3 hgr3 f1 f0 K0))
  have HX9 := hidT (show W.heap.size < w1.heap.size from by have := HS1.out; omega)
  refine wp_region_noPanic ?_
  refine wp_region_held_drew (S := fun w => w.cell? ⟨W.heap.size, 0, none⟩ = some (.int .u64 (x.1 : Int)) ∧ w.cell? ⟨W.heap.size, 1, none⟩ = some (.int .u64 (x.2 : Int))) (by kernel_rfl) (by first | exact ⟨K.out.2.hi, K.out.2.lo⟩ | exact ⟨K.out.2.drew.hi, K.out.2.drew.lo⟩) (fun hHeld => ?_)
  refine wpAnyH_take (i := 0) (oi := _) (v := ?_) rfl (by kernel_rfl) (by kernel_rfl) (by kernel_rfl) (fun _ _ _ h => h) (Or.inl ⟨by rfl, ?_⟩) (by assumption) ?_
  rotate_left
  · ((intro w hSw; (try dsimp only at hSw); go_simp) <;> (try with_reducible rfl))
  show wpAnyH _ _ _ _ _ _ _ (Act.put _ (some 13) _) _
  simp only [Act.put, List.setIfInBounds_toArray, List.set_cons_succ, List.set_cons_zero]
  refine wpAnyH_take (i := 1) (oi := _) (v := ?_) rfl (by kernel_rfl) (by kernel_rfl) (by kernel_rfl) (fun _ _ _ h => h) (Or.inl ⟨by rfl, ?_⟩) (by assumption) ?_
  rotate_left
  · ((intro w hSw; (try dsimp only at hSw); go_simp) <;> (try with_reducible rfl))
  show wpAnyH _ _ _ _ _ _ _ (Act.put _ (some 14) _) _
  simp only [Act.put, List.setIfInBounds_toArray, List.set_cons_succ, List.set_cons_zero]
  refine wpAnyH_take (i := 2) (oi := _) (v := ?_) rfl (by kernel_rfl) (by kernel_rfl) (by kernel_rfl) (fun _ _ _ h => h) (Or.inl ⟨by rfl, ?_⟩) (by assumption) ?_
  rotate_left
  · ((intro w hSw; (try dsimp only at hSw); go_simp) <;> (try with_reducible rfl))
  show wpAnyH _ _ _ _ _ _ _ (Act.put _ (some 15) _) _
  simp only [Act.put, List.setIfInBounds_toArray, List.set_cons_succ, List.set_cons_zero]
  refine wpAnyH_ready (rs := [3]) (by kernel_rfl) (by simp) ?_
  refine AllReadyH.cons (o := _) rfl (fun KK hKK => ?_) AllReadyH.nil
  go_simp
  (go_at_call 35; refine (O1.out _).mono ?_; rintro e w9 ⟨rfl, hb⟩)
  have K'' := hidT (show Tn w1 w9 N (fun _ => (0, 0)) ∧ El w9 W.heap.size x.1 x.2 from by first | exact ⟨K.out.1.below hb, K.out.2.below hb⟩ | exact ⟨K.out.1.drew.below hb, K.out.2.drew.below hb⟩)
  clear K hb
  have K := K''
  clear K''
  refine hKK.out _ _ ?_ (fun hHeld => ?_)
  · exact by first | exact ⟨K.out.2.hi, K.out.2.lo⟩ | exact ⟨K.out.2.drew.hi, K.out.2.drew.lo⟩
  clear hKK KK
  try simp only [Act.put]
  refine wpAnyH_ready (rs := [4]) (by kernel_rfl) (by simp) ?_
  refine AllReadyH.cons (o := _) rfl (fun KK hKK => ?_) AllReadyH.nil
  go_simp
  (go_at_call 34; refine (AP.out w1 _ (by first | exact K.out.1 | exact K.out.1.drew)).mono ?_; rintro e w9 ⟨rfl, hT9⟩)
  have K5 := hidT hT9
  have hlt9 := K.out.1.row.lt
  have hE9 : El w9 W.heap.size x.1 x.2 := by
    have e1 := hT9.d.block W.heap.size (by have := D1.out.size; have := HX9.out; omega)
    have e2 := K.out.1.d.block W.heap.size (by have := HX9.out; omega)
    have e3 := K.out.2
    exact ⟨(World.cell?_of_block (e1.trans e2.symm)).trans e3.hi, (World.cell?_of_block (e1.trans e2.symm)).trans e3.lo⟩
  clear K hT9 hlt9
  have K := hidT (show True ∧ El w9 W.heap.size x.1 x.2 from ⟨trivial, hE9⟩)
  clear hE9
  refine hKK.out _ _ ?_ (fun hHeld => ?_)
  · exact by first | exact ⟨K.out.2.hi, K.out.2.lo⟩ | exact ⟨K.out.2.drew.hi, K.out.2.drew.lo⟩
  clear hKK KK
  try simp only [Act.put]
  refine wpAnyH_done (by kernel_rfl) ?_ _
  refine NoPanic.normal ?_
  go_wp2
  go_ret
  have K6 := K5.out.like (h' := fun c => sl (hs x c) (0, 1)) fun c _ => zero_xa _
  exact ⟨_, rfl, ⟨K6.erow (pairv_len N x (0, 1)) (fun c hc => pairv_at N x (0, 1) c hc), _, K6.row⟩, D1.out.size, D1.out.trans (K6.d.mono D1.out.size)⟩
theorem of_one8 {k : Nat} (hk : k < 8) : ofB (k : Int) 0 1 = true := by
  have := ofe_one hk
  exact this
theorem one_ok (k : Nat) (hk : k < 8) (N : Nat) (hN : N = 2 ^ k) (W : World) :
    Calls Try.prog 11 #[.int .i64 (k : Int)] W fun e w' => ∃ p, e = .returned (.slice (some ⟨p, 0, none⟩) N N) ∧ (ERow w' (some ⟨p, 0, none⟩) (pairv N (0, 1) (0, 1)) ∧ ∃ F, w'.rowIs p 24 (N * 2) F) ∧ W.heap.size ≤ p ∧ Below W.heap.size W w' := by
  have O1 := hidT (fun w => one_any w)
  have HL := hidT (fun w => left_ok k hk N hN (0, 1) lt_one (of_one8 hk) w)
  clear hN
  go_enter Try.func11, Try.ntmps11
  go_wp2_with (first | (go_at_call 35; refine (O1.out _).mono ?_; rintro e w1 ⟨rfl, hb1⟩) | (go_at_call 8; refine (HL.out _).mono ?_; rintro e w2 ⟨p, rfl, hr, hp, hb2⟩))
  go_ret
  exact ⟨p, rfl, hr, Nat.le_trans hb1.size hp, hb1.trans (hb2.mono hb1.size)⟩
theorem one_no (l : Int) (hl : ¬ (0 ≤ l ∧ l ≤ 7)) : Ret 11 #[.int .i64 l] (.slice none 0 0) := by
  intro W
  have O1 := hidT (fun w => one_any w)
  have HL := hidT (left_no l (0, 1) lt_one (by
    unfold ofB
    have : levelB l = false := by unfold levelB; simp; omega
    rw [this]
    rfl))
  go_enter Try.func11, Try.ntmps11
  go_wp2_with (first | (go_at_call 35; refine (O1.out _).mono ?_; rintro e w1 ⟨rfl, hb1⟩) | (go_at_call 8; refine (HL.out.go _).mono ?_; rintro e w2 ⟨rfl, hb2⟩))
  go_ret
  exact ⟨rfl, hb1.trans (hb2.mono hb1.size)⟩
end Pv
end Go.Proofs.Ytcejppibcemdeaa

/- Rows of packv that are joined: pure laws of memory. -/
namespace Go.Proofs.Ytcejppibcemdeaa
open Go.RowKit
open Cb Rg
open Tw (pm)
namespace Pv

theorem grid_new (w : World) (T : TypeId) (ls : List (Option Addr × Nat × Nat)) (cs : Array Value) (h : cs = (ls.map fun r => Value.slice r.1 r.2.1 r.2.2).toArray) : Grid (w.alloc (Obj.cells cs T)) (some ⟨w.heap.size, 0, none⟩) ls := ⟨fun i hi => by
  refine ⟨w.heap.size, 0, rfl, by simp, ?_⟩
  subst h
  have e : ls.getD i (none, 0, 0) = ls[i] := by simp [List.getD, hi]
  rw [e, Nat.zero_add]
  have h2 := heap_alloc_new w (Obj.cells (ls.map fun r => Value.slice r.1 r.2.1 r.2.2).toArray T)
  unfold World.cell?
  rw [h2]
  simp [hi]⟩
theorem erow_drop {w : World} {b off : Nat} {t : List (Nat × Nat)} (n : Nat) (h : ERow w (some ⟨b, off, none⟩) t) : ERow w (some ⟨b, off + n * 2, none⟩) (t.drop n) := ⟨fun i hi => by
  rw [List.length_drop] at hi
  obtain ⟨b', o', e, h1, h2, h3⟩ := h.cells (n + i) (by omega)
  injection e with e
  injection e with e1 e2
  subst e1
  subst e2
  have e4 : (t.drop n).getD i (0, 0) = t.getD (n + i) (0, 0) := by simp [List.getD]
  rw [e4]
  refine ⟨b, off + n * 2, rfl, h1, ?_, ?_⟩
  · rw [show off + n * 2 + i * 2 = off + (n + i) * 2 by omega]; exact h2
  · rw [show off + n * 2 + i * 2 + 1 = off + (n + i) * 2 + 1 by omega]; exact h3⟩
theorem erow_take {w : World} {a : Option Addr} {t : List (Nat × Nat)} (n : Nat) (h : ERow w a t) : ERow w a (t.take n) := ⟨fun i hi => by
  rw [List.length_take] at hi
  obtain ⟨b', o', e, h1, h2, h3⟩ := h.cells i (by omega)
  have e4 : (t.take n).getD i (0, 0) = t.getD i (0, 0) := by simp [List.getD, List.getElem?_take_of_lt (show i < n by omega)]
  rw [e4]
  exact ⟨b', o', e, h1, h2, h3⟩⟩
theorem flat_lenP (es : List (Nat × Nat)) : (flat es).length = es.length * 2 := by
  induction es with
  | nil => rfl
  | cons e l ih =>
    have : flat (e :: l) = [.int .u64 (e.1 : Nat), .int .u64 (e.2 : Nat)] ++ flat l := by simp [flat]
    rw [this, List.length_append, ih, List.length_cons]
    simp
    omega
/-- A row of one's own, told by its elements. -/
theorem own_erow {w : World} {base g N : Nat} {F : Nat → Value} {es : List (Nat × Nat)} (hb : base ≤ g) (hm : N ≤ maxLen) (hl : es.length = N) (hF : w.rowIs g 24 (N * 2) F) (hE : ERow w (some ⟨g, 0, none⟩) es) :
    w.ownsRow base 24 2 (.slice (some ⟨g, 0, none⟩) N N) N (flat es) := by
  obtain ⟨cs, h1, h2, h3⟩ := hF
  refine ⟨by rw [flat_lenP, hl], .inr ⟨g, N, cs, rfl, hb, h1, Nat.le_refl _, hm, h2, ?_⟩⟩
  rw [List.take_of_length_le (by rw [Array.length_toList, h2]; exact Nat.le_refl _)]
  have hfl : (flat es).length = N * 2 := by rw [flat_lenP, hl]
  refine List.ext_getElem? fun i => ?_
  by_cases hi : i < N * 2
  · obtain ⟨b, off, e, _, c1, c0⟩ := hE.cells (i / 2) (by omega)
    injection e with e
    injection e with e1 e2
    subst e1
    subst e2
    have hat := flat_at es (i / 2) (by omega)
    rw [Nat.zero_add] at c1 c0
    rcases Nat.mod_two_eq_zero_or_one i with hm2 | hm2
    · have hi2 : i / 2 * 2 = i := by omega
      rw [hi2] at c1 hat
      rw [hat.1, ← c1]
      simp [World.cell?, h1]
    · have hi2 : i / 2 * 2 + 1 = i := by omega
      rw [hi2] at c0 hat
      rw [hat.2, ← c0]
      simp [World.cell?, h1]
  · rw [List.getElem?_eq_none (by rw [Array.length_toList]; omega), List.getElem?_eq_none (by omega)]
theorem own_join {w : World} {base h : Nat} {T : TypeId} {v : Value} {A B : List (Nat × Nat)} (h0 : 0 < h) (ha : A.length = h) (hb : B.length = h) (k : w.ownsRow base T 2 v (h + h) (flat A ++ flat B)) :
    ∃ g cap, v = .slice (some ⟨g, 0, none⟩) (h + h) cap ∧ h + h ≤ cap ∧ ERow w (some ⟨g, 0, none⟩) (A ++ B) ∧ base ≤ g := by
  have k' : w.ownsRow base T 2 v (A ++ B).length (flat (A ++ B)) := by
    rw [List.length_append, ha, hb]
    simpa [flat] using k
  rcases k.2 with ⟨_, h1⟩ | ⟨g, cap, cur, rfl, hb2, hg, hn, _⟩
  · omega
  · obtain ⟨a, c, e, hE⟩ := own_row k'
    injection e with e1 e2 e3
    subst e1
    exact ⟨g, cap, rfl, hn, hE, hb2⟩
end Pv
end Go.Proofs.Ytcejppibcemdeaa
