/- The walk of WeaveColumns over the seat's translation. -/
import Derived.Test.YtccaobfhldfamaaWmB
import Derived.Test.YtccaobfhldfamaaWvF
import Derived.Test.YtccaobfhldfamaaPIvA
import Derived.Test.YtccaobfhldfamaaIvB
namespace Go.Proofs.Ytccaobfhldfamaa
open Go.RowKit
open Cb Rg
open Tw (pm)

/-- The box of the second argument, and rows that were made. -/
structure Kx (W w : World) (a2 : Option Addr) (m cap2 : Nat) (J : Int) (L : List (Option Addr × List (Nat × Nat))) : Prop where
  c0 : w.cell? ⟨W.heap.size, 0, none⟩ = some (.slice a2 m cap2)
  c1 : w.cell? ⟨W.heap.size, 1, none⟩ = some (.int .i64 J)
  r : ∀ q ∈ L, ERow w q.1 q.2
  d : Below W.heap.size W w
theorem Kx.below {W w w' : World} {a2 : Option Addr} {m cap2 : Nat} {J : Int} {L : List (Option Addr × List (Nat × Nat))} (k : Kx W w a2 m cap2 J L) (hb : Below w.heap.size w w') : Kx W w' a2 m cap2 J L := ⟨keepc hb k.c0, keepc hb k.c1, fun q hq => (k.r q hq).below hb, k.d.trans (hb.mono k.d.size)⟩
theorem Kx.drew {W w : World} {a2 : Option Addr} {m cap2 : Nat} {J : Int} {L : List (Option Addr × List (Nat × Nat))} (k : Kx W w a2 m cap2 J L) : Kx W w.drew a2 m cap2 J L := k.below (Below.refl _ _).drew
theorem Kx.add {W w : World} {a2 : Option Addr} {m cap2 : Nat} {J : Int} {L : List (Option Addr × List (Nat × Nat))} (k : Kx W w a2 m cap2 J L) {p : Option Addr} {es : List (Nat × Nat)} (h : ERow w p es) : Kx W w a2 m cap2 J ((p, es) :: L) := ⟨k.c0, k.c1, fun q hq => by
  rcases List.mem_cons.1 hq with rfl | h1
  · exact h
  · exact k.r q h1, k.d⟩
theorem TRowW.drew {w : World} {a : Option Addr} {ts : List (List (Nat × Nat))} (h : TRowW w a ts) : TRowW w.drew a ts := h.below (Below.refl _ _).drew
set_option linter.unusedSimpArgs false in
set_option linter.unusedVariables false in
set_option maxHeartbeats 20000000 in
set_option maxRecDepth 100000 in
theorem wcols_walk (l J k1 k2 : Int) (a a2 : Option Addr) (cap cap2 n : Nat) (rs : List (List (Nat × Nat))) (ys xs zs : List (Nat × Nat)) (hx : xs.length ≤ 100000) (hz : zs.length ≤ 100000) (hy : ys.length ≤ 20) (W : World)
    (HF : Hid (∀ w, Below W.heap.size W w → Calls Try.prog 4 #[.slice a n cap, .int .i64 12, .int .i64 20] w fun e w' => e = .returned (.bool true) ∧ Below w.heap.size w w'))
    (H1 : Hid (∀ w , Below W.heap.size W w → Calls Try.prog 6 #[.slice a n cap, .int .i64 J] w fun e w' => ∃ p c, e = .returned (.tuple #[.slice p xs.length c, .int .i64 k1]) ∧ ERow w' p xs ∧ Below w.heap.size w w'))
    (H2 : Hid (∀ w ar cr, Below W.heap.size W w → TRowW w ar rs → Calls Try.prog 7 #[.slice ar n cr, .int .i64 J] w fun e w' => ∃ p c, e = .returned (.tuple #[.slice p xs.length c, .int .i64 k1]) ∧ ERow w' p xs ∧ Below w.heap.size w w'))
    (H3 : Hid (∀ w , Below W.heap.size W w → Calls Try.prog 9 #[.int .i64 l, .slice a n cap, .slice a2 ys.length cap2] w fun e w' => ∃ p c, e = .returned (.tuple #[.slice p zs.length c, .int .i64 k2]) ∧ ERow w' p zs ∧ Below w.heap.size w w'))
    (H4 : Hid (∀ w ar cr ay cy, Below W.heap.size W w → TRowW w ar rs → ERow w ay ys → Calls Try.prog 10 #[.int .i64 l, .slice ar n cr, .slice ay ys.length cy] w fun e w' => ∃ p c, e = .returned (.tuple #[.slice p zs.length c, .int .i64 k2]) ∧ ERow w' p zs ∧ Below w.heap.size w w'))
    (HR : Hid (∀ w, Below W.heap.size W w → Calls Try.prog 8 #[.slice a n cap] w fun e w' => ∃ a' cap', e = .returned (.slice a' n cap') ∧ TRowW w' a' rs ∧ Below w.heap.size w w'))
    (HY : Hid (∀ w, Below W.heap.size W w → Calls Try.prog 11 #[.slice a2 ys.length cap2] w fun e w' => ∃ a' cap', e = .returned (.slice a' ys.length cap') ∧ ERow w' a' ys ∧ Below w.heap.size w w')) :
    Calls Try.prog 3 #[.int .i64 l, .slice a n cap, .agg #[.slice a2 ys.length cap2, .int .i64 J]] W fun e w' => e = .returned (.bool true) ∧ Below W.heap.size W w' := by
  have AW := hidT awake9
  have y1 : ¬ (20 : Int) < (ys.length : Int) := by omega
  go_enter Try.func3, Try.ntmps3
  go_upto_region 4 with (first
    | (go_at_call 4; refine (HF.out _ ((Below.refl _ _).alloc (Nat.le_refl _) _)).mono ?_; rintro e w1 ⟨rfl, hb1⟩; have K1 : Hid (Kx W w1 a2 ys.length cap2 J []) := Kx.below ⟨by simp [go_sem], by simp [go_sem], fun q hq => by simp at hq, (Below.refl _ _).alloc (Nat.le_refl _) _⟩ hb1; clear hb1; obtain ⟨f0, f1⟩ := And.intro K1.out.c0 K1.out.c1)
    | (go_at_call 6; refine (H1.out _ K1.out.d).mono ?_; rintro e w2 ⟨pa, ca, rfl, hE, hb2⟩; have K := hidT (And.intro ((K1.out.below hb2).add hE) True.intro); clear hb2 K1 f0 f1 hE))
  obtain ⟨f0, f1⟩ := And.intro K.out.1.c0 K.out.1.c1
  refine wp_region_noPanic ?_
  refine wp_region_held_drew (S := fun w => w.cell? ⟨W.heap.size, 0, none⟩ = some (.slice a2 ys.length cap2) ∧ w.cell? ⟨W.heap.size, 1, none⟩ = some (.int .i64 J)) (by kernel_rfl) ((by first | exact ⟨K.out.1.c0, K.out.1.c1⟩ | exact ⟨K.out.1.drew.c0, K.out.1.drew.c1⟩)) (fun hHeld => ?_)
  refine wpAnyH_take (i := 0) (oi := _) (v := ?_) rfl (by kernel_rfl) (by kernel_rfl) (by kernel_rfl) (fun _ _ _ h => h) (Or.inl ⟨by rfl, ?_⟩) (by assumption) ?_
  rotate_left
  · ((intro w hSw; (try dsimp only at hSw); go_simp) <;> (try with_reducible rfl))
  show wpAnyH _ _ _ _ _ _ _ (Act.put _ (some 33) _) _
  simp only [Act.put, List.setIfInBounds_toArray, List.set_cons_succ, List.set_cons_zero]
  refine wpAnyH_take (i := 2) (oi := _) (v := ?_) rfl (by kernel_rfl) (by kernel_rfl) (by kernel_rfl) (fun _ _ _ h => h) (Or.inl ⟨by rfl, ?_⟩) (by assumption) ?_
  rotate_left
  · ((intro w hSw; (try dsimp only at hSw); go_simp) <;> (try with_reducible rfl))
  show wpAnyH _ _ _ _ _ _ _ (Act.put _ (some 35) _) _
  simp only [Act.put, List.setIfInBounds_toArray, List.set_cons_succ, List.set_cons_zero]
  refine wpAnyH_take (i := 3) (oi := _) (v := ?_) rfl (by kernel_rfl) (by kernel_rfl) (by kernel_rfl) (fun _ _ _ h => h) (Or.inl ⟨by rfl, ?_⟩) (by assumption) ?_
  rotate_left
  · ((intro w hSw; (try dsimp only at hSw); go_simp) <;> (try with_reducible rfl))
  show wpAnyH _ _ _ _ _ _ _ (Act.put _ (some 36) _) _
  simp only [Act.put, List.setIfInBounds_toArray, List.set_cons_succ, List.set_cons_zero]
  refine wpAnyH_ready (rs := [1]) (by kernel_rfl) (by simp) ?_
  refine AllReadyH.cons (o := _) rfl (fun KK hKK => ?_) AllReadyH.nil
  go_simp
  (go_at_call 8; refine (HR.out _ (by first | exact K.out.1.d | exact K.out.1.drew.d)).mono ?_; rintro e w9 ⟨ar, cr, rfl, hT, hb⟩)
  have K'' := hidT (And.intro (Kx.below (w' := w9) (by first | exact K.out.1 | exact K.out.1.drew) hb) (And.intro hT trivial))
  clear K hb
  have K := K''
  clear K''
  refine hKK.out _ _ ?_ (fun hHeld => ?_)
  · exact (by first | exact ⟨K.out.1.c0, K.out.1.c1⟩ | exact ⟨K.out.1.drew.c0, K.out.1.drew.c1⟩)
  clear hKK KK
  try simp only [Act.put]
  refine wpAnyH_ready (rs := [4]) (by kernel_rfl) (by simp) ?_
  refine AllReadyH.cons (o := _) rfl (fun KK hKK => ?_) AllReadyH.nil
  go_simp
  (go_at_call 7; refine (H2.out _ ar cr (by first | exact K.out.1.d | exact K.out.1.drew.d) (by first | exact K.out.2.1 | exact K.out.2.1.drew)).mono ?_; rintro e w9 ⟨pb, cb, rfl, hE, hb⟩)
  have K'' := hidT (And.intro ((Kx.below (w' := w9) (by first | exact K.out.1 | exact K.out.1.drew) hb).add hE) True.intro)
  clear K hb
  have K := K''
  clear K''
  refine hKK.out _ _ ?_ (fun hHeld => ?_)
  · exact (by first | exact ⟨K.out.1.c0, K.out.1.c1⟩ | exact ⟨K.out.1.drew.c0, K.out.1.drew.c1⟩)
  clear hKK KK
  try simp only [Act.put]
  refine wpAnyH_take (i := 5) (oi := _) (v := ?_) rfl (by kernel_rfl) (by kernel_rfl) (by kernel_rfl) (fun _ _ _ h => h) (Or.inl ⟨by rfl, ?_⟩) (by assumption) ?_
  rotate_left
  · ((intro w hSw; (try dsimp only at hSw); go_simp) <;> (try with_reducible rfl))
  show wpAnyH _ _ _ _ _ _ _ (Act.put _ (some 32) _) _
  simp only [Act.put, List.setIfInBounds_toArray, List.set_cons_succ, List.set_cons_zero]
  refine wpAnyH_take (i := 6) (oi := _) (v := ?_) rfl (by kernel_rfl) (by kernel_rfl) (by kernel_rfl) (fun _ _ _ h => h) (Or.inl ⟨by rfl, ?_⟩) (by assumption) ?_
  rotate_left
  · ((intro w hSw; (try dsimp only at hSw); go_simp) <;> (try with_reducible rfl))
  show wpAnyH _ _ _ _ _ _ _ (Act.put _ (some 38) _) _
  simp only [Act.put, List.setIfInBounds_toArray, List.set_cons_succ, List.set_cons_zero]
  refine wpAnyH_take (i := 7) (oi := _) (v := ?_) rfl (by kernel_rfl) (by kernel_rfl) (by kernel_rfl) (fun _ _ _ h => h) (Or.inl ⟨by rfl, ?_⟩) (by assumption) ?_
  rotate_left
  · ((intro w hSw; (try dsimp only at hSw); go_simp) <;> (try with_reducible rfl))
  show wpAnyH _ _ _ _ _ _ _ (Act.put _ (some 39) _) _
  simp only [Act.put, List.setIfInBounds_toArray, List.set_cons_succ, List.set_cons_zero]
  refine wpAnyH_take (i := 8) (oi := _) (v := ?_) rfl (by kernel_rfl) (by kernel_rfl) (by kernel_rfl) (fun _ _ _ h => h) (Or.inl ⟨by rfl, ?_⟩) (by assumption) ?_
  rotate_left
  · ((intro w hSw; (try dsimp only at hSw); go_simp) <;> (try with_reducible rfl))
  show wpAnyH _ _ _ _ _ _ _ (Act.put _ (some 9) _) _
  simp only [Act.put, List.setIfInBounds_toArray, List.set_cons_succ, List.set_cons_zero]
  refine wpAnyH_take (i := 9) (oi := _) (v := ?_) rfl (by kernel_rfl) (by kernel_rfl) (by kernel_rfl) (fun _ _ _ h => h) (Or.inl ⟨by rfl, ?_⟩) (by assumption) ?_
  rotate_left
  · ((intro w hSw; (try dsimp only at hSw); go_simp) <;> (try with_reducible rfl))
  show wpAnyH _ _ _ _ _ _ _ (Act.put _ (some 10) _) _
  simp only [Act.put, List.setIfInBounds_toArray, List.set_cons_succ, List.set_cons_zero]
  refine wpAnyH_done (by kernel_rfl) ?_ _
  refine NoPanic.normal ?_
  obtain ⟨f0, f1⟩ := And.intro K.out.1.c0 K.out.1.c1
  go_upto_region 6 with (go_at_call 9; refine (H3.out _ K.out.1.d).mono ?_; rintro e w9 ⟨pc, cc, rfl, hE, hb⟩; have K'' := hidT (And.intro ((K.out.1.below hb).add hE) True.intro); clear K hb f0 f1; have K := K''; clear K'')
  obtain ⟨f0, f1⟩ := And.intro K.out.1.c0 K.out.1.c1
  refine wp_region_noPanic ?_
  refine wp_region_held_drew (S := fun w => w.cell? ⟨W.heap.size, 0, none⟩ = some (.slice a2 ys.length cap2) ∧ w.cell? ⟨W.heap.size, 1, none⟩ = some (.int .i64 J)) (by kernel_rfl) ((by first | exact ⟨K.out.1.c0, K.out.1.c1⟩ | exact ⟨K.out.1.drew.c0, K.out.1.drew.c1⟩)) (fun hHeld => ?_)
  refine wpAnyH_take (i := 0) (oi := _) (v := ?_) rfl (by kernel_rfl) (by kernel_rfl) (by kernel_rfl) (fun _ _ _ h => h) (Or.inl ⟨by rfl, ?_⟩) (by assumption) ?_
  rotate_left
  · ((intro w hSw; (try dsimp only at hSw); go_simp) <;> (try with_reducible rfl))
  show wpAnyH _ _ _ _ _ _ _ (Act.put _ (some 49) _) _
  simp only [Act.put, List.setIfInBounds_toArray, List.set_cons_succ, List.set_cons_zero]
  refine wpAnyH_take (i := 1) (oi := _) (v := ?_) rfl (by kernel_rfl) (by kernel_rfl) (by kernel_rfl) (fun _ _ _ h => h) (Or.inl ⟨by rfl, ?_⟩) (by assumption) ?_
  rotate_left
  · ((intro w hSw; (try dsimp only at hSw); go_simp) <;> (try with_reducible rfl))
  show wpAnyH _ _ _ _ _ _ _ (Act.put _ (some 50) _) _
  simp only [Act.put, List.setIfInBounds_toArray, List.set_cons_succ, List.set_cons_zero]
  refine wpAnyH_take (i := 3) (oi := _) (v := ?_) rfl (by kernel_rfl) (by kernel_rfl) (by kernel_rfl) (fun _ _ _ h => h) (Or.inl ⟨by rfl, ?_⟩) (by assumption) ?_
  rotate_left
  · ((intro w hSw; (try dsimp only at hSw); go_simp) <;> (try with_reducible rfl))
  show wpAnyH _ _ _ _ _ _ _ (Act.put _ (some 52) _) _
  simp only [Act.put, List.setIfInBounds_toArray, List.set_cons_succ, List.set_cons_zero]
  refine wpAnyH_take (i := 4) (oi := _) (v := ?_) rfl (by kernel_rfl) (by kernel_rfl) (by kernel_rfl) (fun _ _ _ h => h) (Or.inl ⟨by rfl, ?_⟩) (by assumption) ?_
  rotate_left
  · ((intro w hSw; (try dsimp only at hSw); go_simp) <;> (try with_reducible rfl))
  show wpAnyH _ _ _ _ _ _ _ (Act.put _ (some 53) _) _
  simp only [Act.put, List.setIfInBounds_toArray, List.set_cons_succ, List.set_cons_zero]
  refine wpAnyH_ready (rs := [2]) (by kernel_rfl) (by simp) ?_
  refine AllReadyH.cons (o := _) rfl (fun KK hKK => ?_) AllReadyH.nil
  go_simp
  (go_at_call 8; refine (HR.out _ (by first | exact K.out.1.d | exact K.out.1.drew.d)).mono ?_; rintro e w9 ⟨br, dr, rfl, hT, hb⟩)
  have K'' := hidT (And.intro (Kx.below (w' := w9) (by first | exact K.out.1 | exact K.out.1.drew) hb) (And.intro hT trivial))
  clear K hb
  have K := K''
  clear K''
  refine hKK.out _ _ ?_ (fun hHeld => ?_)
  · exact (by first | exact ⟨K.out.1.c0, K.out.1.c1⟩ | exact ⟨K.out.1.drew.c0, K.out.1.drew.c1⟩)
  clear hKK KK
  try simp only [Act.put]
  refine wpAnyH_ready (rs := [5]) (by kernel_rfl) (by simp) ?_
  refine AllReadyH.cons (o := _) rfl (fun KK hKK => ?_) AllReadyH.nil
  go_simp
  (go_at_call 11; refine (HY.out _ (by first | exact K.out.1.d | exact K.out.1.drew.d)).mono ?_; rintro e w9 ⟨ay, cy, rfl, hE, hb⟩)
  have K'' := hidT (And.intro (Kx.below (w' := w9) (by first | exact K.out.1 | exact K.out.1.drew) hb) (And.intro (TRowW.below (w' := w9) (by first | exact K.out.2.1 | exact K.out.2.1.drew) hb) hE))
  clear K hb hE
  have K := K''
  clear K''
  refine hKK.out _ _ ?_ (fun hHeld => ?_)
  · exact (by first | exact ⟨K.out.1.c0, K.out.1.c1⟩ | exact ⟨K.out.1.drew.c0, K.out.1.drew.c1⟩)
  clear hKK KK
  try simp only [Act.put]
  refine wpAnyH_ready (rs := [6]) (by kernel_rfl) (by simp) ?_
  refine AllReadyH.cons (o := _) rfl (fun KK hKK => ?_) AllReadyH.nil
  go_simp
  (go_at_call 10; refine (H4.out _ br dr ay cy (by first | exact K.out.1.d | exact K.out.1.drew.d) (by first | exact K.out.2.1 | exact K.out.2.1.drew) (by first | exact K.out.2.2 | exact K.out.2.2.drew)).mono ?_; rintro e w9 ⟨pd, cd, rfl, hE, hb⟩)
  have K'' := hidT (And.intro ((Kx.below (w' := w9) (by first | exact K.out.1 | exact K.out.1.drew) hb).add hE) True.intro)
  clear K hb
  have K := K''
  clear K''
  refine hKK.out _ _ ?_ (fun hHeld => ?_)
  · exact (by first | exact ⟨K.out.1.c0, K.out.1.c1⟩ | exact ⟨K.out.1.drew.c0, K.out.1.drew.c1⟩)
  clear hKK KK
  try simp only [Act.put]
  refine wpAnyH_take (i := 7) (oi := _) (v := ?_) rfl (by kernel_rfl) (by kernel_rfl) (by kernel_rfl) (fun _ _ _ h => h) (Or.inl ⟨by rfl, ?_⟩) (by assumption) ?_
  rotate_left
  · ((intro w hSw; (try dsimp only at hSw); go_simp) <;> (try with_reducible rfl))
  show wpAnyH _ _ _ _ _ _ _ (Act.put _ (some 48) _) _
  simp only [Act.put, List.setIfInBounds_toArray, List.set_cons_succ, List.set_cons_zero]
  refine wpAnyH_take (i := 8) (oi := _) (v := ?_) rfl (by kernel_rfl) (by kernel_rfl) (by kernel_rfl) (fun _ _ _ h => h) (Or.inl ⟨by rfl, ?_⟩) (by assumption) ?_
  rotate_left
  · ((intro w hSw; (try dsimp only at hSw); go_simp) <;> (try with_reducible rfl))
  show wpAnyH _ _ _ _ _ _ _ (Act.put _ (some 56) _) _
  simp only [Act.put, List.setIfInBounds_toArray, List.set_cons_succ, List.set_cons_zero]
  refine wpAnyH_take (i := 9) (oi := _) (v := ?_) rfl (by kernel_rfl) (by kernel_rfl) (by kernel_rfl) (fun _ _ _ h => h) (Or.inl ⟨by rfl, ?_⟩) (by assumption) ?_
  rotate_left
  · ((intro w hSw; (try dsimp only at hSw); go_simp) <;> (try with_reducible rfl))
  show wpAnyH _ _ _ _ _ _ _ (Act.put _ (some 57) _) _
  simp only [Act.put, List.setIfInBounds_toArray, List.set_cons_succ, List.set_cons_zero]
  refine wpAnyH_take (i := 10) (oi := _) (v := ?_) rfl (by kernel_rfl) (by kernel_rfl) (by kernel_rfl) (fun _ _ _ h => h) (Or.inl ⟨by rfl, ?_⟩) (by assumption) ?_
  rotate_left
  · ((intro w hSw; (try dsimp only at hSw); go_simp) <;> (try with_reducible rfl))
  show wpAnyH _ _ _ _ _ _ _ (Act.put _ (some 13) _) _
  simp only [Act.put, List.setIfInBounds_toArray, List.set_cons_succ, List.set_cons_zero]
  refine wpAnyH_take (i := 11) (oi := _) (v := ?_) rfl (by kernel_rfl) (by kernel_rfl) (by kernel_rfl) (fun _ _ _ h => h) (Or.inl ⟨by rfl, ?_⟩) (by assumption) ?_
  rotate_left
  · ((intro w hSw; (try dsimp only at hSw); go_simp) <;> (try with_reducible rfl))
  show wpAnyH _ _ _ _ _ _ _ (Act.put _ (some 14) _) _
  simp only [Act.put, List.setIfInBounds_toArray, List.set_cons_succ, List.set_cons_zero]
  refine wpAnyH_done (by kernel_rfl) ?_ _
  refine NoPanic.normal ?_
  clear f0 f1
  have X1 := K.out.1.r (pd, zs) (by simp)
  have X2 := K.out.1.r (pc, zs) (by simp)
  have X3 := K.out.1.r (pb, xs) (by simp)
  have X4 := K.out.1.r (pa, xs) (by simp)
  go_wp2_with (first
    | (go_at_call 5; refine (AW.out.go _).mono ?_; rintro e w1 ⟨rfl, hb1⟩; have K1 := hidT (K.out.1.below hb1); clear hb1 X1 X2 X3 X4)
    | (go_at_call_of 12 (#[.slice pa xs.length ca, .slice pb xs.length cb] : Array Value); refine (same_rows pa pb ca cb xs hx _ (K1.out.r (pa, xs) (by simp)) (K1.out.r (pb, xs) (by simp))).mono ?_; rintro e w2 ⟨rfl, hb2⟩; have K2 := hidT (K1.out.below hb2); clear hb2)
    | (go_at_call 12; refine (same_rows pc pd cc cd zs hz _ (K2.out.r (pc, zs) (by simp)) (K2.out.r (pd, zs) (by simp))).mono ?_; rintro e w3 ⟨rfl, hb3⟩; have K3 := hidT (K2.out.below hb3); clear hb3))
  go_ret
  exact ⟨by first | rfl | simp, K3.out.d⟩
end Go.Proofs.Ytccaobfhldfamaa
