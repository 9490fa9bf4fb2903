/- The awake of steeplelaw29 and the walk of ProofParams over the seat's translation. -/
import Derived.Test.YtjllijoiakccpaaPaC
namespace Go.Proofs.Ytjllijoiakccpaa
open Go.RowKit
namespace Pa

/-- Four ints in a box. -/
structure P4 (w : World) (b : Nat) (l r t q : Int) : Prop where
  c0 : w.cell? ⟨b, 0, none⟩ = some (.int .i64 l)
  c1 : w.cell? ⟨b, 1, none⟩ = some (.int .i64 r)
  c2 : w.cell? ⟨b, 2, none⟩ = some (.int .i64 t)
  c3 : w.cell? ⟨b, 3, none⟩ = some (.int .i64 q)
theorem P4.below {w w' : World} {b : Nat} {l r t q : Int} (h : P4 w b l r t q) (hb : Below w.heap.size w w') : P4 w' b l r t q := ⟨keepc hb h.c0, keepc hb h.c1, keepc hb h.c2, keepc hb h.c3⟩
theorem P4.new (w : World) (l r t q : Int) (T : TypeId) : P4 (w.alloc (Obj.cells #[.int .i64 l, .int .i64 r, .int .i64 t, .int .i64 q] T)) w.heap.size l r t q := ⟨by simp [go_sem], by simp [go_sem], by simp [go_sem], by simp [go_sem]⟩
theorem P4.alloc {w : World} {b : Nat} {l r t q : Int} (h : P4 w b l r t q) (o : Obj) : P4 (w.alloc o) b l r t q := h.below ((Below.refl _ _).alloc (Nat.le_refl _) _)
set_option maxHeartbeats 4000000 in
theorem awake29 : Ret 4 #[] (.bool true) := by
  intro W
  have HP := hidA (params_yes 3 0 1 2 (by decide))
  rw [three] at HP
  have HR := hidA (fun w => show Calls Try.prog 6 #[.string ⟨#[0, 0, 0, 3, 0, 0, 0, 0, 0, 0, 0, 1, 0, 0, 0, 2]⟩] w fun e w' => e = .returned (.tuple #[.agg #[.int .i64 3, .int .i64 0, .int .i64 1, .int .i64 2], .int .i64 0]) ∧ Below w.heap.size w w' from by
    have := readp_any (bytesP 3 0 1 2) (by rw [three]; decide) w
    obtain ⟨h0, h1, h2, h3, h4⟩ := bytes_read (l := 3) (r := 0) (t := 1) (q := 2) (by decide)
    rw [if_pos h0, h1, h2, h3, h4, three] at this
    exact this)
  go_enter Try.func4, Try.ntmps4
  go_upto_region 4 with (first
    | (go_at_call 5; refine (HP.out.go _).mono ?_; rintro e w1 ⟨rfl, hb1⟩; have K1 := hidA (And.intro ((P4.new W 3 0 1 2 23).below hb1) (((Below.refl W.heap.size W).alloc (Nat.le_refl _) _).trans (hb1.mono (by simp)))); clear hb1)
    | (go_at_call 6; refine (HR.out _).mono ?_; rintro e w2 ⟨rfl, hb2⟩; have K2 := hidA (And.intro (K1.out.1.below hb2) (K1.out.2.trans (hb2.mono K1.out.2.size))); clear hb2 K1))
  obtain ⟨f0, f1, f2, f3⟩ := K2.out.1.alloc (Obj.cells #[.int .i64 3, .int .i64 0, .int .i64 1, .int .i64 2] 23)
  obtain ⟨g0, g1, g2, g3⟩ := P4.new w2 3 0 1 2 23
  have D := hidA (K2.out.2.alloc K2.out.2.size (Obj.cells #[.int .i64 3, .int .i64 0, .int .i64 1, .int .i64 2] 23))
  generalize (w2.alloc (Obj.cells #[.int .i64 3, .int .i64 0, .int .i64 1, .int .i64 2] 23)) = w3 at *
  generalize w2.heap.size = b at *
  clear K2
  go_wp2
  go_ret
  exact ⟨rfl, D.out⟩
set_option maxHeartbeats 8000000 in
set_option maxRecDepth 100000 in
theorem pp_tt (l r t q m1 m2 m3 m4 : Int) (s B : ByteArray) (hs : s.size ≤ 60) (W : World)
    (HP : Hid (Ret 5 #[.agg #[.int .i64 l, .int .i64 r, .int .i64 t, .int .i64 q]] (.tuple #[.string B, .int .i64 0])))
    (PF : Hid (Ret 8 #[.agg #[.int .i64 l, .int .i64 r, .int .i64 t, .int .i64 q]] (.bool true))) (RF : Hid (Ret 7 #[.agg #[.int .i64 l, .int .i64 r, .int .i64 t, .int .i64 q]] (.bool true)))
    (RB : Hid (Ret 9 #[.agg #[.int .i64 l, .int .i64 r, .int .i64 t, .int .i64 q]] (.string B)))
    (HQ : Hid (∀ w, Calls Try.prog 6 #[.string s] w fun e w' => e = .returned (.tuple #[.agg #[.int .i64 m1, .int .i64 m2, .int .i64 m3, .int .i64 m4], .int .i64 0]) ∧ Below w.heap.size w w'))
    (RG : Hid (Ret 7 #[.agg #[.int .i64 m1, .int .i64 m2, .int .i64 m3, .int .i64 m4]] (.bool true))) (RC : Hid (Ret 9 #[.agg #[.int .i64 m1, .int .i64 m2, .int .i64 m3, .int .i64 m4]] (.string s)))
    : Calls Try.prog 3 #[.agg #[.int .i64 l, .int .i64 r, .int .i64 t, .int .i64 q], .string s] W fun e w' => e = .returned (.bool true) ∧ Below W.heap.size W w' := by
  have AW := hidA awake29
  have q1 : ¬ (60 : Int) < (s.size : Int) := by omega
  go_enter Try.func3, Try.ntmps3
  go_upto_region 6 with (first
    | (go_at_call 5; refine (HP.out.go _).mono ?_; rintro e w1 ⟨rfl, hb1⟩; have K1 := hidA (And.intro ((P4.new W l r t q 23).below hb1) (((Below.refl W.heap.size W).alloc (Nat.le_refl _) _).trans (hb1.mono (by simp)))); clear hb1)
    | (go_at_call 6; refine (HQ.out _).mono ?_; rintro e w2 ⟨rfl, hb2⟩; have K2 := hidA (And.intro (K1.out.1.below hb2) (K1.out.2.trans (hb2.mono K1.out.2.size))); clear hb2 K1; obtain ⟨f0, f1, f2, f3⟩ := K2.out.1.alloc (Obj.cells #[.int .i64 m1, .int .i64 m2, .int .i64 m3, .int .i64 m4] 23)))
  have X1 := (K2.out.1.alloc (Obj.cells #[.int .i64 m1, .int .i64 m2, .int .i64 m3, .int .i64 m4] 23)).alloc (Obj.cells #[.int .i64 l, .int .i64 r, .int .i64 t, .int .i64 q] 30)
  have X2 := (P4.new w2 m1 m2 m3 m4 23).alloc (Obj.cells #[.int .i64 l, .int .i64 r, .int .i64 t, .int .i64 q] 30)
  have X3 := P4.new (w2.alloc (Obj.cells #[.int .i64 m1, .int .i64 m2, .int .i64 m3, .int .i64 m4] 23)) l r t q 30
  have D0 := (K2.out.2.alloc K2.out.2.size (Obj.cells #[.int .i64 m1, .int .i64 m2, .int .i64 m3, .int .i64 m4] 23)).alloc (by have := K2.out.2.size; simp; omega) (Obj.cells #[.int .i64 l, .int .i64 r, .int .i64 t, .int .i64 q] 30)
  rw [show (w2.alloc (Obj.cells #[.int .i64 m1, .int .i64 m2, .int .i64 m3, .int .i64 m4] 23)).heap.size = w2.heap.size + 1 from by simp] at X3
  have D := hidA D0
  clear D0 K2 f0 f1 f2 f3
  generalize ((w2.alloc (Obj.cells #[.int .i64 m1, .int .i64 m2, .int .i64 m3, .int .i64 m4] 23)).alloc (Obj.cells #[.int .i64 l, .int .i64 r, .int .i64 t, .int .i64 q] 30)) = wb at *
  have EE : ∀ w, Below wb.heap.size wb w → P4 w W.heap.size l r t q ∧ P4 w w2.heap.size m1 m2 m3 m4 ∧ P4 w (w2.heap.size + 1) l r t q := fun w hb => ⟨X1.below hb, X2.below hb, X3.below hb⟩
  clear X1 X2 X3
  obtain ⟨⟨f0, f1, f2, f3⟩, ⟨g0, g1, g2, g3⟩, ⟨h0, h1, h2, h3⟩⟩ := EE _ (Below.refl _ _)
  have K := hidA (Below.refl wb.heap.size wb)
  go_wp2_with (first | (go_at_call 4; refine (AW.out.go _).mono ?_; rintro e9 w9 ⟨rfl, hb⟩; have K'' := hidA (K.out.trans (hb.mono K.out.size)); clear K hb f0 f1 f2 f3 g0 g1 g2 g3 h0 h1 h2 h3; have K := K''; clear K''; obtain ⟨⟨f0, f1, f2, f3⟩, ⟨g0, g1, g2, g3⟩, ⟨h0, h1, h2, h3⟩⟩ := EE _ K.out) | (go_at_call_of 7 (#[.agg #[.int .i64 l, .int .i64 r, .int .i64 t, .int .i64 q]] : Array Value); refine (RF.out.go _).mono ?_; rintro e9 w9 ⟨rfl, hb⟩; have K'' := hidA (K.out.trans (hb.mono K.out.size)); clear K hb f0 f1 f2 f3 g0 g1 g2 g3 h0 h1 h2 h3; have K := K''; clear K''; obtain ⟨⟨f0, f1, f2, f3⟩, ⟨g0, g1, g2, g3⟩, ⟨h0, h1, h2, h3⟩⟩ := EE _ K.out) | (go_at_call 7; refine (RG.out.go _).mono ?_; rintro e9 w9 ⟨rfl, hb⟩; have K'' := hidA (K.out.trans (hb.mono K.out.size)); clear K hb f0 f1 f2 f3 g0 g1 g2 g3 h0 h1 h2 h3; have K := K''; clear K''; obtain ⟨⟨f0, f1, f2, f3⟩, ⟨g0, g1, g2, g3⟩, ⟨h0, h1, h2, h3⟩⟩ := EE _ K.out) | (go_at_call 8; refine (PF.out.go _).mono ?_; rintro e9 w9 ⟨rfl, hb⟩; have K'' := hidA (K.out.trans (hb.mono K.out.size)); clear K hb f0 f1 f2 f3 g0 g1 g2 g3 h0 h1 h2 h3; have K := K''; clear K''; obtain ⟨⟨f0, f1, f2, f3⟩, ⟨g0, g1, g2, g3⟩, ⟨h0, h1, h2, h3⟩⟩ := EE _ K.out) | (go_at_call_of 9 (#[.agg #[.int .i64 l, .int .i64 r, .int .i64 t, .int .i64 q]] : Array Value); refine (RB.out.go _).mono ?_; rintro e9 w9 ⟨rfl, hb⟩; have K'' := hidA (K.out.trans (hb.mono K.out.size)); clear K hb f0 f1 f2 f3 g0 g1 g2 g3 h0 h1 h2 h3; have K := K''; clear K''; obtain ⟨⟨f0, f1, f2, f3⟩, ⟨g0, g1, g2, g3⟩, ⟨h0, h1, h2, h3⟩⟩ := EE _ K.out) | (go_at_call 9; refine (RC.out.go _).mono ?_; rintro e9 w9 ⟨rfl, hb⟩; have K'' := hidA (K.out.trans (hb.mono K.out.size)); clear K hb f0 f1 f2 f3 g0 g1 g2 g3 h0 h1 h2 h3; have K := K''; clear K''; obtain ⟨⟨f0, f1, f2, f3⟩, ⟨g0, g1, g2, g3⟩, ⟨h0, h1, h2, h3⟩⟩ := EE _ K.out))
  go_ret
  exact ⟨by first | rfl | simp, D.out.trans (K.out.mono D.out.size)⟩
set_option maxHeartbeats 8000000 in
set_option maxRecDepth 100000 in
theorem pp_tf (l r t q : Int) (s B : ByteArray) (hs : s.size ≤ 60) (W : World)
    (HP : Hid (Ret 5 #[.agg #[.int .i64 l, .int .i64 r, .int .i64 t, .int .i64 q]] (.tuple #[.string B, .int .i64 0])))
    (PF : Hid (Ret 8 #[.agg #[.int .i64 l, .int .i64 r, .int .i64 t, .int .i64 q]] (.bool true))) (RF : Hid (Ret 7 #[.agg #[.int .i64 l, .int .i64 r, .int .i64 t, .int .i64 q]] (.bool true)))
    (RB : Hid (Ret 9 #[.agg #[.int .i64 l, .int .i64 r, .int .i64 t, .int .i64 q]] (.string B)))
    (HQ : Hid (∀ w, Calls Try.prog 6 #[.string s] w fun e w' => e = .returned (.tuple #[.agg #[.int .i64 0, .int .i64 0, .int .i64 0, .int .i64 0], .int .i64 3]) ∧ Below w.heap.size w w'))
    : Calls Try.prog 3 #[.agg #[.int .i64 l, .int .i64 r, .int .i64 t, .int .i64 q], .string s] W fun e w' => e = .returned (.bool true) ∧ Below W.heap.size W w' := by
  have AW := hidA awake29
  have q1 : ¬ (60 : Int) < (s.size : Int) := by omega
  go_enter Try.func3, Try.ntmps3
  go_upto_region 6 with (first
    | (go_at_call 5; refine (HP.out.go _).mono ?_; rintro e w1 ⟨rfl, hb1⟩; have K1 := hidA (And.intro ((P4.new W l r t q 23).below hb1) (((Below.refl W.heap.size W).alloc (Nat.le_refl _) _).trans (hb1.mono (by simp)))); clear hb1)
    | (go_at_call 6; refine (HQ.out _).mono ?_; rintro e w2 ⟨rfl, hb2⟩; have K2 := hidA (And.intro (K1.out.1.below hb2) (K1.out.2.trans (hb2.mono K1.out.2.size))); clear hb2 K1; obtain ⟨f0, f1, f2, f3⟩ := K2.out.1.alloc (Obj.cells #[.int .i64 0, .int .i64 0, .int .i64 0, .int .i64 0] 23)))
  have X1 := (K2.out.1.alloc (Obj.cells #[.int .i64 0, .int .i64 0, .int .i64 0, .int .i64 0] 23)).alloc (Obj.cells #[.int .i64 l, .int .i64 r, .int .i64 t, .int .i64 q] 30)
  have X2 := (P4.new w2 0 0 0 0 23).alloc (Obj.cells #[.int .i64 l, .int .i64 r, .int .i64 t, .int .i64 q] 30)
  have X3 := P4.new (w2.alloc (Obj.cells #[.int .i64 0, .int .i64 0, .int .i64 0, .int .i64 0] 23)) l r t q 30
  have D0 := (K2.out.2.alloc K2.out.2.size (Obj.cells #[.int .i64 0, .int .i64 0, .int .i64 0, .int .i64 0] 23)).alloc (by have := K2.out.2.size; simp; omega) (Obj.cells #[.int .i64 l, .int .i64 r, .int .i64 t, .int .i64 q] 30)
  rw [show (w2.alloc (Obj.cells #[.int .i64 0, .int .i64 0, .int .i64 0, .int .i64 0] 23)).heap.size = w2.heap.size + 1 from by simp] at X3
  have D := hidA D0
  clear D0 K2 f0 f1 f2 f3
  generalize ((w2.alloc (Obj.cells #[.int .i64 0, .int .i64 0, .int .i64 0, .int .i64 0] 23)).alloc (Obj.cells #[.int .i64 l, .int .i64 r, .int .i64 t, .int .i64 q] 30)) = wb at *
  have EE : ∀ w, Below wb.heap.size wb w → P4 w W.heap.size l r t q ∧ P4 w w2.heap.size 0 0 0 0 ∧ P4 w (w2.heap.size + 1) l r t q := fun w hb => ⟨X1.below hb, X2.below hb, X3.below hb⟩
  clear X1 X2 X3
  obtain ⟨⟨f0, f1, f2, f3⟩, ⟨g0, g1, g2, g3⟩, ⟨h0, h1, h2, h3⟩⟩ := EE _ (Below.refl _ _)
  have K := hidA (Below.refl wb.heap.size wb)
  go_wp2_with (first | (go_at_call 4; refine (AW.out.go _).mono ?_; rintro e9 w9 ⟨rfl, hb⟩; have K'' := hidA (K.out.trans (hb.mono K.out.size)); clear K hb f0 f1 f2 f3 g0 g1 g2 g3 h0 h1 h2 h3; have K := K''; clear K''; obtain ⟨⟨f0, f1, f2, f3⟩, ⟨g0, g1, g2, g3⟩, ⟨h0, h1, h2, h3⟩⟩ := EE _ K.out) | (go_at_call 7; refine (RF.out.go _).mono ?_; rintro e9 w9 ⟨rfl, hb⟩; have K'' := hidA (K.out.trans (hb.mono K.out.size)); clear K hb f0 f1 f2 f3 g0 g1 g2 g3 h0 h1 h2 h3; have K := K''; clear K''; obtain ⟨⟨f0, f1, f2, f3⟩, ⟨g0, g1, g2, g3⟩, ⟨h0, h1, h2, h3⟩⟩ := EE _ K.out) | (go_at_call 8; refine (PF.out.go _).mono ?_; rintro e9 w9 ⟨rfl, hb⟩; have K'' := hidA (K.out.trans (hb.mono K.out.size)); clear K hb f0 f1 f2 f3 g0 g1 g2 g3 h0 h1 h2 h3; have K := K''; clear K''; obtain ⟨⟨f0, f1, f2, f3⟩, ⟨g0, g1, g2, g3⟩, ⟨h0, h1, h2, h3⟩⟩ := EE _ K.out) | (go_at_call 9; refine (RB.out.go _).mono ?_; rintro e9 w9 ⟨rfl, hb⟩; have K'' := hidA (K.out.trans (hb.mono K.out.size)); clear K hb f0 f1 f2 f3 g0 g1 g2 g3 h0 h1 h2 h3; have K := K''; clear K''; obtain ⟨⟨f0, f1, f2, f3⟩, ⟨g0, g1, g2, g3⟩, ⟨h0, h1, h2, h3⟩⟩ := EE _ K.out))
  go_ret
  exact ⟨by first | rfl | simp, D.out.trans (K.out.mono D.out.size)⟩
set_option maxHeartbeats 8000000 in
set_option maxRecDepth 100000 in
theorem pp_ft (l r t q m1 m2 m3 m4 : Int) (s : ByteArray) (hs : s.size ≤ 60) (W : World)
    (HP : Hid (Ret 5 #[.agg #[.int .i64 l, .int .i64 r, .int .i64 t, .int .i64 q]] (.tuple #[.string ⟨#[]⟩, .int .i64 1])))
    (PF : Hid (Ret 8 #[.agg #[.int .i64 l, .int .i64 r, .int .i64 t, .int .i64 q]] (.bool false))) (RF : Hid (Ret 7 #[.agg #[.int .i64 l, .int .i64 r, .int .i64 t, .int .i64 q]] (.bool false)))
    (HQ : Hid (∀ w, Calls Try.prog 6 #[.string s] w fun e w' => e = .returned (.tuple #[.agg #[.int .i64 m1, .int .i64 m2, .int .i64 m3, .int .i64 m4], .int .i64 0]) ∧ Below w.heap.size w w'))
    (RG : Hid (Ret 7 #[.agg #[.int .i64 m1, .int .i64 m2, .int .i64 m3, .int .i64 m4]] (.bool true))) (RC : Hid (Ret 9 #[.agg #[.int .i64 m1, .int .i64 m2, .int .i64 m3, .int .i64 m4]] (.string s)))
    : Calls Try.prog 3 #[.agg #[.int .i64 l, .int .i64 r, .int .i64 t, .int .i64 q], .string s] W fun e w' => e = .returned (.bool true) ∧ Below W.heap.size W w' := by
  have AW := hidA awake29
  have q1 : ¬ (60 : Int) < (s.size : Int) := by omega
  go_enter Try.func3, Try.ntmps3
  go_upto_region 6 with (first
    | (go_at_call 5; refine (HP.out.go _).mono ?_; rintro e w1 ⟨rfl, hb1⟩; have K1 := hidA (And.intro ((P4.new W l r t q 23).below hb1) (((Below.refl W.heap.size W).alloc (Nat.le_refl _) _).trans (hb1.mono (by simp)))); clear hb1)
    | (go_at_call 6; refine (HQ.out _).mono ?_; rintro e w2 ⟨rfl, hb2⟩; have K2 := hidA (And.intro (K1.out.1.below hb2) (K1.out.2.trans (hb2.mono K1.out.2.size))); clear hb2 K1; obtain ⟨f0, f1, f2, f3⟩ := K2.out.1.alloc (Obj.cells #[.int .i64 m1, .int .i64 m2, .int .i64 m3, .int .i64 m4] 23)))
  have X1 := (K2.out.1.alloc (Obj.cells #[.int .i64 m1, .int .i64 m2, .int .i64 m3, .int .i64 m4] 23)).alloc (Obj.cells #[.int .i64 l, .int .i64 r, .int .i64 t, .int .i64 q] 30)
  have X2 := (P4.new w2 m1 m2 m3 m4 23).alloc (Obj.cells #[.int .i64 l, .int .i64 r, .int .i64 t, .int .i64 q] 30)
  have X3 := P4.new (w2.alloc (Obj.cells #[.int .i64 m1, .int .i64 m2, .int .i64 m3, .int .i64 m4] 23)) l r t q 30
  have D0 := (K2.out.2.alloc K2.out.2.size (Obj.cells #[.int .i64 m1, .int .i64 m2, .int .i64 m3, .int .i64 m4] 23)).alloc (by have := K2.out.2.size; simp; omega) (Obj.cells #[.int .i64 l, .int .i64 r, .int .i64 t, .int .i64 q] 30)
  rw [show (w2.alloc (Obj.cells #[.int .i64 m1, .int .i64 m2, .int .i64 m3, .int .i64 m4] 23)).heap.size = w2.heap.size + 1 from by simp] at X3
  have D := hidA D0
  clear D0 K2 f0 f1 f2 f3
  generalize ((w2.alloc (Obj.cells #[.int .i64 m1, .int .i64 m2, .int .i64 m3, .int .i64 m4] 23)).alloc (Obj.cells #[.int .i64 l, .int .i64 r, .int .i64 t, .int .i64 q] 30)) = wb at *
  have EE : ∀ w, Below wb.heap.size wb w → P4 w W.heap.size l r t q ∧ P4 w w2.heap.size m1 m2 m3 m4 ∧ P4 w (w2.heap.size + 1) l r t q := fun w hb => ⟨X1.below hb, X2.below hb, X3.below hb⟩
  clear X1 X2 X3
  obtain ⟨⟨f0, f1, f2, f3⟩, ⟨g0, g1, g2, g3⟩, ⟨h0, h1, h2, h3⟩⟩ := EE _ (Below.refl _ _)
  have K := hidA (Below.refl wb.heap.size wb)
  go_wp2_with (first | (go_at_call 4; refine (AW.out.go _).mono ?_; rintro e9 w9 ⟨rfl, hb⟩; have K'' := hidA (K.out.trans (hb.mono K.out.size)); clear K hb f0 f1 f2 f3 g0 g1 g2 g3 h0 h1 h2 h3; have K := K''; clear K''; obtain ⟨⟨f0, f1, f2, f3⟩, ⟨g0, g1, g2, g3⟩, ⟨h0, h1, h2, h3⟩⟩ := EE _ K.out) | (go_at_call_of 7 (#[.agg #[.int .i64 l, .int .i64 r, .int .i64 t, .int .i64 q]] : Array Value); refine (RF.out.go _).mono ?_; rintro e9 w9 ⟨rfl, hb⟩; have K'' := hidA (K.out.trans (hb.mono K.out.size)); clear K hb f0 f1 f2 f3 g0 g1 g2 g3 h0 h1 h2 h3; have K := K''; clear K''; obtain ⟨⟨f0, f1, f2, f3⟩, ⟨g0, g1, g2, g3⟩, ⟨h0, h1, h2, h3⟩⟩ := EE _ K.out) | (go_at_call 7; refine (RG.out.go _).mono ?_; rintro e9 w9 ⟨rfl, hb⟩; have K'' := hidA (K.out.trans (hb.mono K.out.size)); clear K hb f0 f1 f2 f3 g0 g1 g2 g3 h0 h1 h2 h3; have K := K''; clear K''; obtain ⟨⟨f0, f1, f2, f3⟩, ⟨g0, g1, g2, g3⟩, ⟨h0, h1, h2, h3⟩⟩ := EE _ K.out) | (go_at_call 8; refine (PF.out.go _).mono ?_; rintro e9 w9 ⟨rfl, hb⟩; have K'' := hidA (K.out.trans (hb.mono K.out.size)); clear K hb f0 f1 f2 f3 g0 g1 g2 g3 h0 h1 h2 h3; have K := K''; clear K''; obtain ⟨⟨f0, f1, f2, f3⟩, ⟨g0, g1, g2, g3⟩, ⟨h0, h1, h2, h3⟩⟩ := EE _ K.out) | (go_at_call 9; refine (RC.out.go _).mono ?_; rintro e9 w9 ⟨rfl, hb⟩; have K'' := hidA (K.out.trans (hb.mono K.out.size)); clear K hb f0 f1 f2 f3 g0 g1 g2 g3 h0 h1 h2 h3; have K := K''; clear K''; obtain ⟨⟨f0, f1, f2, f3⟩, ⟨g0, g1, g2, g3⟩, ⟨h0, h1, h2, h3⟩⟩ := EE _ K.out))
  go_ret
  exact ⟨by first | rfl | simp, D.out.trans (K.out.mono D.out.size)⟩
set_option maxHeartbeats 8000000 in
set_option maxRecDepth 100000 in
theorem pp_ff (l r t q : Int) (s : ByteArray) (hs : s.size ≤ 60) (W : World)
    (HP : Hid (Ret 5 #[.agg #[.int .i64 l, .int .i64 r, .int .i64 t, .int .i64 q]] (.tuple #[.string ⟨#[]⟩, .int .i64 1])))
    (PF : Hid (Ret 8 #[.agg #[.int .i64 l, .int .i64 r, .int .i64 t, .int .i64 q]] (.bool false))) (RF : Hid (Ret 7 #[.agg #[.int .i64 l, .int .i64 r, .int .i64 t, .int .i64 q]] (.bool false)))
    (HQ : Hid (∀ w, Calls Try.prog 6 #[.string s] w fun e w' => e = .returned (.tuple #[.agg #[.int .i64 0, .int .i64 0, .int .i64 0, .int .i64 0], .int .i64 3]) ∧ Below w.heap.size w w'))
    : Calls Try.prog 3 #[.agg #[.int .i64 l, .int .i64 r, .int .i64 t, .int .i64 q], .string s] W fun e w' => e = .returned (.bool true) ∧ Below W.heap.size W w' := by
  have AW := hidA awake29
  have q1 : ¬ (60 : Int) < (s.size : Int) := by omega
  go_enter Try.func3, Try.ntmps3
  go_upto_region 6 with (first
    | (go_at_call 5; refine (HP.out.go _).mono ?_; rintro e w1 ⟨rfl, hb1⟩; have K1 := hidA (And.intro ((P4.new W l r t q 23).below hb1) (((Below.refl W.heap.size W).alloc (Nat.le_refl _) _).trans (hb1.mono (by simp)))); clear hb1)
    | (go_at_call 6; refine (HQ.out _).mono ?_; rintro e w2 ⟨rfl, hb2⟩; have K2 := hidA (And.intro (K1.out.1.below hb2) (K1.out.2.trans (hb2.mono K1.out.2.size))); clear hb2 K1; obtain ⟨f0, f1, f2, f3⟩ := K2.out.1.alloc (Obj.cells #[.int .i64 0, .int .i64 0, .int .i64 0, .int .i64 0] 23)))
  have X1 := (K2.out.1.alloc (Obj.cells #[.int .i64 0, .int .i64 0, .int .i64 0, .int .i64 0] 23)).alloc (Obj.cells #[.int .i64 l, .int .i64 r, .int .i64 t, .int .i64 q] 30)
  have X2 := (P4.new w2 0 0 0 0 23).alloc (Obj.cells #[.int .i64 l, .int .i64 r, .int .i64 t, .int .i64 q] 30)
  have X3 := P4.new (w2.alloc (Obj.cells #[.int .i64 0, .int .i64 0, .int .i64 0, .int .i64 0] 23)) l r t q 30
  have D0 := (K2.out.2.alloc K2.out.2.size (Obj.cells #[.int .i64 0, .int .i64 0, .int .i64 0, .int .i64 0] 23)).alloc (by have := K2.out.2.size; simp; omega) (Obj.cells #[.int .i64 l, .int .i64 r, .int .i64 t, .int .i64 q] 30)
  rw [show (w2.alloc (Obj.cells #[.int .i64 0, .int .i64 0, .int .i64 0, .int .i64 0] 23)).heap.size = w2.heap.size + 1 from by simp] at X3
  have D := hidA D0
  clear D0 K2 f0 f1 f2 f3
  generalize ((w2.alloc (Obj.cells #[.int .i64 0, .int .i64 0, .int .i64 0, .int .i64 0] 23)).alloc (Obj.cells #[.int .i64 l, .int .i64 r, .int .i64 t, .int .i64 q] 30)) = wb at *
  have EE : ∀ w, Below wb.heap.size wb w → P4 w W.heap.size l r t q ∧ P4 w w2.heap.size 0 0 0 0 ∧ P4 w (w2.heap.size + 1) l r t q := fun w hb => ⟨X1.below hb, X2.below hb, X3.below hb⟩
  clear X1 X2 X3
  obtain ⟨⟨f0, f1, f2, f3⟩, ⟨g0, g1, g2, g3⟩, ⟨h0, h1, h2, h3⟩⟩ := EE _ (Below.refl _ _)
  have K := hidA (Below.refl wb.heap.size wb)
  go_wp2_with (first | (go_at_call 4; refine (AW.out.go _).mono ?_; rintro e9 w9 ⟨rfl, hb⟩; have K'' := hidA (K.out.trans (hb.mono K.out.size)); clear K hb f0 f1 f2 f3 g0 g1 g2 g3 h0 h1 h2 h3; have K := K''; clear K''; obtain ⟨⟨f0, f1, f2, f3⟩, ⟨g0, g1, g2, g3⟩, ⟨h0, h1, h2, h3⟩⟩ := EE _ K.out) | (go_at_call 7; refine (RF.out.go _).mono ?_; rintro e9 w9 ⟨rfl, hb⟩; have K'' := hidA (K.out.trans (hb.mono K.out.size)); clear K hb f0 f1 f2 f3 g0 g1 g2 g3 h0 h1 h2 h3; have K := K''; clear K''; obtain ⟨⟨f0, f1, f2, f3⟩, ⟨g0, g1, g2, g3⟩, ⟨h0, h1, h2, h3⟩⟩ := EE _ K.out) | (go_at_call 8; refine (PF.out.go _).mono ?_; rintro e9 w9 ⟨rfl, hb⟩; have K'' := hidA (K.out.trans (hb.mono K.out.size)); clear K hb f0 f1 f2 f3 g0 g1 g2 g3 h0 h1 h2 h3; have K := K''; clear K''; obtain ⟨⟨f0, f1, f2, f3⟩, ⟨g0, g1, g2, g3⟩, ⟨h0, h1, h2, h3⟩⟩ := EE _ K.out))
  go_ret
  exact ⟨by first | rfl | simp, D.out.trans (K.out.mono D.out.size)⟩
theorem pp_long (l r t q : Int) (s : ByteArray) (hs : 60 < s.size) : Ret 3 #[.agg #[.int .i64 l, .int .i64 r, .int .i64 t, .int .i64 q], .string s] (.bool true) := by
  intro W
  have AW := hidA awake29
  have q1 : (60 : Int) < (s.size : Int) := by omega
  go_enter Try.func3, Try.ntmps3
  go_wp2_with (go_at_call 4; refine (AW.out.go _).mono ?_; rintro e w1 ⟨rfl, hb1⟩)
  go_ret
  exact ⟨rfl, ((Below.refl _ _).alloc (Nat.le_refl _) _).trans (hb1.mono (by simp))⟩
theorem pp_any (l r t q : Int) (s : ByteArray) (W : World) : Calls Try.prog 3 #[.agg #[.int .i64 l, .int .i64 r, .int .i64 t, .int .i64 q], .string s] W fun e w' => e = .returned (.bool true) ∧ Below W.heap.size W w' := by
  by_cases hs : 60 < s.size
  · exact pp_long l r t q s hs W
  have hs : s.size ≤ 60 := by omega
  have PF := fits_any l r t q
  have RF := rfits_any l r t q
  have RB := rbytes_any l r t q
  have HQ := fun w => readp_any s hs w
  cases hf : fitsB l r t q with
  | true =>
    have HP := params_yes l r t q hf
    rw [hf] at PF RF
    cases ho : okR s with
    | true =>
      simp only [ho, if_true] at HQ
      have hb := read_bytes ho
      have RC := rbytes_any (rd1 s).2.2 (rd2 s).2.2 (rd3 s).2.2 (rd4 s).2.2
      rw [hb] at RC
      have RG := rfits_any (rd1 s).2.2 (rd2 s).2.2 (rd3 s).2.2 (rd4 s).2.2
      rw [show fitsB (rd1 s).2.2 (rd2 s).2.2 (rd3 s).2.2 (rd4 s).2.2 = true from by unfold okR at ho; rw [Bool.and_eq_true] at ho; exact ho.2] at RG
      exact pp_tt l r t q _ _ _ _ s _ hs W (hidA HP) (hidA PF) (hidA RF) (hidA RB) (hidA HQ) (hidA RG) (hidA RC)
    | false =>
      simp only [ho] at HQ
      exact pp_tf l r t q s _ hs W (hidA HP) (hidA PF) (hidA RF) (hidA RB) (hidA HQ)
  | false =>
    have HP := params_no l r t q hf
    rw [hf] at PF RF
    cases ho : okR s with
    | true =>
      simp only [ho, if_true] at HQ
      have hb := read_bytes ho
      have RC := rbytes_any (rd1 s).2.2 (rd2 s).2.2 (rd3 s).2.2 (rd4 s).2.2
      rw [hb] at RC
      have RG := rfits_any (rd1 s).2.2 (rd2 s).2.2 (rd3 s).2.2 (rd4 s).2.2
      rw [show fitsB (rd1 s).2.2 (rd2 s).2.2 (rd3 s).2.2 (rd4 s).2.2 = true from by unfold okR at ho; rw [Bool.and_eq_true] at ho; exact ho.2] at RG
      exact pp_ft l r t q _ _ _ _ s hs W (hidA HP) (hidA PF) (hidA RF) (hidA HQ) (hidA RG) (hidA RC)
    | false =>
      simp only [ho] at HQ
      exact pp_ff l r t q s hs W (hidA HP) (hidA PF) (hidA RF) (hidA HQ)
end Pa
end Go.Proofs.Ytjllijoiakccpaa
