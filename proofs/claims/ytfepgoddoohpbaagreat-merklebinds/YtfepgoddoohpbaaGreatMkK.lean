/- The walk of MerkleBinds over the seat's translation. -/
import Derived.Test.YtfepgoddoohpbaaGreatMkJ
namespace Go.Proofs.YtfepgoddoohpbaaGreat
open Go.RowKit

/-- What lies in memory: the tables, and two paths. -/
structure Bk (W w : World) (g : Nat) (a : Option Addr) (n : Nat) (P : Nat → ByteArray) (o : Option Addr) (m : Nat) (Q : Nat → ByteArray) : Prop where
  t : Tab w g
  x : Txs w a n P
  y : Txs w o m Q
  d : Below W.heap.size W w
theorem Bk.below {W w w' : World} {g : Nat} {a : Option Addr} {n : Nat} {P : Nat → ByteArray} {o : Option Addr} {m : Nat} {Q : Nat → ByteArray} (k : Bk W w g a n P o m Q) (q : Below w.heap.size w w') : Bk W w' g a n P o m Q := ⟨k.t.below q, k.x.below q, k.y.below q, k.d.trans (q.mono k.d.size)⟩
theorem Bk.drew {W w : World} {g : Nat} {a : Option Addr} {n : Nat} {P : Nat → ByteArray} {o : Option Addr} {m : Nat} {Q : Nat → ByteArray} (k : Bk W w g a n P o m Q) : Bk W w.drew g a n P o m Q := ⟨k.t, ⟨k.x.cells⟩, ⟨k.y.cells⟩, k.d.drew⟩
set_option maxHeartbeats 3200000 in
set_option maxRecDepth 100000 in
theorem mb_s1 (a o : Option Addr) (n cap m co : Nat) (h i : Int) (s t : ByteArray) (W : World) (HF : Hid (∀ w, Below W.heap.size W w → Calls Tryz.prog 18 #[.agg #[.int .i64 h, .int .i64 i, .slice a n cap]] w fun e w' => e = .returned (.bool false) ∧ Below w.heap.size w w')) :
    Calls Tryz.prog 5 #[.agg #[.int .i64 h, .int .i64 i, .slice a n cap], .slice o m co, .agg #[.string s, .string t]] W fun e w' => e = .returned (.bool true) ∧ Below W.heap.size W w' := by
  have D : Hid (Below W.heap.size W ((W.alloc (.cells #[.int .i64 h, .int .i64 i, .slice a n cap] 47)).alloc (.cells #[.string s, .string t] 56))) := (below_laid _ _).alloc (by simp) _
  have c0' : ((W.alloc (.cells #[.int .i64 h, .int .i64 i, .slice a n cap] 47)).alloc (.cells #[.string s, .string t] 56)).cell? ⟨W.heap.size, 0, none⟩ = some (.int .i64 h) := by simp [go_sem]
  have c1' : ((W.alloc (.cells #[.int .i64 h, .int .i64 i, .slice a n cap] 47)).alloc (.cells #[.string s, .string t] 56)).cell? ⟨W.heap.size, 1, none⟩ = some (.int .i64 i) := by simp [go_sem]
  have c2' : ((W.alloc (.cells #[.int .i64 h, .int .i64 i, .slice a n cap] 47)).alloc (.cells #[.string s, .string t] 56)).cell? ⟨W.heap.size, 2, none⟩ = some (.slice a n cap) := by simp [go_sem]
  have c3' : ((W.alloc (.cells #[.int .i64 h, .int .i64 i, .slice a n cap] 47)).alloc (.cells #[.string s, .string t] 56)).cell? ⟨W.heap.size + 1, 0, none⟩ = some (.string s) := by simp [go_sem]
  have c4' : ((W.alloc (.cells #[.int .i64 h, .int .i64 i, .slice a n cap] 47)).alloc (.cells #[.string s, .string t] 56)).cell? ⟨W.heap.size + 1, 1, none⟩ = some (.string t) := by simp [go_sem]
  go_enter Tryz.func5, Tryz.ntmps5
  go_wp2_with (first | (go_at_call 18; refine (HF.out _ D.out).mono ?_; rintro e w1 ⟨rfl, hb1⟩; have D1 : Hid (Below W.heap.size W w1) := D.out.trans (hb1.mono D.out.size); have c0 := keepc hb1 c0'; have c1 := keepc hb1 c1'; have c2 := keepc hb1 c2'; have c3 := keepc hb1 c3'; have c4 := keepc hb1 c4'; clear hb1) | (go_at_call 7; refine (awake12.go _).mono ?_; rintro e w2 ⟨rfl, hb2⟩; have D2 : Hid (Below W.heap.size W w2) := D1.out.trans (hb2.mono D1.out.size); have f0 := keepc hb2 c0; have f1 := keepc hb2 c1; have f2 := keepc hb2 c2; have f3 := keepc hb2 c3; have f4 := keepc hb2 c4; clear hb2))
  go_ret
  exact ⟨rfl, D2.out⟩
set_option maxHeartbeats 3200000 in
set_option maxRecDepth 100000 in
theorem mb_s2 (a o : Option Addr) (n cap m co : Nat) (h i : Int) (s t : ByteArray) (W : World) (HF : Hid (∀ w, Below W.heap.size W w → Calls Tryz.prog 18 #[.agg #[.int .i64 h, .int .i64 i, .slice a n cap]] w fun e w' => e = .returned (.bool true) ∧ Below w.heap.size w w')) (HG : Hid (∀ w, Below W.heap.size W w → Calls Tryz.prog 6 #[.slice o m co, .int .i64 6, .int .i64 100] w fun e w' => e = .returned (.bool false) ∧ w' = w)) :
    Calls Tryz.prog 5 #[.agg #[.int .i64 h, .int .i64 i, .slice a n cap], .slice o m co, .agg #[.string s, .string t]] W fun e w' => e = .returned (.bool true) ∧ Below W.heap.size W w' := by
  have D : Hid (Below W.heap.size W ((W.alloc (.cells #[.int .i64 h, .int .i64 i, .slice a n cap] 47)).alloc (.cells #[.string s, .string t] 56))) := (below_laid _ _).alloc (by simp) _
  have c0' : ((W.alloc (.cells #[.int .i64 h, .int .i64 i, .slice a n cap] 47)).alloc (.cells #[.string s, .string t] 56)).cell? ⟨W.heap.size, 0, none⟩ = some (.int .i64 h) := by simp [go_sem]
  have c1' : ((W.alloc (.cells #[.int .i64 h, .int .i64 i, .slice a n cap] 47)).alloc (.cells #[.string s, .string t] 56)).cell? ⟨W.heap.size, 1, none⟩ = some (.int .i64 i) := by simp [go_sem]
  have c2' : ((W.alloc (.cells #[.int .i64 h, .int .i64 i, .slice a n cap] 47)).alloc (.cells #[.string s, .string t] 56)).cell? ⟨W.heap.size, 2, none⟩ = some (.slice a n cap) := by simp [go_sem]
  have c3' : ((W.alloc (.cells #[.int .i64 h, .int .i64 i, .slice a n cap] 47)).alloc (.cells #[.string s, .string t] 56)).cell? ⟨W.heap.size + 1, 0, none⟩ = some (.string s) := by simp [go_sem]
  have c4' : ((W.alloc (.cells #[.int .i64 h, .int .i64 i, .slice a n cap] 47)).alloc (.cells #[.string s, .string t] 56)).cell? ⟨W.heap.size + 1, 1, none⟩ = some (.string t) := by simp [go_sem]
  go_enter Tryz.func5, Tryz.ntmps5
  go_wp2_with (first | (go_at_call 18; refine (HF.out _ D.out).mono ?_; rintro e w1 ⟨rfl, hb1⟩; have D1 : Hid (Below W.heap.size W w1) := D.out.trans (hb1.mono D.out.size); have c0 := keepc hb1 c0'; have c1 := keepc hb1 c1'; have c2 := keepc hb1 c2'; have c3 := keepc hb1 c3'; have c4 := keepc hb1 c4'; clear hb1) | (go_at_call 6; refine (HG.out _ D1.out).mono ?_; rintro e w9 ⟨rfl, hw⟩; obtain rfl := hw.symm; clear hw) | (go_at_call 7; refine (awake12.go _).mono ?_; rintro e w2 ⟨rfl, hb2⟩; have D2 : Hid (Below W.heap.size W w2) := D1.out.trans (hb2.mono D1.out.size); have f0 := keepc hb2 c0; have f1 := keepc hb2 c1; have f2 := keepc hb2 c2; have f3 := keepc hb2 c3; have f4 := keepc hb2 c4; clear hb2))
  go_ret
  exact ⟨rfl, D2.out⟩
set_option maxHeartbeats 3200000 in
set_option maxRecDepth 100000 in
theorem mb_s3 (a o : Option Addr) (n cap m co : Nat) (h i : Int) (s t : ByteArray) (W : World) (HF : Hid (∀ w, Below W.heap.size W w → Calls Tryz.prog 18 #[.agg #[.int .i64 h, .int .i64 i, .slice a n cap]] w fun e w' => e = .returned (.bool true) ∧ Below w.heap.size w w')) (HG : Hid (∀ w, Below W.heap.size W w → Calls Tryz.prog 6 #[.slice o m co, .int .i64 6, .int .i64 100] w fun e w' => e = .returned (.bool true) ∧ w' = w)) (hs : 100 < s.size) :
    Calls Tryz.prog 5 #[.agg #[.int .i64 h, .int .i64 i, .slice a n cap], .slice o m co, .agg #[.string s, .string t]] W fun e w' => e = .returned (.bool true) ∧ Below W.heap.size W w' := by
  have D : Hid (Below W.heap.size W ((W.alloc (.cells #[.int .i64 h, .int .i64 i, .slice a n cap] 47)).alloc (.cells #[.string s, .string t] 56))) := (below_laid _ _).alloc (by simp) _
  have c0' : ((W.alloc (.cells #[.int .i64 h, .int .i64 i, .slice a n cap] 47)).alloc (.cells #[.string s, .string t] 56)).cell? ⟨W.heap.size, 0, none⟩ = some (.int .i64 h) := by simp [go_sem]
  have c1' : ((W.alloc (.cells #[.int .i64 h, .int .i64 i, .slice a n cap] 47)).alloc (.cells #[.string s, .string t] 56)).cell? ⟨W.heap.size, 1, none⟩ = some (.int .i64 i) := by simp [go_sem]
  have c2' : ((W.alloc (.cells #[.int .i64 h, .int .i64 i, .slice a n cap] 47)).alloc (.cells #[.string s, .string t] 56)).cell? ⟨W.heap.size, 2, none⟩ = some (.slice a n cap) := by simp [go_sem]
  have c3' : ((W.alloc (.cells #[.int .i64 h, .int .i64 i, .slice a n cap] 47)).alloc (.cells #[.string s, .string t] 56)).cell? ⟨W.heap.size + 1, 0, none⟩ = some (.string s) := by simp [go_sem]
  have c4' : ((W.alloc (.cells #[.int .i64 h, .int .i64 i, .slice a n cap] 47)).alloc (.cells #[.string s, .string t] 56)).cell? ⟨W.heap.size + 1, 1, none⟩ = some (.string t) := by simp [go_sem]
  have h1 : (100 : Int) < (s.size : Int) := by omega
  go_enter Tryz.func5, Tryz.ntmps5
  go_wp2_with (first | (go_at_call 18; refine (HF.out _ D.out).mono ?_; rintro e w1 ⟨rfl, hb1⟩; have D1 : Hid (Below W.heap.size W w1) := D.out.trans (hb1.mono D.out.size); have c0 := keepc hb1 c0'; have c1 := keepc hb1 c1'; have c2 := keepc hb1 c2'; have c3 := keepc hb1 c3'; have c4 := keepc hb1 c4'; clear hb1) | (go_at_call 6; refine (HG.out _ D1.out).mono ?_; rintro e w9 ⟨rfl, hw⟩; obtain rfl := hw.symm; clear hw) | (go_at_call 7; refine (awake12.go _).mono ?_; rintro e w2 ⟨rfl, hb2⟩; have D2 : Hid (Below W.heap.size W w2) := D1.out.trans (hb2.mono D1.out.size); have f0 := keepc hb2 c0; have f1 := keepc hb2 c1; have f2 := keepc hb2 c2; have f3 := keepc hb2 c3; have f4 := keepc hb2 c4; clear hb2))
  go_ret
  exact ⟨rfl, D2.out⟩
set_option maxHeartbeats 3200000 in
set_option maxRecDepth 100000 in
theorem mb_s4 (a o : Option Addr) (n cap m co : Nat) (h i : Int) (s t : ByteArray) (W : World) (HF : Hid (∀ w, Below W.heap.size W w → Calls Tryz.prog 18 #[.agg #[.int .i64 h, .int .i64 i, .slice a n cap]] w fun e w' => e = .returned (.bool true) ∧ Below w.heap.size w w')) (HG : Hid (∀ w, Below W.heap.size W w → Calls Tryz.prog 6 #[.slice o m co, .int .i64 6, .int .i64 100] w fun e w' => e = .returned (.bool true) ∧ w' = w)) (hs : s.size ≤ 100) (ht : 100 < t.size) :
    Calls Tryz.prog 5 #[.agg #[.int .i64 h, .int .i64 i, .slice a n cap], .slice o m co, .agg #[.string s, .string t]] W fun e w' => e = .returned (.bool true) ∧ Below W.heap.size W w' := by
  have D : Hid (Below W.heap.size W ((W.alloc (.cells #[.int .i64 h, .int .i64 i, .slice a n cap] 47)).alloc (.cells #[.string s, .string t] 56))) := (below_laid _ _).alloc (by simp) _
  have c0' : ((W.alloc (.cells #[.int .i64 h, .int .i64 i, .slice a n cap] 47)).alloc (.cells #[.string s, .string t] 56)).cell? ⟨W.heap.size, 0, none⟩ = some (.int .i64 h) := by simp [go_sem]
  have c1' : ((W.alloc (.cells #[.int .i64 h, .int .i64 i, .slice a n cap] 47)).alloc (.cells #[.string s, .string t] 56)).cell? ⟨W.heap.size, 1, none⟩ = some (.int .i64 i) := by simp [go_sem]
  have c2' : ((W.alloc (.cells #[.int .i64 h, .int .i64 i, .slice a n cap] 47)).alloc (.cells #[.string s, .string t] 56)).cell? ⟨W.heap.size, 2, none⟩ = some (.slice a n cap) := by simp [go_sem]
  have c3' : ((W.alloc (.cells #[.int .i64 h, .int .i64 i, .slice a n cap] 47)).alloc (.cells #[.string s, .string t] 56)).cell? ⟨W.heap.size + 1, 0, none⟩ = some (.string s) := by simp [go_sem]
  have c4' : ((W.alloc (.cells #[.int .i64 h, .int .i64 i, .slice a n cap] 47)).alloc (.cells #[.string s, .string t] 56)).cell? ⟨W.heap.size + 1, 1, none⟩ = some (.string t) := by simp [go_sem]
  have h1 : ¬ (100 : Int) < (s.size : Int) := by omega
  have h2 : (100 : Int) < (t.size : Int) := by omega
  go_enter Tryz.func5, Tryz.ntmps5
  go_wp2_with (first | (go_at_call 18; refine (HF.out _ D.out).mono ?_; rintro e w1 ⟨rfl, hb1⟩; have D1 : Hid (Below W.heap.size W w1) := D.out.trans (hb1.mono D.out.size); have c0 := keepc hb1 c0'; have c1 := keepc hb1 c1'; have c2 := keepc hb1 c2'; have c3 := keepc hb1 c3'; have c4 := keepc hb1 c4'; clear hb1) | (go_at_call 6; refine (HG.out _ D1.out).mono ?_; rintro e w9 ⟨rfl, hw⟩; obtain rfl := hw.symm; clear hw) | (go_at_call 7; refine (awake12.go _).mono ?_; rintro e w2 ⟨rfl, hb2⟩; have D2 : Hid (Below W.heap.size W w2) := D1.out.trans (hb2.mono D1.out.size); have f0 := keepc hb2 c0; have f1 := keepc hb2 c1; have f2 := keepc hb2 c2; have f3 := keepc hb2 c3; have f4 := keepc hb2 c4; clear hb2))
  go_ret
  exact ⟨rfl, D2.out⟩
set_option maxHeartbeats 6400000 in
set_option maxRecDepth 100000 in
theorem mb_n1 (a o : Option Addr) (n cap m co : Nat) (h i : Int) (s t : ByteArray) (W : World) (P Q : Nat → ByteArray) (r1 r2 : ByteArray) (e1 e2 : Nat) (hs : s.size ≤ 100) (ht : t.size ≤ 100) (hX : Txs W a n P) (hY : Txs W o m Q) (q1 : e1 ≠ 0) (hN : NoTw s t r1 r2 e1 e2)
    (hC : ∀ g, Clm g a n cap h i (lfv s) P r1 e1) (hD : ∀ g, Clm g o m co h i (lfv t) Q r2 e2)
    (HF : Hid (∀ w, Below W.heap.size W w → Calls Tryz.prog 18 #[.agg #[.int .i64 h, .int .i64 i, .slice a n cap]] w fun e w' => e = .returned (.bool true) ∧ Below w.heap.size w w')) (HG : Hid (∀ w, Below W.heap.size W w → Calls Tryz.prog 6 #[.slice o m co, .int .i64 6, .int .i64 100] w fun e w' => e = .returned (.bool true) ∧ w' = w)) :
    Calls Tryz.prog 5 #[.agg #[.int .i64 h, .int .i64 i, .slice a n cap], .slice o m co, .agg #[.string s, .string t]] W fun e w' => e = .returned (.bool true) ∧ Below W.heap.size W w' := by
  have D : Hid (Below W.heap.size W ((W.alloc (.cells #[.int .i64 h, .int .i64 i, .slice a n cap] 47)).alloc (.cells #[.string s, .string t] 56))) := (below_laid _ _).alloc (by simp) _
  have c0' : ((W.alloc (.cells #[.int .i64 h, .int .i64 i, .slice a n cap] 47)).alloc (.cells #[.string s, .string t] 56)).cell? ⟨W.heap.size, 0, none⟩ = some (.int .i64 h) := by simp [go_sem]
  have c1' : ((W.alloc (.cells #[.int .i64 h, .int .i64 i, .slice a n cap] 47)).alloc (.cells #[.string s, .string t] 56)).cell? ⟨W.heap.size, 1, none⟩ = some (.int .i64 i) := by simp [go_sem]
  have c2' : ((W.alloc (.cells #[.int .i64 h, .int .i64 i, .slice a n cap] 47)).alloc (.cells #[.string s, .string t] 56)).cell? ⟨W.heap.size, 2, none⟩ = some (.slice a n cap) := by simp [go_sem]
  have c3' : ((W.alloc (.cells #[.int .i64 h, .int .i64 i, .slice a n cap] 47)).alloc (.cells #[.string s, .string t] 56)).cell? ⟨W.heap.size + 1, 0, none⟩ = some (.string s) := by simp [go_sem]
  have c4' : ((W.alloc (.cells #[.int .i64 h, .int .i64 i, .slice a n cap] 47)).alloc (.cells #[.string s, .string t] 56)).cell? ⟨W.heap.size + 1, 1, none⟩ = some (.string t) := by simp [go_sem]
  have h1 : ¬ (100 : Int) < (s.size : Int) := by omega
  have h2 : ¬ (100 : Int) < (t.size : Int) := by omega
  have HX : Hid (Txs W a n P) := hX
  have HY : Hid (Txs W o m Q) := hY
  have HTw : Hid (∀ g w, Tab w g → Txs w a n P → Txs w o m Q → Calls Tryz.prog 22 #[.pointer (some ⟨g, 0, none⟩), .int .i64 h, .int .i64 i, .string s, .string t, .slice a n cap, .slice o m co] w fun e w' => e = .returned (.tuple #[.string (ByteArray.mk #[]), .string (ByteArray.mk #[]), .bool false]) ∧ Below w.heap.size w w') := fun g w t' x y => twin_no g n cap m co a o h i s t r1 r2 P Q e1 e2 (by omega) (by omega) hN hC hD w t' x y
  have HLs : Hid (∀ g w, Tab w g → Calls Tryz.prog 23 #[.pointer (some ⟨g, 0, none⟩), .string s] w fun e w' => e = .returned (.string (lfv s)) ∧ Below w.heap.size w w') := fun g w q => leaf_ok g s (by omega) w q
  have HLt : Hid (∀ g w, Tab w g → Calls Tryz.prog 23 #[.pointer (some ⟨g, 0, none⟩), .string t] w fun e w' => e = .returned (.string (lfv t)) ∧ Below w.heap.size w w') := fun g w q => leaf_ok g t (by omega) w q
  have HC : Hid (∀ g, Clm g a n cap h i (lfv s) P r1 e1) := hC
  have HE : Hid (∀ g, Clm g o m co h i (lfv t) Q r2 e2) := hD
  have hne := none_none
  have e0 : ¬ (e1 : Int) = 0 := by omega
  clear hX hY hC hD hN 
  generalize lfv s = la at *
  generalize lfv t = lb at *
  go_enter Tryz.func5, Tryz.ntmps5
  go_wp2_with (first | (go_at_call 18; refine (HF.out _ D.out).mono ?_; rintro e w1 ⟨rfl, hb1⟩; have D1 : Hid (Below W.heap.size W w1) := D.out.trans (hb1.mono D.out.size); have c0 := keepc hb1 c0'; have c1 := keepc hb1 c1'; have c2 := keepc hb1 c2'; have c3 := keepc hb1 c3'; have c4 := keepc hb1 c4'; clear hb1) | (go_at_call 6; refine (HG.out _ D1.out).mono ?_; rintro e w9 ⟨rfl, hw⟩; obtain rfl := hw.symm; clear hw) | (go_at_call 7; refine (awake12.go _).mono ?_; rintro e w2 ⟨rfl, hb2⟩; have D2 : Hid (Below W.heap.size W w2) := D1.out.trans (hb2.mono D1.out.size); have f0 := keepc hb2 c0; have f1 := keepc hb2 c1; have f2 := keepc hb2 c2; have f3 := keepc hb2 c3; have f4 := keepc hb2 c4; clear hb2) | (go_at_call 8; refine (make_any _).mono ?_; rintro e w3 ⟨g, rfl, hg, ht3, hb3⟩; have K3 : Hid (Bk W w3 g a n P o m Q) := ⟨ht3.below (Below.refl _ _), HX.out.below (D2.out.trans (hb3.mono D2.out.size)), HY.out.below (D2.out.trans (hb3.mono D2.out.size)), D2.out.trans (hb3.mono D2.out.size)⟩; have g0 := keepc hb3 f0; have g1 := keepc hb3 f1; have g2 := keepc hb3 f2; have g3 := keepc hb3 f3; have g4 := keepc hb3 f4; clear ht3 hb3) | (go_at_call 22; refine (HTw.out _ _ K3.out.t K3.out.x K3.out.y).mono ?_; rintro e w4 ⟨rfl, hb4⟩; have K4 : Hid (Bk W w4 g a n P o m Q) := K3.out.below hb4; have k0 := keepc hb4 g0; have k1 := keepc hb4 g1; have k2 := keepc hb4 g2; have k3 := keepc hb4 g3; have k4 := keepc hb4 g4; clear hb4))
  have F0 : w4.cell? ⟨W.heap.size, 0, none⟩ = some (.int .i64 h) ∧ w4.cell? ⟨W.heap.size, 1, none⟩ = some (.int .i64 i) ∧ w4.cell? ⟨W.heap.size, 2, none⟩ = some (.slice a n cap) ∧ w4.cell? ⟨W.heap.size + 1, 0, none⟩ = some (.string s) ∧ w4.cell? ⟨W.heap.size + 1, 1, none⟩ = some (.string t) := ⟨k0, k1, k2, k3, k4⟩
  clear D D1 D2 c0 c1 c2 c3 c4 c0' c1' c2' c3' c4' f0 f1 f2 f3 f4 g0 g1 g2 g3 g4 k0 k1 k2 k3 k4 K3
  have K := K4
  clear K4
  generalize hq : W.heap.size = q at F0 ⊢
  generalize hp : q + 1 = p at F0 ⊢
  go_region_held3 (fun w => w.cell? ⟨q, 0, none⟩ = some (.int .i64 h) ∧ w.cell? ⟨q, 1, none⟩ = some (.int .i64 i) ∧ w.cell? ⟨q, 2, none⟩ = some (.slice a n cap) ∧ w.cell? ⟨p, 0, none⟩ = some (.string s) ∧ w.cell? ⟨p, 1, none⟩ = some (.string t)) (go_keep) (first | (go_at_call 23; refine (HLs.out _ _ (by first | exact K.out.t | exact K.out.drew.t)).mono ?_; rintro e w' ⟨rfl, hb'⟩; have K' : Hid (Bk W w' g a n P o m Q) := (by first | exact K.out.below hb' | exact K.out.drew.below hb'); have F' : w'.cell? ⟨q, 0, none⟩ = some (.int .i64 h) ∧ w'.cell? ⟨q, 1, none⟩ = some (.int .i64 i) ∧ w'.cell? ⟨q, 2, none⟩ = some (.slice a n cap) ∧ w'.cell? ⟨p, 0, none⟩ = some (.string s) ∧ w'.cell? ⟨p, 1, none⟩ = some (.string t) := ⟨keepc hb' F0.1, keepc hb' F0.2.1, keepc hb' F0.2.2.1, keepc hb' F0.2.2.2.1, keepc hb' F0.2.2.2.2⟩; clear F0 K hb'; have K := K'; have F0 := F'; clear K' F') | (go_at_call 19; refine (HC.out _ _ (by first | exact K.out.t | exact K.out.drew.t) (by first | exact K.out.x | exact K.out.drew.x)).mono ?_; rintro e w' ⟨v1, rfl, hb'⟩; have K' : Hid (Bk W w' g a n P o m Q) := (by first | exact K.out.below hb' | exact K.out.drew.below hb'); have F' : w'.cell? ⟨q, 0, none⟩ = some (.int .i64 h) ∧ w'.cell? ⟨q, 1, none⟩ = some (.int .i64 i) ∧ w'.cell? ⟨q, 2, none⟩ = some (.slice a n cap) ∧ w'.cell? ⟨p, 0, none⟩ = some (.string s) ∧ w'.cell? ⟨p, 1, none⟩ = some (.string t) := ⟨keepc hb' F0.1, keepc hb' F0.2.1, keepc hb' F0.2.2.1, keepc hb' F0.2.2.2.1, keepc hb' F0.2.2.2.2⟩; clear F0 K hb'; have K := K'; have F0 := F'; clear K' F'))
  go_wp2_with fail
  go_region_held3 (fun w => w.cell? ⟨q, 0, none⟩ = some (.int .i64 h) ∧ w.cell? ⟨q, 1, none⟩ = some (.int .i64 i) ∧ w.cell? ⟨q, 2, none⟩ = some (.slice a n cap) ∧ w.cell? ⟨p, 0, none⟩ = some (.string s) ∧ w.cell? ⟨p, 1, none⟩ = some (.string t)) (go_keep) (first | (go_at_call 23; refine (HLt.out _ _ (by first | exact K.out.t | exact K.out.drew.t)).mono ?_; rintro e w' ⟨rfl, hb'⟩; have K' : Hid (Bk W w' g a n P o m Q) := (by first | exact K.out.below hb' | exact K.out.drew.below hb'); have F' : w'.cell? ⟨q, 0, none⟩ = some (.int .i64 h) ∧ w'.cell? ⟨q, 1, none⟩ = some (.int .i64 i) ∧ w'.cell? ⟨q, 2, none⟩ = some (.slice a n cap) ∧ w'.cell? ⟨p, 0, none⟩ = some (.string s) ∧ w'.cell? ⟨p, 1, none⟩ = some (.string t) := ⟨keepc hb' F0.1, keepc hb' F0.2.1, keepc hb' F0.2.2.1, keepc hb' F0.2.2.2.1, keepc hb' F0.2.2.2.2⟩; clear F0 K hb'; have K := K'; have F0 := F'; clear K' F') | (go_at_call 19; refine (HE.out _ _ (by first | exact K.out.t | exact K.out.drew.t) (by first | exact K.out.y | exact K.out.drew.y)).mono ?_; rintro e w' ⟨v2, rfl, hb'⟩; have K' : Hid (Bk W w' g a n P o m Q) := (by first | exact K.out.below hb' | exact K.out.drew.below hb'); have F' : w'.cell? ⟨q, 0, none⟩ = some (.int .i64 h) ∧ w'.cell? ⟨q, 1, none⟩ = some (.int .i64 i) ∧ w'.cell? ⟨q, 2, none⟩ = some (.slice a n cap) ∧ w'.cell? ⟨p, 0, none⟩ = some (.string s) ∧ w'.cell? ⟨p, 1, none⟩ = some (.string t) := ⟨keepc hb' F0.1, keepc hb' F0.2.1, keepc hb' F0.2.2.1, keepc hb' F0.2.2.2.1, keepc hb' F0.2.2.2.2⟩; clear F0 K hb'; have K := K'; have F0 := F'; clear K' F'))
  go_wp2
  go_ret
  exact ⟨rfl, by first | exact K.out.d | (rw [← hq]; exact K.out.d)⟩
set_option maxHeartbeats 6400000 in
set_option maxRecDepth 100000 in
theorem mb_n2 (a o : Option Addr) (n cap m co : Nat) (h i : Int) (s t : ByteArray) (W : World) (P Q : Nat → ByteArray) (r1 r2 : ByteArray) (e1 e2 : Nat) (hs : s.size ≤ 100) (ht : t.size ≤ 100) (hX : Txs W a n P) (hY : Txs W o m Q) (q1 : e1 = 0) (q2 : e2 ≠ 0) (hN : NoTw s t r1 r2 e1 e2)
    (hC : ∀ g, Clm g a n cap h i (lfv s) P r1 e1) (hD : ∀ g, Clm g o m co h i (lfv t) Q r2 e2)
    (HF : Hid (∀ w, Below W.heap.size W w → Calls Tryz.prog 18 #[.agg #[.int .i64 h, .int .i64 i, .slice a n cap]] w fun e w' => e = .returned (.bool true) ∧ Below w.heap.size w w')) (HG : Hid (∀ w, Below W.heap.size W w → Calls Tryz.prog 6 #[.slice o m co, .int .i64 6, .int .i64 100] w fun e w' => e = .returned (.bool true) ∧ w' = w)) :
    Calls Tryz.prog 5 #[.agg #[.int .i64 h, .int .i64 i, .slice a n cap], .slice o m co, .agg #[.string s, .string t]] W fun e w' => e = .returned (.bool true) ∧ Below W.heap.size W w' := by
  have D : Hid (Below W.heap.size W ((W.alloc (.cells #[.int .i64 h, .int .i64 i, .slice a n cap] 47)).alloc (.cells #[.string s, .string t] 56))) := (below_laid _ _).alloc (by simp) _
  have c0' : ((W.alloc (.cells #[.int .i64 h, .int .i64 i, .slice a n cap] 47)).alloc (.cells #[.string s, .string t] 56)).cell? ⟨W.heap.size, 0, none⟩ = some (.int .i64 h) := by simp [go_sem]
  have c1' : ((W.alloc (.cells #[.int .i64 h, .int .i64 i, .slice a n cap] 47)).alloc (.cells #[.string s, .string t] 56)).cell? ⟨W.heap.size, 1, none⟩ = some (.int .i64 i) := by simp [go_sem]
  have c2' : ((W.alloc (.cells #[.int .i64 h, .int .i64 i, .slice a n cap] 47)).alloc (.cells #[.string s, .string t] 56)).cell? ⟨W.heap.size, 2, none⟩ = some (.slice a n cap) := by simp [go_sem]
  have c3' : ((W.alloc (.cells #[.int .i64 h, .int .i64 i, .slice a n cap] 47)).alloc (.cells #[.string s, .string t] 56)).cell? ⟨W.heap.size + 1, 0, none⟩ = some (.string s) := by simp [go_sem]
  have c4' : ((W.alloc (.cells #[.int .i64 h, .int .i64 i, .slice a n cap] 47)).alloc (.cells #[.string s, .string t] 56)).cell? ⟨W.heap.size + 1, 1, none⟩ = some (.string t) := by simp [go_sem]
  have h1 : ¬ (100 : Int) < (s.size : Int) := by omega
  have h2 : ¬ (100 : Int) < (t.size : Int) := by omega
  have HX : Hid (Txs W a n P) := hX
  have HY : Hid (Txs W o m Q) := hY
  have HTw : Hid (∀ g w, Tab w g → Txs w a n P → Txs w o m Q → Calls Tryz.prog 22 #[.pointer (some ⟨g, 0, none⟩), .int .i64 h, .int .i64 i, .string s, .string t, .slice a n cap, .slice o m co] w fun e w' => e = .returned (.tuple #[.string (ByteArray.mk #[]), .string (ByteArray.mk #[]), .bool false]) ∧ Below w.heap.size w w') := fun g w t' x y => twin_no g n cap m co a o h i s t r1 r2 P Q e1 e2 (by omega) (by omega) hN hC hD w t' x y
  have HLs : Hid (∀ g w, Tab w g → Calls Tryz.prog 23 #[.pointer (some ⟨g, 0, none⟩), .string s] w fun e w' => e = .returned (.string (lfv s)) ∧ Below w.heap.size w w') := fun g w q => leaf_ok g s (by omega) w q
  have HLt : Hid (∀ g w, Tab w g → Calls Tryz.prog 23 #[.pointer (some ⟨g, 0, none⟩), .string t] w fun e w' => e = .returned (.string (lfv t)) ∧ Below w.heap.size w w') := fun g w q => leaf_ok g t (by omega) w q
  have HC : Hid (∀ g, Clm g a n cap h i (lfv s) P r1 e1) := hC
  have HE : Hid (∀ g, Clm g o m co h i (lfv t) Q r2 e2) := hD
  have hne := none_none
  have e0 : ¬ (e2 : Int) = 0 := by omega
  subst q1
  clear hX hY hC hD hN 
  generalize lfv s = la at *
  generalize lfv t = lb at *
  go_enter Tryz.func5, Tryz.ntmps5
  go_wp2_with (first | (go_at_call 18; refine (HF.out _ D.out).mono ?_; rintro e w1 ⟨rfl, hb1⟩; have D1 : Hid (Below W.heap.size W w1) := D.out.trans (hb1.mono D.out.size); have c0 := keepc hb1 c0'; have c1 := keepc hb1 c1'; have c2 := keepc hb1 c2'; have c3 := keepc hb1 c3'; have c4 := keepc hb1 c4'; clear hb1) | (go_at_call 6; refine (HG.out _ D1.out).mono ?_; rintro e w9 ⟨rfl, hw⟩; obtain rfl := hw.symm; clear hw) | (go_at_call 7; refine (awake12.go _).mono ?_; rintro e w2 ⟨rfl, hb2⟩; have D2 : Hid (Below W.heap.size W w2) := D1.out.trans (hb2.mono D1.out.size); have f0 := keepc hb2 c0; have f1 := keepc hb2 c1; have f2 := keepc hb2 c2; have f3 := keepc hb2 c3; have f4 := keepc hb2 c4; clear hb2) | (go_at_call 8; refine (make_any _).mono ?_; rintro e w3 ⟨g, rfl, hg, ht3, hb3⟩; have K3 : Hid (Bk W w3 g a n P o m Q) := ⟨ht3.below (Below.refl _ _), HX.out.below (D2.out.trans (hb3.mono D2.out.size)), HY.out.below (D2.out.trans (hb3.mono D2.out.size)), D2.out.trans (hb3.mono D2.out.size)⟩; have g0 := keepc hb3 f0; have g1 := keepc hb3 f1; have g2 := keepc hb3 f2; have g3 := keepc hb3 f3; have g4 := keepc hb3 f4; clear ht3 hb3) | (go_at_call 22; refine (HTw.out _ _ K3.out.t K3.out.x K3.out.y).mono ?_; rintro e w4 ⟨rfl, hb4⟩; have K4 : Hid (Bk W w4 g a n P o m Q) := K3.out.below hb4; have k0 := keepc hb4 g0; have k1 := keepc hb4 g1; have k2 := keepc hb4 g2; have k3 := keepc hb4 g3; have k4 := keepc hb4 g4; clear hb4))
  have F0 : w4.cell? ⟨W.heap.size, 0, none⟩ = some (.int .i64 h) ∧ w4.cell? ⟨W.heap.size, 1, none⟩ = some (.int .i64 i) ∧ w4.cell? ⟨W.heap.size, 2, none⟩ = some (.slice a n cap) ∧ w4.cell? ⟨W.heap.size + 1, 0, none⟩ = some (.string s) ∧ w4.cell? ⟨W.heap.size + 1, 1, none⟩ = some (.string t) := ⟨k0, k1, k2, k3, k4⟩
  clear D D1 D2 c0 c1 c2 c3 c4 c0' c1' c2' c3' c4' f0 f1 f2 f3 f4 g0 g1 g2 g3 g4 k0 k1 k2 k3 k4 K3
  have K := K4
  clear K4
  generalize hq : W.heap.size = q at F0 ⊢
  generalize hp : q + 1 = p at F0 ⊢
  go_region_held3 (fun w => w.cell? ⟨q, 0, none⟩ = some (.int .i64 h) ∧ w.cell? ⟨q, 1, none⟩ = some (.int .i64 i) ∧ w.cell? ⟨q, 2, none⟩ = some (.slice a n cap) ∧ w.cell? ⟨p, 0, none⟩ = some (.string s) ∧ w.cell? ⟨p, 1, none⟩ = some (.string t)) (go_keep) (first | (go_at_call 23; refine (HLs.out _ _ (by first | exact K.out.t | exact K.out.drew.t)).mono ?_; rintro e w' ⟨rfl, hb'⟩; have K' : Hid (Bk W w' g a n P o m Q) := (by first | exact K.out.below hb' | exact K.out.drew.below hb'); have F' : w'.cell? ⟨q, 0, none⟩ = some (.int .i64 h) ∧ w'.cell? ⟨q, 1, none⟩ = some (.int .i64 i) ∧ w'.cell? ⟨q, 2, none⟩ = some (.slice a n cap) ∧ w'.cell? ⟨p, 0, none⟩ = some (.string s) ∧ w'.cell? ⟨p, 1, none⟩ = some (.string t) := ⟨keepc hb' F0.1, keepc hb' F0.2.1, keepc hb' F0.2.2.1, keepc hb' F0.2.2.2.1, keepc hb' F0.2.2.2.2⟩; clear F0 K hb'; have K := K'; have F0 := F'; clear K' F') | (go_at_call 19; refine (HC.out _ _ (by first | exact K.out.t | exact K.out.drew.t) (by first | exact K.out.x | exact K.out.drew.x)).mono ?_; rintro e w' ⟨v1, rfl, hb'⟩; have K' : Hid (Bk W w' g a n P o m Q) := (by first | exact K.out.below hb' | exact K.out.drew.below hb'); have F' : w'.cell? ⟨q, 0, none⟩ = some (.int .i64 h) ∧ w'.cell? ⟨q, 1, none⟩ = some (.int .i64 i) ∧ w'.cell? ⟨q, 2, none⟩ = some (.slice a n cap) ∧ w'.cell? ⟨p, 0, none⟩ = some (.string s) ∧ w'.cell? ⟨p, 1, none⟩ = some (.string t) := ⟨keepc hb' F0.1, keepc hb' F0.2.1, keepc hb' F0.2.2.1, keepc hb' F0.2.2.2.1, keepc hb' F0.2.2.2.2⟩; clear F0 K hb'; have K := K'; have F0 := F'; clear K' F'))
  go_wp2_with fail
  go_region_held3 (fun w => w.cell? ⟨q, 0, none⟩ = some (.int .i64 h) ∧ w.cell? ⟨q, 1, none⟩ = some (.int .i64 i) ∧ w.cell? ⟨q, 2, none⟩ = some (.slice a n cap) ∧ w.cell? ⟨p, 0, none⟩ = some (.string s) ∧ w.cell? ⟨p, 1, none⟩ = some (.string t)) (go_keep) (first | (go_at_call 23; refine (HLt.out _ _ (by first | exact K.out.t | exact K.out.drew.t)).mono ?_; rintro e w' ⟨rfl, hb'⟩; have K' : Hid (Bk W w' g a n P o m Q) := (by first | exact K.out.below hb' | exact K.out.drew.below hb'); have F' : w'.cell? ⟨q, 0, none⟩ = some (.int .i64 h) ∧ w'.cell? ⟨q, 1, none⟩ = some (.int .i64 i) ∧ w'.cell? ⟨q, 2, none⟩ = some (.slice a n cap) ∧ w'.cell? ⟨p, 0, none⟩ = some (.string s) ∧ w'.cell? ⟨p, 1, none⟩ = some (.string t) := ⟨keepc hb' F0.1, keepc hb' F0.2.1, keepc hb' F0.2.2.1, keepc hb' F0.2.2.2.1, keepc hb' F0.2.2.2.2⟩; clear F0 K hb'; have K := K'; have F0 := F'; clear K' F') | (go_at_call 19; refine (HE.out _ _ (by first | exact K.out.t | exact K.out.drew.t) (by first | exact K.out.y | exact K.out.drew.y)).mono ?_; rintro e w' ⟨v2, rfl, hb'⟩; have K' : Hid (Bk W w' g a n P o m Q) := (by first | exact K.out.below hb' | exact K.out.drew.below hb'); have F' : w'.cell? ⟨q, 0, none⟩ = some (.int .i64 h) ∧ w'.cell? ⟨q, 1, none⟩ = some (.int .i64 i) ∧ w'.cell? ⟨q, 2, none⟩ = some (.slice a n cap) ∧ w'.cell? ⟨p, 0, none⟩ = some (.string s) ∧ w'.cell? ⟨p, 1, none⟩ = some (.string t) := ⟨keepc hb' F0.1, keepc hb' F0.2.1, keepc hb' F0.2.2.1, keepc hb' F0.2.2.2.1, keepc hb' F0.2.2.2.2⟩; clear F0 K hb'; have K := K'; have F0 := F'; clear K' F'))
  go_wp2
  go_ret
  exact ⟨rfl, by first | exact K.out.d | (rw [← hq]; exact K.out.d)⟩
set_option maxHeartbeats 6400000 in
set_option maxRecDepth 100000 in
theorem mb_n3 (a o : Option Addr) (n cap m co : Nat) (h i : Int) (s t : ByteArray) (W : World) (P Q : Nat → ByteArray) (r1 r2 : ByteArray) (e1 e2 : Nat) (hs : s.size ≤ 100) (ht : t.size ≤ 100) (hX : Txs W a n P) (hY : Txs W o m Q) (q1 : e1 = 0) (q2 : e2 = 0) (hr : r1 ≠ r2) (hN : NoTw s t r1 r2 e1 e2)
    (hC : ∀ g, Clm g a n cap h i (lfv s) P r1 e1) (hD : ∀ g, Clm g o m co h i (lfv t) Q r2 e2)
    (HF : Hid (∀ w, Below W.heap.size W w → Calls Tryz.prog 18 #[.agg #[.int .i64 h, .int .i64 i, .slice a n cap]] w fun e w' => e = .returned (.bool true) ∧ Below w.heap.size w w')) (HG : Hid (∀ w, Below W.heap.size W w → Calls Tryz.prog 6 #[.slice o m co, .int .i64 6, .int .i64 100] w fun e w' => e = .returned (.bool true) ∧ w' = w)) :
    Calls Tryz.prog 5 #[.agg #[.int .i64 h, .int .i64 i, .slice a n cap], .slice o m co, .agg #[.string s, .string t]] W fun e w' => e = .returned (.bool true) ∧ Below W.heap.size W w' := by
  have D : Hid (Below W.heap.size W ((W.alloc (.cells #[.int .i64 h, .int .i64 i, .slice a n cap] 47)).alloc (.cells #[.string s, .string t] 56))) := (below_laid _ _).alloc (by simp) _
  have c0' : ((W.alloc (.cells #[.int .i64 h, .int .i64 i, .slice a n cap] 47)).alloc (.cells #[.string s, .string t] 56)).cell? ⟨W.heap.size, 0, none⟩ = some (.int .i64 h) := by simp [go_sem]
  have c1' : ((W.alloc (.cells #[.int .i64 h, .int .i64 i, .slice a n cap] 47)).alloc (.cells #[.string s, .string t] 56)).cell? ⟨W.heap.size, 1, none⟩ = some (.int .i64 i) := by simp [go_sem]
  have c2' : ((W.alloc (.cells #[.int .i64 h, .int .i64 i, .slice a n cap] 47)).alloc (.cells #[.string s, .string t] 56)).cell? ⟨W.heap.size, 2, none⟩ = some (.slice a n cap) := by simp [go_sem]
  have c3' : ((W.alloc (.cells #[.int .i64 h, .int .i64 i, .slice a n cap] 47)).alloc (.cells #[.string s, .string t] 56)).cell? ⟨W.heap.size + 1, 0, none⟩ = some (.string s) := by simp [go_sem]
  have c4' : ((W.alloc (.cells #[.int .i64 h, .int .i64 i, .slice a n cap] 47)).alloc (.cells #[.string s, .string t] 56)).cell? ⟨W.heap.size + 1, 1, none⟩ = some (.string t) := by simp [go_sem]
  have h1 : ¬ (100 : Int) < (s.size : Int) := by omega
  have h2 : ¬ (100 : Int) < (t.size : Int) := by omega
  have HX : Hid (Txs W a n P) := hX
  have HY : Hid (Txs W o m Q) := hY
  have HTw : Hid (∀ g w, Tab w g → Txs w a n P → Txs w o m Q → Calls Tryz.prog 22 #[.pointer (some ⟨g, 0, none⟩), .int .i64 h, .int .i64 i, .string s, .string t, .slice a n cap, .slice o m co] w fun e w' => e = .returned (.tuple #[.string (ByteArray.mk #[]), .string (ByteArray.mk #[]), .bool false]) ∧ Below w.heap.size w w') := fun g w t' x y => twin_no g n cap m co a o h i s t r1 r2 P Q e1 e2 (by omega) (by omega) hN hC hD w t' x y
  have HLs : Hid (∀ g w, Tab w g → Calls Tryz.prog 23 #[.pointer (some ⟨g, 0, none⟩), .string s] w fun e w' => e = .returned (.string (lfv s)) ∧ Below w.heap.size w w') := fun g w q => leaf_ok g s (by omega) w q
  have HLt : Hid (∀ g w, Tab w g → Calls Tryz.prog 23 #[.pointer (some ⟨g, 0, none⟩), .string t] w fun e w' => e = .returned (.string (lfv t)) ∧ Below w.heap.size w w') := fun g w q => leaf_ok g t (by omega) w q
  have HC : Hid (∀ g, Clm g a n cap h i (lfv s) P r1 e1) := hC
  have HE : Hid (∀ g, Clm g o m co h i (lfv t) Q r2 e2) := hD
  have hne := none_none
  have e0 := tl_ne hr
  subst q1
  subst q2
  clear hX hY hC hD hN hr
  generalize lfv s = la at *
  generalize lfv t = lb at *
  go_enter Tryz.func5, Tryz.ntmps5
  go_wp2_with (first | (go_at_call 18; refine (HF.out _ D.out).mono ?_; rintro e w1 ⟨rfl, hb1⟩; have D1 : Hid (Below W.heap.size W w1) := D.out.trans (hb1.mono D.out.size); have c0 := keepc hb1 c0'; have c1 := keepc hb1 c1'; have c2 := keepc hb1 c2'; have c3 := keepc hb1 c3'; have c4 := keepc hb1 c4'; clear hb1) | (go_at_call 6; refine (HG.out _ D1.out).mono ?_; rintro e w9 ⟨rfl, hw⟩; obtain rfl := hw.symm; clear hw) | (go_at_call 7; refine (awake12.go _).mono ?_; rintro e w2 ⟨rfl, hb2⟩; have D2 : Hid (Below W.heap.size W w2) := D1.out.trans (hb2.mono D1.out.size); have f0 := keepc hb2 c0; have f1 := keepc hb2 c1; have f2 := keepc hb2 c2; have f3 := keepc hb2 c3; have f4 := keepc hb2 c4; clear hb2) | (go_at_call 8; refine (make_any _).mono ?_; rintro e w3 ⟨g, rfl, hg, ht3, hb3⟩; have K3 : Hid (Bk W w3 g a n P o m Q) := ⟨ht3.below (Below.refl _ _), HX.out.below (D2.out.trans (hb3.mono D2.out.size)), HY.out.below (D2.out.trans (hb3.mono D2.out.size)), D2.out.trans (hb3.mono D2.out.size)⟩; have g0 := keepc hb3 f0; have g1 := keepc hb3 f1; have g2 := keepc hb3 f2; have g3 := keepc hb3 f3; have g4 := keepc hb3 f4; clear ht3 hb3) | (go_at_call 22; refine (HTw.out _ _ K3.out.t K3.out.x K3.out.y).mono ?_; rintro e w4 ⟨rfl, hb4⟩; have K4 : Hid (Bk W w4 g a n P o m Q) := K3.out.below hb4; have k0 := keepc hb4 g0; have k1 := keepc hb4 g1; have k2 := keepc hb4 g2; have k3 := keepc hb4 g3; have k4 := keepc hb4 g4; clear hb4))
  have F0 : w4.cell? ⟨W.heap.size, 0, none⟩ = some (.int .i64 h) ∧ w4.cell? ⟨W.heap.size, 1, none⟩ = some (.int .i64 i) ∧ w4.cell? ⟨W.heap.size, 2, none⟩ = some (.slice a n cap) ∧ w4.cell? ⟨W.heap.size + 1, 0, none⟩ = some (.string s) ∧ w4.cell? ⟨W.heap.size + 1, 1, none⟩ = some (.string t) := ⟨k0, k1, k2, k3, k4⟩
  clear D D1 D2 c0 c1 c2 c3 c4 c0' c1' c2' c3' c4' f0 f1 f2 f3 f4 g0 g1 g2 g3 g4 k0 k1 k2 k3 k4 K3
  have K := K4
  clear K4
  generalize hq : W.heap.size = q at F0 ⊢
  generalize hp : q + 1 = p at F0 ⊢
  go_region_held3 (fun w => w.cell? ⟨q, 0, none⟩ = some (.int .i64 h) ∧ w.cell? ⟨q, 1, none⟩ = some (.int .i64 i) ∧ w.cell? ⟨q, 2, none⟩ = some (.slice a n cap) ∧ w.cell? ⟨p, 0, none⟩ = some (.string s) ∧ w.cell? ⟨p, 1, none⟩ = some (.string t)) (go_keep) (first | (go_at_call 23; refine (HLs.out _ _ (by first | exact K.out.t | exact K.out.drew.t)).mono ?_; rintro e w' ⟨rfl, hb'⟩; have K' : Hid (Bk W w' g a n P o m Q) := (by first | exact K.out.below hb' | exact K.out.drew.below hb'); have F' : w'.cell? ⟨q, 0, none⟩ = some (.int .i64 h) ∧ w'.cell? ⟨q, 1, none⟩ = some (.int .i64 i) ∧ w'.cell? ⟨q, 2, none⟩ = some (.slice a n cap) ∧ w'.cell? ⟨p, 0, none⟩ = some (.string s) ∧ w'.cell? ⟨p, 1, none⟩ = some (.string t) := ⟨keepc hb' F0.1, keepc hb' F0.2.1, keepc hb' F0.2.2.1, keepc hb' F0.2.2.2.1, keepc hb' F0.2.2.2.2⟩; clear F0 K hb'; have K := K'; have F0 := F'; clear K' F') | (go_at_call 19; refine (HC.out _ _ (by first | exact K.out.t | exact K.out.drew.t) (by first | exact K.out.x | exact K.out.drew.x)).mono ?_; rintro e w' ⟨v1, rfl, hb'⟩; have K' : Hid (Bk W w' g a n P o m Q) := (by first | exact K.out.below hb' | exact K.out.drew.below hb'); have F' : w'.cell? ⟨q, 0, none⟩ = some (.int .i64 h) ∧ w'.cell? ⟨q, 1, none⟩ = some (.int .i64 i) ∧ w'.cell? ⟨q, 2, none⟩ = some (.slice a n cap) ∧ w'.cell? ⟨p, 0, none⟩ = some (.string s) ∧ w'.cell? ⟨p, 1, none⟩ = some (.string t) := ⟨keepc hb' F0.1, keepc hb' F0.2.1, keepc hb' F0.2.2.1, keepc hb' F0.2.2.2.1, keepc hb' F0.2.2.2.2⟩; clear F0 K hb'; have K := K'; have F0 := F'; clear K' F'))
  go_wp2_with fail
  go_region_held3 (fun w => w.cell? ⟨q, 0, none⟩ = some (.int .i64 h) ∧ w.cell? ⟨q, 1, none⟩ = some (.int .i64 i) ∧ w.cell? ⟨q, 2, none⟩ = some (.slice a n cap) ∧ w.cell? ⟨p, 0, none⟩ = some (.string s) ∧ w.cell? ⟨p, 1, none⟩ = some (.string t)) (go_keep) (first | (go_at_call 23; refine (HLt.out _ _ (by first | exact K.out.t | exact K.out.drew.t)).mono ?_; rintro e w' ⟨rfl, hb'⟩; have K' : Hid (Bk W w' g a n P o m Q) := (by first | exact K.out.below hb' | exact K.out.drew.below hb'); have F' : w'.cell? ⟨q, 0, none⟩ = some (.int .i64 h) ∧ w'.cell? ⟨q, 1, none⟩ = some (.int .i64 i) ∧ w'.cell? ⟨q, 2, none⟩ = some (.slice a n cap) ∧ w'.cell? ⟨p, 0, none⟩ = some (.string s) ∧ w'.cell? ⟨p, 1, none⟩ = some (.string t) := ⟨keepc hb' F0.1, keepc hb' F0.2.1, keepc hb' F0.2.2.1, keepc hb' F0.2.2.2.1, keepc hb' F0.2.2.2.2⟩; clear F0 K hb'; have K := K'; have F0 := F'; clear K' F') | (go_at_call 19; refine (HE.out _ _ (by first | exact K.out.t | exact K.out.drew.t) (by first | exact K.out.y | exact K.out.drew.y)).mono ?_; rintro e w' ⟨v2, rfl, hb'⟩; have K' : Hid (Bk W w' g a n P o m Q) := (by first | exact K.out.below hb' | exact K.out.drew.below hb'); have F' : w'.cell? ⟨q, 0, none⟩ = some (.int .i64 h) ∧ w'.cell? ⟨q, 1, none⟩ = some (.int .i64 i) ∧ w'.cell? ⟨q, 2, none⟩ = some (.slice a n cap) ∧ w'.cell? ⟨p, 0, none⟩ = some (.string s) ∧ w'.cell? ⟨p, 1, none⟩ = some (.string t) := ⟨keepc hb' F0.1, keepc hb' F0.2.1, keepc hb' F0.2.2.1, keepc hb' F0.2.2.2.1, keepc hb' F0.2.2.2.2⟩; clear F0 K hb'; have K := K'; have F0 := F'; clear K' F'))
  go_wp2
  go_ret
  exact ⟨rfl, by first | exact K.out.d | (rw [← hq]; exact K.out.d)⟩
set_option maxHeartbeats 6400000 in
set_option maxRecDepth 100000 in
theorem mb_n4 (a o : Option Addr) (n cap m co : Nat) (h i : Int) (s : ByteArray) (W : World) (P Q : Nat → ByteArray) (r1 r2 : ByteArray) (e1 e2 : Nat) (hs : s.size ≤ 100) (hX : Txs W a n P) (hY : Txs W o m Q) (q1 : e1 = 0) (q2 : e2 = 0) (hr : r1 = r2) (hN : NoTw s s r1 r2 e1 e2)
    (hC : ∀ g, Clm g a n cap h i (lfv s) P r1 e1) (hD : ∀ g, Clm g o m co h i (lfv s) Q r2 e2)
    (HF : Hid (∀ w, Below W.heap.size W w → Calls Tryz.prog 18 #[.agg #[.int .i64 h, .int .i64 i, .slice a n cap]] w fun e w' => e = .returned (.bool true) ∧ Below w.heap.size w w')) (HG : Hid (∀ w, Below W.heap.size W w → Calls Tryz.prog 6 #[.slice o m co, .int .i64 6, .int .i64 100] w fun e w' => e = .returned (.bool true) ∧ w' = w)) :
    Calls Tryz.prog 5 #[.agg #[.int .i64 h, .int .i64 i, .slice a n cap], .slice o m co, .agg #[.string s, .string s]] W fun e w' => e = .returned (.bool true) ∧ Below W.heap.size W w' := by
  have D : Hid (Below W.heap.size W ((W.alloc (.cells #[.int .i64 h, .int .i64 i, .slice a n cap] 47)).alloc (.cells #[.string s, .string s] 56))) := (below_laid _ _).alloc (by simp) _
  have c0' : ((W.alloc (.cells #[.int .i64 h, .int .i64 i, .slice a n cap] 47)).alloc (.cells #[.string s, .string s] 56)).cell? ⟨W.heap.size, 0, none⟩ = some (.int .i64 h) := by simp [go_sem]
  have c1' : ((W.alloc (.cells #[.int .i64 h, .int .i64 i, .slice a n cap] 47)).alloc (.cells #[.string s, .string s] 56)).cell? ⟨W.heap.size, 1, none⟩ = some (.int .i64 i) := by simp [go_sem]
  have c2' : ((W.alloc (.cells #[.int .i64 h, .int .i64 i, .slice a n cap] 47)).alloc (.cells #[.string s, .string s] 56)).cell? ⟨W.heap.size, 2, none⟩ = some (.slice a n cap) := by simp [go_sem]
  have c3' : ((W.alloc (.cells #[.int .i64 h, .int .i64 i, .slice a n cap] 47)).alloc (.cells #[.string s, .string s] 56)).cell? ⟨W.heap.size + 1, 0, none⟩ = some (.string s) := by simp [go_sem]
  have c4' : ((W.alloc (.cells #[.int .i64 h, .int .i64 i, .slice a n cap] 47)).alloc (.cells #[.string s, .string s] 56)).cell? ⟨W.heap.size + 1, 1, none⟩ = some (.string s) := by simp [go_sem]
  have h1 : ¬ (100 : Int) < (s.size : Int) := by omega
  have h2 : ¬ (100 : Int) < (s.size : Int) := by omega
  have HX : Hid (Txs W a n P) := hX
  have HY : Hid (Txs W o m Q) := hY
  have HTw : Hid (∀ g w, Tab w g → Txs w a n P → Txs w o m Q → Calls Tryz.prog 22 #[.pointer (some ⟨g, 0, none⟩), .int .i64 h, .int .i64 i, .string s, .string s, .slice a n cap, .slice o m co] w fun e w' => e = .returned (.tuple #[.string (ByteArray.mk #[]), .string (ByteArray.mk #[]), .bool false]) ∧ Below w.heap.size w w') := fun g w t' x y => twin_no g n cap m co a o h i s s r1 r2 P Q e1 e2 (by omega) (by omega) hN hC hD w t' x y
  have HLs : Hid (∀ g w, Tab w g → Calls Tryz.prog 23 #[.pointer (some ⟨g, 0, none⟩), .string s] w fun e w' => e = .returned (.string (lfv s)) ∧ Below w.heap.size w w') := fun g w q => leaf_ok g s (by omega) w q
  have HLt : Hid (∀ g w, Tab w g → Calls Tryz.prog 23 #[.pointer (some ⟨g, 0, none⟩), .string s] w fun e w' => e = .returned (.string (lfv s)) ∧ Below w.heap.size w w') := fun g w q => leaf_ok g s (by omega) w q
  have HC : Hid (∀ g, Clm g a n cap h i (lfv s) P r1 e1) := hC
  have HE : Hid (∀ g, Clm g o m co h i (lfv s) Q r2 e2) := hD
  have hne := none_none
  subst hr
  subst q1
  subst q2
  clear hX hY hC hD hN
  generalize lfv s = la at *
  go_enter Tryz.func5, Tryz.ntmps5
  go_wp2_with (first | (go_at_call 18; refine (HF.out _ D.out).mono ?_; rintro e w1 ⟨rfl, hb1⟩; have D1 : Hid (Below W.heap.size W w1) := D.out.trans (hb1.mono D.out.size); have c0 := keepc hb1 c0'; have c1 := keepc hb1 c1'; have c2 := keepc hb1 c2'; have c3 := keepc hb1 c3'; have c4 := keepc hb1 c4'; clear hb1) | (go_at_call 6; refine (HG.out _ D1.out).mono ?_; rintro e w9 ⟨rfl, hw⟩; obtain rfl := hw.symm; clear hw) | (go_at_call 7; refine (awake12.go _).mono ?_; rintro e w2 ⟨rfl, hb2⟩; have D2 : Hid (Below W.heap.size W w2) := D1.out.trans (hb2.mono D1.out.size); have f0 := keepc hb2 c0; have f1 := keepc hb2 c1; have f2 := keepc hb2 c2; have f3 := keepc hb2 c3; have f4 := keepc hb2 c4; clear hb2) | (go_at_call 8; refine (make_any _).mono ?_; rintro e w3 ⟨g, rfl, hg, ht3, hb3⟩; have K3 : Hid (Bk W w3 g a n P o m Q) := ⟨ht3.below (Below.refl _ _), HX.out.below (D2.out.trans (hb3.mono D2.out.size)), HY.out.below (D2.out.trans (hb3.mono D2.out.size)), D2.out.trans (hb3.mono D2.out.size)⟩; have g0 := keepc hb3 f0; have g1 := keepc hb3 f1; have g2 := keepc hb3 f2; have g3 := keepc hb3 f3; have g4 := keepc hb3 f4; clear ht3 hb3) | (go_at_call 22; refine (HTw.out _ _ K3.out.t K3.out.x K3.out.y).mono ?_; rintro e w4 ⟨rfl, hb4⟩; have K4 : Hid (Bk W w4 g a n P o m Q) := K3.out.below hb4; have k0 := keepc hb4 g0; have k1 := keepc hb4 g1; have k2 := keepc hb4 g2; have k3 := keepc hb4 g3; have k4 := keepc hb4 g4; clear hb4))
  have F0 : w4.cell? ⟨W.heap.size, 0, none⟩ = some (.int .i64 h) ∧ w4.cell? ⟨W.heap.size, 1, none⟩ = some (.int .i64 i) ∧ w4.cell? ⟨W.heap.size, 2, none⟩ = some (.slice a n cap) ∧ w4.cell? ⟨W.heap.size + 1, 0, none⟩ = some (.string s) ∧ w4.cell? ⟨W.heap.size + 1, 1, none⟩ = some (.string s) := ⟨k0, k1, k2, k3, k4⟩
  clear D D1 D2 c0 c1 c2 c3 c4 c0' c1' c2' c3' c4' f0 f1 f2 f3 f4 g0 g1 g2 g3 g4 k0 k1 k2 k3 k4 K3
  have K := K4
  clear K4
  generalize hq : W.heap.size = q at F0 ⊢
  generalize hp : q + 1 = p at F0 ⊢
  go_region_held3 (fun w => w.cell? ⟨q, 0, none⟩ = some (.int .i64 h) ∧ w.cell? ⟨q, 1, none⟩ = some (.int .i64 i) ∧ w.cell? ⟨q, 2, none⟩ = some (.slice a n cap) ∧ w.cell? ⟨p, 0, none⟩ = some (.string s) ∧ w.cell? ⟨p, 1, none⟩ = some (.string s)) (go_keep) (first | (go_at_call 23; refine (HLs.out _ _ (by first | exact K.out.t | exact K.out.drew.t)).mono ?_; rintro e w' ⟨rfl, hb'⟩; have K' : Hid (Bk W w' g a n P o m Q) := (by first | exact K.out.below hb' | exact K.out.drew.below hb'); have F' : w'.cell? ⟨q, 0, none⟩ = some (.int .i64 h) ∧ w'.cell? ⟨q, 1, none⟩ = some (.int .i64 i) ∧ w'.cell? ⟨q, 2, none⟩ = some (.slice a n cap) ∧ w'.cell? ⟨p, 0, none⟩ = some (.string s) ∧ w'.cell? ⟨p, 1, none⟩ = some (.string s) := ⟨keepc hb' F0.1, keepc hb' F0.2.1, keepc hb' F0.2.2.1, keepc hb' F0.2.2.2.1, keepc hb' F0.2.2.2.2⟩; clear F0 K hb'; have K := K'; have F0 := F'; clear K' F') | (go_at_call 19; refine (HC.out _ _ (by first | exact K.out.t | exact K.out.drew.t) (by first | exact K.out.x | exact K.out.drew.x)).mono ?_; rintro e w' ⟨v1, rfl, hb'⟩; have K' : Hid (Bk W w' g a n P o m Q) := (by first | exact K.out.below hb' | exact K.out.drew.below hb'); have F' : w'.cell? ⟨q, 0, none⟩ = some (.int .i64 h) ∧ w'.cell? ⟨q, 1, none⟩ = some (.int .i64 i) ∧ w'.cell? ⟨q, 2, none⟩ = some (.slice a n cap) ∧ w'.cell? ⟨p, 0, none⟩ = some (.string s) ∧ w'.cell? ⟨p, 1, none⟩ = some (.string s) := ⟨keepc hb' F0.1, keepc hb' F0.2.1, keepc hb' F0.2.2.1, keepc hb' F0.2.2.2.1, keepc hb' F0.2.2.2.2⟩; clear F0 K hb'; have K := K'; have F0 := F'; clear K' F'))
  go_wp2_with fail
  go_region_held3 (fun w => w.cell? ⟨q, 0, none⟩ = some (.int .i64 h) ∧ w.cell? ⟨q, 1, none⟩ = some (.int .i64 i) ∧ w.cell? ⟨q, 2, none⟩ = some (.slice a n cap) ∧ w.cell? ⟨p, 0, none⟩ = some (.string s) ∧ w.cell? ⟨p, 1, none⟩ = some (.string s)) (go_keep) (first | (go_at_call 23; refine (HLt.out _ _ (by first | exact K.out.t | exact K.out.drew.t)).mono ?_; rintro e w' ⟨rfl, hb'⟩; have K' : Hid (Bk W w' g a n P o m Q) := (by first | exact K.out.below hb' | exact K.out.drew.below hb'); have F' : w'.cell? ⟨q, 0, none⟩ = some (.int .i64 h) ∧ w'.cell? ⟨q, 1, none⟩ = some (.int .i64 i) ∧ w'.cell? ⟨q, 2, none⟩ = some (.slice a n cap) ∧ w'.cell? ⟨p, 0, none⟩ = some (.string s) ∧ w'.cell? ⟨p, 1, none⟩ = some (.string s) := ⟨keepc hb' F0.1, keepc hb' F0.2.1, keepc hb' F0.2.2.1, keepc hb' F0.2.2.2.1, keepc hb' F0.2.2.2.2⟩; clear F0 K hb'; have K := K'; have F0 := F'; clear K' F') | (go_at_call 19; refine (HE.out _ _ (by first | exact K.out.t | exact K.out.drew.t) (by first | exact K.out.y | exact K.out.drew.y)).mono ?_; rintro e w' ⟨v2, rfl, hb'⟩; have K' : Hid (Bk W w' g a n P o m Q) := (by first | exact K.out.below hb' | exact K.out.drew.below hb'); have F' : w'.cell? ⟨q, 0, none⟩ = some (.int .i64 h) ∧ w'.cell? ⟨q, 1, none⟩ = some (.int .i64 i) ∧ w'.cell? ⟨q, 2, none⟩ = some (.slice a n cap) ∧ w'.cell? ⟨p, 0, none⟩ = some (.string s) ∧ w'.cell? ⟨p, 1, none⟩ = some (.string s) := ⟨keepc hb' F0.1, keepc hb' F0.2.1, keepc hb' F0.2.2.1, keepc hb' F0.2.2.2.1, keepc hb' F0.2.2.2.2⟩; clear F0 K hb'; have K := K'; have F0 := F'; clear K' F'))
  go_wp2
  go_ret
  exact ⟨rfl, by first | exact K.out.d | (rw [← hq]; exact K.out.d)⟩
end Go.Proofs.YtfepgoddoohpbaaGreat
