/- Two texts of one digest where two ways part: they differ; the walk of MerkleBinds with a twin; over the seat's translation. -/
import Derived.Test.YtfepgoddoohpbaaGreatMkK
namespace Go.Proofs.YtfepgoddoohpbaaGreat
open Go.RowKit

theorem txs_drew {w : World} {a : Option Addr} {n : Nat} {f : Nat → ByteArray} (h : Txs w a n f) : Txs w.drew a n f := ⟨h.cells⟩
theorem app_inj {a b c d : ByteArray} (hs : a.size = c.size) (h : a ++ b = c ++ d) : a = c ∧ b = d := by
  have h1 := congrArg (fun x : ByteArray => x.data.toList) h
  simp only [ByteArray.data_append, Array.toList_append] at h1
  have h2 := List.append_inj h1 (by simpa using hs)
  exact ⟨ByteArray.ext (Array.toList_inj.1 h2.1), ByteArray.ext (Array.toList_inj.1 h2.2)⟩
theorem twx_ne {i h : Nat} {P Q : Nat → ByteArray} {a b : ByteArray} (hP : ∀ k, k < h → (P k).size = 32) (hQ : ∀ k, k < h → (Q k).size = 32) (hab : a ≠ b) : ∀ k, k ≤ h → (∀ m, m < k → smv (twx i P a m) ≠ smv (twx i Q b m)) → twx i P a k ≠ twx i Q b k
  | 0, _, _ => fun e => hab (app_inj rfl e).2
  | k + 1, hk, hm => fun e => by
    have h1 := hm k (by omega)
    rw [twx_sum, twx_sum] at h1
    have s1 := clv_size (i := i) (P := P) (lfv_size a) k
    have s2 := clv_size (i := i) (P := Q) (lfv_size b) k
    have e' : ctx i k (clv i P (lfv a) k) (P k) = ctx i k (clv i Q (lfv b) k) (Q k) := e
    unfold ctx at e'
    by_cases q : i / 2 ^ k % 2 = 0
    · rw [if_pos q, if_pos q, ByteArray.append_assoc, ByteArray.append_assoc] at e'
      exact h1 (app_inj (by rw [s1, s2]) (app_inj rfl e').2).1
    · rw [if_neg q, if_neg q, ByteArray.append_assoc, ByteArray.append_assoc] at e'
      exact h1 (app_inj (by rw [hP k (by omega), hQ k (by omega)]) (app_inj rfl e').2).2
/-- The twin: of two ways' texts. -/
structure Tz (X Y : Nat → ByteArray) (k : Nat) (xk yk : ByteArray) : Prop where
  x : xk = X k
  y : yk = Y k
  ne : xk ≠ yk
  sum : smv xk = smv yk
  sx : xk.size ≤ 1001
  sy : yk.size ≤ 1001
/-- What Climb gives where it climbs. -/
abbrev ClT (g : Nat) (a : Option Addr) (h cap j : Nat) (l : ByteArray) (P : Nat → ByteArray) (r : ByteArray) (f : Nat → ByteArray) : Prop :=
  ∀ w, Tab w g → Txs w a h P → Calls Tryz.prog 19 #[.pointer (some ⟨g, 0, none⟩), .int .i64 (h : Int), .int .i64 (j : Int), .string l, .slice a h cap] w fun e w' => ∃ a5 c5, e = .returned (.tuple #[.string r, .slice a5 h c5, .int .i64 0]) ∧ Txs w' a5 h f ∧ Below w.heap.size w w'
set_option maxHeartbeats 16000000 in
set_option maxRecDepth 100000 in
theorem mb_yes (a o : Option Addr) (h cap co j : Nat) (s t : ByteArray) (W : World) (P Q X Y f1' f2' : Nat → ByteArray) (r : ByteArray) (hh : h ≤ 12) (hs : s.size ≤ 100) (ht : t.size ≤ 100) (hst : s ≠ t) (hX : Txs W a h P) (hY : Txs W o h Q)
    (hX0 : X 0 = ByteArray.mk #[0] ++ s) (hY0 : Y 0 = ByteArray.mk #[0] ++ t) (HX1 : Hid (∀ k, f1' k = X (k + 1) ∧ f2' k = Y (k + 1)))
    (HC : Hid (∀ g, ClT g a h cap j (lfv s) P r f1')) (HE : Hid (∀ g, ClT g o h co j (lfv t) Q r f2'))
    (HTw : Hid (∀ g w, Tab w g → Txs w a h P → Txs w o h Q → Calls Tryz.prog 22 #[.pointer (some ⟨g, 0, none⟩), .int .i64 (h : Int), .int .i64 (j : Int), .string s, .string t, .slice a h cap, .slice o h co] w fun e w' => ∃ k xk yk, k ≤ h ∧ e = .returned (.tuple #[.string xk, .string yk, .bool true]) ∧ Tz X Y k xk yk ∧ Below w.heap.size w w'))
    (HF : Hid (∀ w, Below W.heap.size W w → Calls Tryz.prog 18 #[.agg #[.int .i64 (h : Int), .int .i64 (j : Int), .slice a h cap]] w fun e w' => e = .returned (.bool true) ∧ Below w.heap.size w w'))
    (HG : Hid (∀ w, Below W.heap.size W w → Calls Tryz.prog 6 #[.slice o h co, .int .i64 6, .int .i64 100] w fun e w' => e = .returned (.bool true) ∧ w' = w)) :
    Calls Tryz.prog 5 #[.agg #[.int .i64 (h : Int), .int .i64 (j : Int), .slice a h cap], .slice o h co, .agg #[.string s, .string t]] W fun e w' => e = .returned (.bool true) ∧ Below W.heap.size W w' := by
  have D : Hid (Below W.heap.size W ((W.alloc (.cells #[.int .i64 (h : Int), .int .i64 (j : Int), .slice a h cap] 47)).alloc (.cells #[.string s, .string t] 56))) := (below_laid _ _).alloc (by simp) _
  have c0' : ((W.alloc (.cells #[.int .i64 (h : Int), .int .i64 (j : Int), .slice a h cap] 47)).alloc (.cells #[.string s, .string t] 56)).cell? ⟨W.heap.size, 0, none⟩ = some (.int .i64 (h : Int)) := by simp [go_sem]
  have c1' : ((W.alloc (.cells #[.int .i64 (h : Int), .int .i64 (j : Int), .slice a h cap] 47)).alloc (.cells #[.string s, .string t] 56)).cell? ⟨W.heap.size, 1, none⟩ = some (.int .i64 (j : Int)) := by simp [go_sem]
  have c2' : ((W.alloc (.cells #[.int .i64 (h : Int), .int .i64 (j : Int), .slice a h cap] 47)).alloc (.cells #[.string s, .string t] 56)).cell? ⟨W.heap.size, 2, none⟩ = some (.slice a h cap) := by simp [go_sem]
  have c3' : ((W.alloc (.cells #[.int .i64 (h : Int), .int .i64 (j : Int), .slice a h cap] 47)).alloc (.cells #[.string s, .string t] 56)).cell? ⟨W.heap.size + 1, 0, none⟩ = some (.string s) := by simp [go_sem]
  have c4' : ((W.alloc (.cells #[.int .i64 (h : Int), .int .i64 (j : Int), .slice a h cap] 47)).alloc (.cells #[.string s, .string t] 56)).cell? ⟨W.heap.size + 1, 1, none⟩ = some (.string t) := by simp [go_sem]
  have h1 : ¬ (100 : Int) < (s.size : Int) := by omega
  have h2 : ¬ (100 : Int) < (t.size : Int) := by omega
  have HX : Hid (Txs W a h P) := hX
  have HY : Hid (Txs W o h Q) := hY
  have HLs : Hid (∀ g w, Tab w g → Calls Tryz.prog 23 #[.pointer (some ⟨g, 0, none⟩), .string s] w fun e w' => e = .returned (.string (lfv s)) ∧ Below w.heap.size w w') := fun g w q => leaf_ok g s (by omega) w q
  have HLt : Hid (∀ g w, Tab w g → Calls Tryz.prog 23 #[.pointer (some ⟨g, 0, none⟩), .string t] w fun e w' => e = .returned (.string (lfv t)) ∧ Below w.heap.size w w') := fun g w q => leaf_ok g t (by omega) w q
  have hste := tl_ne hst
  have z0 : (ByteArray.mk #[0]).size = 1 := rfl
  have z1 : (ByteArray.mk #[0] ++ s).size = 1 + s.size := ByteArray.size_append
  have z2 : (ByteArray.mk #[0] ++ t).size = 1 + t.size := ByteArray.size_append
  clear hX hY hst
  generalize lfv s = la at *
  generalize lfv t = lb at *
  go_enter Tryz.func5, Tryz.ntmps5
  go_wp2_with (first | (go_at_call 18; refine (HF.out _ D.out).mono ?_; rintro e w1 ⟨rfl, hb1⟩; have D1 : Hid (Below W.heap.size W w1) := D.out.trans (hb1.mono D.out.size); have c0 := keepc hb1 c0'; have c1 := keepc hb1 c1'; have c2 := keepc hb1 c2'; have c3 := keepc hb1 c3'; have c4 := keepc hb1 c4'; clear hb1) | (go_at_call 6; refine (HG.out _ D1.out).mono ?_; rintro e w9 ⟨rfl, hw⟩; obtain rfl := hw.symm; clear hw) | (go_at_call 7; refine (awake12.go _).mono ?_; rintro e w2 ⟨rfl, hb2⟩; have D2 : Hid (Below W.heap.size W w2) := D1.out.trans (hb2.mono D1.out.size); have f0 := keepc hb2 c0; have f1 := keepc hb2 c1; have f2 := keepc hb2 c2; have f3 := keepc hb2 c3; have f4 := keepc hb2 c4; clear hb2) | (go_at_call 8; refine (make_any _).mono ?_; rintro e w3 ⟨g, rfl, hg, ht3, hb3⟩; have K3 : Hid (Bk W w3 g a h P o h Q) := ⟨ht3.below (Below.refl _ _), HX.out.below (D2.out.trans (hb3.mono D2.out.size)), HY.out.below (D2.out.trans (hb3.mono D2.out.size)), D2.out.trans (hb3.mono D2.out.size)⟩; have g0 := keepc hb3 f0; have g1 := keepc hb3 f1; have g2 := keepc hb3 f2; have g3 := keepc hb3 f3; have g4 := keepc hb3 f4; clear ht3 hb3) | (go_at_call 22; refine (HTw.out _ _ K3.out.t K3.out.x K3.out.y).mono ?_; rintro e w4 ⟨k, xk, yk, hkh, rfl, hkz, hb4⟩; have HKZ : Hid (Tz X Y k xk yk) := hkz; have K4 : Hid (Bk W w4 g a h P o h Q) := K3.out.below hb4; have k0 := keepc hb4 g0; have k1 := keepc hb4 g1; have k2 := keepc hb4 g2; have k3 := keepc hb4 g3; have k4 := keepc hb4 g4; clear hb4 hkz))
  have F0 : w4.cell? ⟨W.heap.size, 0, none⟩ = some (.int .i64 (h : Int)) ∧ w4.cell? ⟨W.heap.size, 1, none⟩ = some (.int .i64 (j : Int)) ∧ w4.cell? ⟨W.heap.size, 2, none⟩ = some (.slice a h cap) ∧ w4.cell? ⟨W.heap.size + 1, 0, none⟩ = some (.string s) ∧ w4.cell? ⟨W.heap.size + 1, 1, none⟩ = some (.string t) := ⟨k0, k1, k2, k3, k4⟩
  clear D D1 D2 c0 c1 c2 c3 c4 c0' c1' c2' c3' c4' f0 f1 f2 f3 f4 g0 g1 g2 g3 g4 k0 k1 k2 k3 k4 K3
  have K := K4
  clear K4
  generalize hq : W.heap.size = q at F0 ⊢
  generalize hp : q + 1 = p at F0 ⊢
  go_region_held3 (fun w => w.cell? ⟨q, 0, none⟩ = some (.int .i64 (h : Int)) ∧ w.cell? ⟨q, 1, none⟩ = some (.int .i64 (j : Int)) ∧ w.cell? ⟨q, 2, none⟩ = some (.slice a h cap) ∧ w.cell? ⟨p, 0, none⟩ = some (.string s) ∧ w.cell? ⟨p, 1, none⟩ = some (.string t)) (go_keep) (first | (go_at_call 23; refine (HLs.out _ _ (by first | exact K.out.t | exact K.out.drew.t)).mono ?_; rintro e w' ⟨rfl, hb'⟩; have K' : Hid (Bk W w' g a h P o h Q) := (by first | exact K.out.below hb' | exact K.out.drew.below hb'); have F' : w'.cell? ⟨q, 0, none⟩ = some (.int .i64 (h : Int)) ∧ w'.cell? ⟨q, 1, none⟩ = some (.int .i64 (j : Int)) ∧ w'.cell? ⟨q, 2, none⟩ = some (.slice a h cap) ∧ w'.cell? ⟨p, 0, none⟩ = some (.string s) ∧ w'.cell? ⟨p, 1, none⟩ = some (.string t) := ⟨keepc hb' F0.1, keepc hb' F0.2.1, keepc hb' F0.2.2.1, keepc hb' F0.2.2.2.1, keepc hb' F0.2.2.2.2⟩; clear F0 K hb'; have K := K'; have F0 := F'; clear K' F') | (go_at_call 19; refine (HC.out _ _ (by first | exact K.out.t | exact K.out.drew.t) (by first | exact K.out.x | exact K.out.drew.x)).mono ?_; rintro e w' ⟨a5, c5, rfl, hx5, hb'⟩; have L1 : Hid (Txs w' a5 h f1') := hx5; clear hx5; have K' : Hid (Bk W w' g a h P o h Q) := (by first | exact K.out.below hb' | exact K.out.drew.below hb'); have F' : w'.cell? ⟨q, 0, none⟩ = some (.int .i64 (h : Int)) ∧ w'.cell? ⟨q, 1, none⟩ = some (.int .i64 (j : Int)) ∧ w'.cell? ⟨q, 2, none⟩ = some (.slice a h cap) ∧ w'.cell? ⟨p, 0, none⟩ = some (.string s) ∧ w'.cell? ⟨p, 1, none⟩ = some (.string t) := ⟨keepc hb' F0.1, keepc hb' F0.2.1, keepc hb' F0.2.2.1, keepc hb' F0.2.2.2.1, keepc hb' F0.2.2.2.2⟩; clear F0 K hb'; have K := K'; have F0 := F'; clear K' F'))
  go_wp2_with fail
  go_region_held3 (fun w => w.cell? ⟨q, 0, none⟩ = some (.int .i64 (h : Int)) ∧ w.cell? ⟨q, 1, none⟩ = some (.int .i64 (j : Int)) ∧ w.cell? ⟨q, 2, none⟩ = some (.slice a h cap) ∧ w.cell? ⟨p, 0, none⟩ = some (.string s) ∧ w.cell? ⟨p, 1, none⟩ = some (.string t)) (go_keep) (first | (go_at_call 23; refine (HLt.out _ _ (by first | exact K.out.t | exact K.out.drew.t)).mono ?_; rintro e w' ⟨rfl, hb'⟩; have L1' : Hid (Txs w' a5 h f1') := (by first | exact L1.out.below hb' | exact (txs_drew L1.out).below hb'); clear L1; have L1 := L1'; clear L1'; have K' : Hid (Bk W w' g a h P o h Q) := (by first | exact K.out.below hb' | exact K.out.drew.below hb'); have F' : w'.cell? ⟨q, 0, none⟩ = some (.int .i64 (h : Int)) ∧ w'.cell? ⟨q, 1, none⟩ = some (.int .i64 (j : Int)) ∧ w'.cell? ⟨q, 2, none⟩ = some (.slice a h cap) ∧ w'.cell? ⟨p, 0, none⟩ = some (.string s) ∧ w'.cell? ⟨p, 1, none⟩ = some (.string t) := ⟨keepc hb' F0.1, keepc hb' F0.2.1, keepc hb' F0.2.2.1, keepc hb' F0.2.2.2.1, keepc hb' F0.2.2.2.2⟩; clear F0 K hb'; have K := K'; have F0 := F'; clear K' F') | (go_at_call 19; refine (HE.out _ _ (by first | exact K.out.t | exact K.out.drew.t) (by first | exact K.out.y | exact K.out.drew.y)).mono ?_; rintro e w' ⟨a6, c6, rfl, hx6, hb'⟩; have L2 : Hid (Txs w' a6 h f2') := hx6; clear hx6; have L1' : Hid (Txs w' a5 h f1') := (by first | exact L1.out.below hb' | exact (txs_drew L1.out).below hb'); clear L1; have L1 := L1'; clear L1'; have K' : Hid (Bk W w' g a h P o h Q) := (by first | exact K.out.below hb' | exact K.out.drew.below hb'); have F' : w'.cell? ⟨q, 0, none⟩ = some (.int .i64 (h : Int)) ∧ w'.cell? ⟨q, 1, none⟩ = some (.int .i64 (j : Int)) ∧ w'.cell? ⟨q, 2, none⟩ = some (.slice a h cap) ∧ w'.cell? ⟨p, 0, none⟩ = some (.string s) ∧ w'.cell? ⟨p, 1, none⟩ = some (.string t) := ⟨keepc hb' F0.1, keepc hb' F0.2.1, keepc hb' F0.2.2.1, keepc hb' F0.2.2.2.1, keepc hb' F0.2.2.2.2⟩; clear F0 K hb'; have K := K'; have F0 := F'; clear K' F'))
  rename World => w7
  have F1 := F0
  obtain ⟨u0, u1, u2, u3, u4⟩ := F1
  by_cases hk0 : k = 0
  · have hz := HKZ.out
    have e1 : xk = ByteArray.mk #[0] ++ s := by rw [hz.x, hk0, hX0]
    have e2 : yk = ByteArray.mk #[0] ++ t := by rw [hz.y, hk0, hY0]
    subst e1
    subst e2
    clear hz
    go_wp2_with fail
    generalize ByteArray.mk #[0] ++ s = xk at *
    generalize ByteArray.mk #[0] ++ t = yk at *
    clear F0
    have HW7 : Hid (Bk W w7 g a h P o h Q ∧ Txs w7 a5 h f1' ∧ Txs w7 a6 h f2') := ⟨K.out, L1.out, L2.out⟩
    clear K L1 L2
    go_loopw [17, 18] (fun v u wr => ∃ (q0 : Nat) (bb : Bool), q0 ≤ h ∧ u = .int .i64 q0 ∧ v = .bool bb ∧ Hid (k ≤ q0 → bb = true) ∧ w7 = wr) (fun _ u _ => h - (intOf u).toNat)
    case atStart => exact ⟨0, _, Nat.zero_le _, rfl, rfl, (fun _ => rfl), rfl⟩
    case round =>
      obtain ⟨q0, bb, hq0, rfl, rfl, HN, rfl⟩ := hrel
      by_cases hlt : q0 < h
      · have r1 : (q0 : Int) < (h : Int) := by omega
        have r0 : (0 : Int) ≤ (q0 : Int) := by omega
        obtain ⟨b1, o1, rfl, _, d1⟩ := HW7.out.2.1.cells q0 hlt
        obtain ⟨b2, o2, rfl, _, d2⟩ := HW7.out.2.2.cells q0 hlt
        cases bb
        · by_cases hk1 : q0 + 1 = k
          · have hz := HKZ.out
            have e1 : f1' q0 = xk := by rw [hz.x, ← hk1]; exact (HX1.out q0).1
            have e2 : f2' q0 = yk := by rw [hz.y, ← hk1]; exact (HX1.out q0).2
            rw [e1] at d1
            rw [e2] at d2
            have HN2 : Hid (k ≤ q0 + 1 → true = true) := fun _ => rfl
            clear hz e1 e2 hk1
            go_wp2
            exact ⟨⟨q0 + 1, true, hlt, by simp, by first | rfl | simp, HN2, by first | rfl | trivial⟩, by simp [intOf]; omega⟩
          · have hno : ¬ k ≤ q0 + 1 := fun q => by
              have := HN.out (by omega)
              cases this
            have HN2' : ∀ b : Bool, Hid (k ≤ q0 + 1 → b = true) := fun b q => absurd q hno
            clear hno hk1
            generalize f1' q0 = u1 at d1
            generalize f2' q0 = u2 at d2
            cases hc1 : (u1.toList == xk.toList)
            · have HN2 := HN2' false
              go_wp2
              exact ⟨⟨q0 + 1, false, hlt, by simp, by first | rfl | simp, HN2, by first | rfl | trivial⟩, by simp [intOf]; omega⟩
            · cases hc2 : (u2.toList == yk.toList)
              · have HN2 := HN2' false
                go_wp2
                exact ⟨⟨q0 + 1, false, hlt, by simp, by first | rfl | simp, HN2, by first | rfl | trivial⟩, by simp [intOf]; omega⟩
              · have HN2 := HN2' true
                go_wp2
                exact ⟨⟨q0 + 1, true, hlt, by simp, by first | rfl | simp, HN2, by first | rfl | trivial⟩, by simp [intOf]; omega⟩
        · have HN2 : Hid (k ≤ q0 + 1 → true = true) := fun _ => rfl
          go_wp2
          exact ⟨⟨q0 + 1, true, hlt, by simp, by first | rfl | simp, HN2, by first | rfl | trivial⟩, by simp [intOf]; omega⟩
      · obtain rfl : q0 = h := by omega
        have r1 : ¬ (q0 : Int) < (q0 : Int) := by omega
        have hbb : bb = true := HN.out hkh
        subst hbb
        have hz := HKZ.out
        have hne := tl_ne hz.ne
        have HS1 : Hid (∀ gB cB gT cT gs cs w, RTab w gB gT gs cs → Calls Tryz.prog 24 #[.agg #[.slice (some ⟨gB, 0, none⟩) 256 cB, .slice (some ⟨gT, 0, none⟩) 8 cT], .string xk] w fun e w' => e = .returned (.string (smv xk)) ∧ Below w.heap.size w w') := fun gB cB gT cT gs cs w r => rsum_ok gB cB gT cT gs cs xk (by have := hz.sx; omega) w r
        have HS2 : Hid (∀ gB cB gT cT gs cs w, RTab w gB gT gs cs → Calls Tryz.prog 24 #[.agg #[.slice (some ⟨gB, 0, none⟩) 256 cB, .slice (some ⟨gT, 0, none⟩) 8 cT], .string yk] w fun e w' => e = .returned (.string (smv xk)) ∧ Below w.heap.size w w') := fun gB cB gT cT gs cs w r => by rw [hz.sum]; exact rsum_ok gB cB gT cT gs cs yk (by have := hz.sy; omega) w r
        clear hz HKZ HX1
        generalize smv xk = sg at *
        go_wp2_with fail
        refine (rmake_any _).mono ?_
        rintro e w8 ⟨gB, cB, gT, cT, gs, cs, rfl, hr8, hb8⟩
        have PK : Pk W (w8.alloc (Obj.cells #[.slice (some ⟨gB, 0, none⟩) 256 cB, .slice (some ⟨gT, 0, none⟩) 8 cT] 39)) gB cB gT cT gs cs w8.heap.size := by
          have d8 := HW7.out.1.d.trans (hb8.mono HW7.out.1.d.size)
          exact ⟨hr8.below (below_laid _ _), by simp [go_sem], by simp [go_sem], d8.alloc d8.size _⟩
        have F9 := PK.facts
        clear hr8 hb8 HW7
        go_wp2_with fail
        generalize w8.alloc (Obj.cells #[.slice (some ⟨gB, 0, none⟩) 256 cB, .slice (some ⟨gT, 0, none⟩) 8 cT] 39) = w10 at *
        generalize w8.heap.size = z at *
        go_region_held3 (fun w => w.cell? ⟨z, 0, none⟩ = some (.slice (some ⟨gB, 0, none⟩) 256 cB) ∧ w.cell? ⟨z, 1, none⟩ = some (.slice (some ⟨gT, 0, none⟩) 8 cT)) (go_keep) (first | (go_at_call_of 24 (#[.agg #[.slice (some ⟨gB, 0, none⟩) 256 cB, .slice (some ⟨gT, 0, none⟩) 8 cT], .string xk] : Array Value); refine (HS1.out _ _ _ _ _ _ _ (by first | exact PK.t | exact PK.drew.t)).mono ?_; rintro e w' ⟨rfl, hb'⟩; have PK' := Pk.below (w' := w') (by first | exact PK | exact PK.drew) hb'; clear F9 PK hb'; have PK := PK'; clear PK'; have F9 := PK.facts) | (go_at_call_of 24 (#[.agg #[.slice (some ⟨gB, 0, none⟩) 256 cB, .slice (some ⟨gT, 0, none⟩) 8 cT], .string yk] : Array Value); refine (HS2.out _ _ _ _ _ _ _ (by first | exact PK.t | exact PK.drew.t)).mono ?_; rintro e w' ⟨rfl, hb'⟩; have PK' := Pk.below (w' := w') (by first | exact PK | exact PK.drew) hb'; clear F9 PK hb'; have PK := PK'; clear PK'; have F9 := PK.facts))
        go_wp2
        go_ret
        exact ⟨rfl, by first | exact PK.d | (rw [← hq]; exact PK.d)⟩
  · cases hbx : ((ByteArray.mk #[0] ++ s).toList == xk.toList)
    · go_wp2_with fail
      clear F0
      have HW7 : Hid (Bk W w7 g a h P o h Q ∧ Txs w7 a5 h f1' ∧ Txs w7 a6 h f2') := ⟨K.out, L1.out, L2.out⟩
      clear K L1 L2
      go_loopw [17, 18] (fun v u wr => ∃ (q0 : Nat) (bb : Bool), q0 ≤ h ∧ u = .int .i64 q0 ∧ v = .bool bb ∧ Hid (k ≤ q0 → bb = true) ∧ w7 = wr) (fun _ u _ => h - (intOf u).toNat)
      case atStart => exact ⟨0, _, Nat.zero_le _, rfl, rfl, (fun q => absurd q (by omega)), rfl⟩
      case round =>
        obtain ⟨q0, bb, hq0, rfl, rfl, HN, rfl⟩ := hrel
        by_cases hlt : q0 < h
        · have r1 : (q0 : Int) < (h : Int) := by omega
          have r0 : (0 : Int) ≤ (q0 : Int) := by omega
          obtain ⟨b1, o1, rfl, _, d1⟩ := HW7.out.2.1.cells q0 hlt
          obtain ⟨b2, o2, rfl, _, d2⟩ := HW7.out.2.2.cells q0 hlt
          cases bb
          · by_cases hk1 : q0 + 1 = k
            · have hz := HKZ.out
              have e1 : f1' q0 = xk := by rw [hz.x, ← hk1]; exact (HX1.out q0).1
              have e2 : f2' q0 = yk := by rw [hz.y, ← hk1]; exact (HX1.out q0).2
              rw [e1] at d1
              rw [e2] at d2
              have HN2 : Hid (k ≤ q0 + 1 → true = true) := fun _ => rfl
              clear hz e1 e2 hk1
              go_wp2
              exact ⟨⟨q0 + 1, true, hlt, by simp, by first | rfl | simp, HN2, by first | rfl | trivial⟩, by simp [intOf]; omega⟩
            · have hno : ¬ k ≤ q0 + 1 := fun q => by
                have := HN.out (by omega)
                cases this
              have HN2' : ∀ b : Bool, Hid (k ≤ q0 + 1 → b = true) := fun b q => absurd q hno
              clear hno hk1
              generalize f1' q0 = u1 at d1
              generalize f2' q0 = u2 at d2
              cases hc1 : (u1.toList == xk.toList)
              · have HN2 := HN2' false
                go_wp2
                exact ⟨⟨q0 + 1, false, hlt, by simp, by first | rfl | simp, HN2, by first | rfl | trivial⟩, by simp [intOf]; omega⟩
              · cases hc2 : (u2.toList == yk.toList)
                · have HN2 := HN2' false
                  go_wp2
                  exact ⟨⟨q0 + 1, false, hlt, by simp, by first | rfl | simp, HN2, by first | rfl | trivial⟩, by simp [intOf]; omega⟩
                · have HN2 := HN2' true
                  go_wp2
                  exact ⟨⟨q0 + 1, true, hlt, by simp, by first | rfl | simp, HN2, by first | rfl | trivial⟩, by simp [intOf]; omega⟩
          · have HN2 : Hid (k ≤ q0 + 1 → true = true) := fun _ => rfl
            go_wp2
            exact ⟨⟨q0 + 1, true, hlt, by simp, by first | rfl | simp, HN2, by first | rfl | trivial⟩, by simp [intOf]; omega⟩
        · obtain rfl : q0 = h := by omega
          have r1 : ¬ (q0 : Int) < (q0 : Int) := by omega
          have hbb : bb = true := HN.out hkh
          subst hbb
          have hz := HKZ.out
          have hne := tl_ne hz.ne
          have HS1 : Hid (∀ gB cB gT cT gs cs w, RTab w gB gT gs cs → Calls Tryz.prog 24 #[.agg #[.slice (some ⟨gB, 0, none⟩) 256 cB, .slice (some ⟨gT, 0, none⟩) 8 cT], .string xk] w fun e w' => e = .returned (.string (smv xk)) ∧ Below w.heap.size w w') := fun gB cB gT cT gs cs w r => rsum_ok gB cB gT cT gs cs xk (by have := hz.sx; omega) w r
          have HS2 : Hid (∀ gB cB gT cT gs cs w, RTab w gB gT gs cs → Calls Tryz.prog 24 #[.agg #[.slice (some ⟨gB, 0, none⟩) 256 cB, .slice (some ⟨gT, 0, none⟩) 8 cT], .string yk] w fun e w' => e = .returned (.string (smv xk)) ∧ Below w.heap.size w w') := fun gB cB gT cT gs cs w r => by rw [hz.sum]; exact rsum_ok gB cB gT cT gs cs yk (by have := hz.sy; omega) w r
          clear hz HKZ HX1
          generalize smv xk = sg at *
          go_wp2_with fail
          refine (rmake_any _).mono ?_
          rintro e w8 ⟨gB, cB, gT, cT, gs, cs, rfl, hr8, hb8⟩
          have PK : Pk W (w8.alloc (Obj.cells #[.slice (some ⟨gB, 0, none⟩) 256 cB, .slice (some ⟨gT, 0, none⟩) 8 cT] 39)) gB cB gT cT gs cs w8.heap.size := by
            have d8 := HW7.out.1.d.trans (hb8.mono HW7.out.1.d.size)
            exact ⟨hr8.below (below_laid _ _), by simp [go_sem], by simp [go_sem], d8.alloc d8.size _⟩
          have F9 := PK.facts
          clear hr8 hb8 HW7
          go_wp2_with fail
          generalize w8.alloc (Obj.cells #[.slice (some ⟨gB, 0, none⟩) 256 cB, .slice (some ⟨gT, 0, none⟩) 8 cT] 39) = w10 at *
          generalize w8.heap.size = z at *
          go_region_held3 (fun w => w.cell? ⟨z, 0, none⟩ = some (.slice (some ⟨gB, 0, none⟩) 256 cB) ∧ w.cell? ⟨z, 1, none⟩ = some (.slice (some ⟨gT, 0, none⟩) 8 cT)) (go_keep) (first | (go_at_call_of 24 (#[.agg #[.slice (some ⟨gB, 0, none⟩) 256 cB, .slice (some ⟨gT, 0, none⟩) 8 cT], .string xk] : Array Value); refine (HS1.out _ _ _ _ _ _ _ (by first | exact PK.t | exact PK.drew.t)).mono ?_; rintro e w' ⟨rfl, hb'⟩; have PK' := Pk.below (w' := w') (by first | exact PK | exact PK.drew) hb'; clear F9 PK hb'; have PK := PK'; clear PK'; have F9 := PK.facts) | (go_at_call_of 24 (#[.agg #[.slice (some ⟨gB, 0, none⟩) 256 cB, .slice (some ⟨gT, 0, none⟩) 8 cT], .string yk] : Array Value); refine (HS2.out _ _ _ _ _ _ _ (by first | exact PK.t | exact PK.drew.t)).mono ?_; rintro e w' ⟨rfl, hb'⟩; have PK' := Pk.below (w' := w') (by first | exact PK | exact PK.drew) hb'; clear F9 PK hb'; have PK := PK'; clear PK'; have F9 := PK.facts))
          go_wp2
          go_ret
          exact ⟨rfl, by first | exact PK.d | (rw [← hq]; exact PK.d)⟩
    · cases hby : ((ByteArray.mk #[0] ++ t).toList == yk.toList)
      · go_wp2_with fail
        clear F0
        have HW7 : Hid (Bk W w7 g a h P o h Q ∧ Txs w7 a5 h f1' ∧ Txs w7 a6 h f2') := ⟨K.out, L1.out, L2.out⟩
        clear K L1 L2
        go_loopw [17, 18] (fun v u wr => ∃ (q0 : Nat) (bb : Bool), q0 ≤ h ∧ u = .int .i64 q0 ∧ v = .bool bb ∧ Hid (k ≤ q0 → bb = true) ∧ w7 = wr) (fun _ u _ => h - (intOf u).toNat)
        case atStart => exact ⟨0, _, Nat.zero_le _, rfl, rfl, (fun q => absurd q (by omega)), rfl⟩
        case round =>
          obtain ⟨q0, bb, hq0, rfl, rfl, HN, rfl⟩ := hrel
          by_cases hlt : q0 < h
          · have r1 : (q0 : Int) < (h : Int) := by omega
            have r0 : (0 : Int) ≤ (q0 : Int) := by omega
            obtain ⟨b1, o1, rfl, _, d1⟩ := HW7.out.2.1.cells q0 hlt
            obtain ⟨b2, o2, rfl, _, d2⟩ := HW7.out.2.2.cells q0 hlt
            cases bb
            · by_cases hk1 : q0 + 1 = k
              · have hz := HKZ.out
                have e1 : f1' q0 = xk := by rw [hz.x, ← hk1]; exact (HX1.out q0).1
                have e2 : f2' q0 = yk := by rw [hz.y, ← hk1]; exact (HX1.out q0).2
                rw [e1] at d1
                rw [e2] at d2
                have HN2 : Hid (k ≤ q0 + 1 → true = true) := fun _ => rfl
                clear hz e1 e2 hk1
                go_wp2
                exact ⟨⟨q0 + 1, true, hlt, by simp, by first | rfl | simp, HN2, by first | rfl | trivial⟩, by simp [intOf]; omega⟩
              · have hno : ¬ k ≤ q0 + 1 := fun q => by
                  have := HN.out (by omega)
                  cases this
                have HN2' : ∀ b : Bool, Hid (k ≤ q0 + 1 → b = true) := fun b q => absurd q hno
                clear hno hk1
                generalize f1' q0 = u1 at d1
                generalize f2' q0 = u2 at d2
                cases hc1 : (u1.toList == xk.toList)
                · have HN2 := HN2' false
                  go_wp2
                  exact ⟨⟨q0 + 1, false, hlt, by simp, by first | rfl | simp, HN2, by first | rfl | trivial⟩, by simp [intOf]; omega⟩
                · cases hc2 : (u2.toList == yk.toList)
                  · have HN2 := HN2' false
                    go_wp2
                    exact ⟨⟨q0 + 1, false, hlt, by simp, by first | rfl | simp, HN2, by first | rfl | trivial⟩, by simp [intOf]; omega⟩
                  · have HN2 := HN2' true
                    go_wp2
                    exact ⟨⟨q0 + 1, true, hlt, by simp, by first | rfl | simp, HN2, by first | rfl | trivial⟩, by simp [intOf]; omega⟩
            · have HN2 : Hid (k ≤ q0 + 1 → true = true) := fun _ => rfl
              go_wp2
              exact ⟨⟨q0 + 1, true, hlt, by simp, by first | rfl | simp, HN2, by first | rfl | trivial⟩, by simp [intOf]; omega⟩
          · obtain rfl : q0 = h := by omega
            have r1 : ¬ (q0 : Int) < (q0 : Int) := by omega
            have hbb : bb = true := HN.out hkh
            subst hbb
            have hz := HKZ.out
            have hne := tl_ne hz.ne
            have HS1 : Hid (∀ gB cB gT cT gs cs w, RTab w gB gT gs cs → Calls Tryz.prog 24 #[.agg #[.slice (some ⟨gB, 0, none⟩) 256 cB, .slice (some ⟨gT, 0, none⟩) 8 cT], .string xk] w fun e w' => e = .returned (.string (smv xk)) ∧ Below w.heap.size w w') := fun gB cB gT cT gs cs w r => rsum_ok gB cB gT cT gs cs xk (by have := hz.sx; omega) w r
            have HS2 : Hid (∀ gB cB gT cT gs cs w, RTab w gB gT gs cs → Calls Tryz.prog 24 #[.agg #[.slice (some ⟨gB, 0, none⟩) 256 cB, .slice (some ⟨gT, 0, none⟩) 8 cT], .string yk] w fun e w' => e = .returned (.string (smv xk)) ∧ Below w.heap.size w w') := fun gB cB gT cT gs cs w r => by rw [hz.sum]; exact rsum_ok gB cB gT cT gs cs yk (by have := hz.sy; omega) w r
            clear hz HKZ HX1
            generalize smv xk = sg at *
            go_wp2_with fail
            refine (rmake_any _).mono ?_
            rintro e w8 ⟨gB, cB, gT, cT, gs, cs, rfl, hr8, hb8⟩
            have PK : Pk W (w8.alloc (Obj.cells #[.slice (some ⟨gB, 0, none⟩) 256 cB, .slice (some ⟨gT, 0, none⟩) 8 cT] 39)) gB cB gT cT gs cs w8.heap.size := by
              have d8 := HW7.out.1.d.trans (hb8.mono HW7.out.1.d.size)
              exact ⟨hr8.below (below_laid _ _), by simp [go_sem], by simp [go_sem], d8.alloc d8.size _⟩
            have F9 := PK.facts
            clear hr8 hb8 HW7
            go_wp2_with fail
            generalize w8.alloc (Obj.cells #[.slice (some ⟨gB, 0, none⟩) 256 cB, .slice (some ⟨gT, 0, none⟩) 8 cT] 39) = w10 at *
            generalize w8.heap.size = z at *
            go_region_held3 (fun w => w.cell? ⟨z, 0, none⟩ = some (.slice (some ⟨gB, 0, none⟩) 256 cB) ∧ w.cell? ⟨z, 1, none⟩ = some (.slice (some ⟨gT, 0, none⟩) 8 cT)) (go_keep) (first | (go_at_call_of 24 (#[.agg #[.slice (some ⟨gB, 0, none⟩) 256 cB, .slice (some ⟨gT, 0, none⟩) 8 cT], .string xk] : Array Value); refine (HS1.out _ _ _ _ _ _ _ (by first | exact PK.t | exact PK.drew.t)).mono ?_; rintro e w' ⟨rfl, hb'⟩; have PK' := Pk.below (w' := w') (by first | exact PK | exact PK.drew) hb'; clear F9 PK hb'; have PK := PK'; clear PK'; have F9 := PK.facts) | (go_at_call_of 24 (#[.agg #[.slice (some ⟨gB, 0, none⟩) 256 cB, .slice (some ⟨gT, 0, none⟩) 8 cT], .string yk] : Array Value); refine (HS2.out _ _ _ _ _ _ _ (by first | exact PK.t | exact PK.drew.t)).mono ?_; rintro e w' ⟨rfl, hb'⟩; have PK' := Pk.below (w' := w') (by first | exact PK | exact PK.drew) hb'; clear F9 PK hb'; have PK := PK'; clear PK'; have F9 := PK.facts))
            go_wp2
            go_ret
            exact ⟨rfl, by first | exact PK.d | (rw [← hq]; exact PK.d)⟩
      · go_wp2_with fail
        clear F0
        have HW7 : Hid (Bk W w7 g a h P o h Q ∧ Txs w7 a5 h f1' ∧ Txs w7 a6 h f2') := ⟨K.out, L1.out, L2.out⟩
        clear K L1 L2
        go_loopw [17, 18] (fun v u wr => ∃ (q0 : Nat) (bb : Bool), q0 ≤ h ∧ u = .int .i64 q0 ∧ v = .bool bb ∧ Hid (k ≤ q0 → bb = true) ∧ w7 = wr) (fun _ u _ => h - (intOf u).toNat)
        case atStart => exact ⟨0, _, Nat.zero_le _, rfl, rfl, (fun q => absurd q (by omega)), rfl⟩
        case round =>
          obtain ⟨q0, bb, hq0, rfl, rfl, HN, rfl⟩ := hrel
          by_cases hlt : q0 < h
          · have r1 : (q0 : Int) < (h : Int) := by omega
            have r0 : (0 : Int) ≤ (q0 : Int) := by omega
            obtain ⟨b1, o1, rfl, _, d1⟩ := HW7.out.2.1.cells q0 hlt
            obtain ⟨b2, o2, rfl, _, d2⟩ := HW7.out.2.2.cells q0 hlt
            cases bb
            · by_cases hk1 : q0 + 1 = k
              · have hz := HKZ.out
                have e1 : f1' q0 = xk := by rw [hz.x, ← hk1]; exact (HX1.out q0).1
                have e2 : f2' q0 = yk := by rw [hz.y, ← hk1]; exact (HX1.out q0).2
                rw [e1] at d1
                rw [e2] at d2
                have HN2 : Hid (k ≤ q0 + 1 → true = true) := fun _ => rfl
                clear hz e1 e2 hk1
                go_wp2
                exact ⟨⟨q0 + 1, true, hlt, by simp, by first | rfl | simp, HN2, by first | rfl | trivial⟩, by simp [intOf]; omega⟩
              · have hno : ¬ k ≤ q0 + 1 := fun q => by
                  have := HN.out (by omega)
                  cases this
                have HN2' : ∀ b : Bool, Hid (k ≤ q0 + 1 → b = true) := fun b q => absurd q hno
                clear hno hk1
                generalize f1' q0 = u1 at d1
                generalize f2' q0 = u2 at d2
                cases hc1 : (u1.toList == xk.toList)
                · have HN2 := HN2' false
                  go_wp2
                  exact ⟨⟨q0 + 1, false, hlt, by simp, by first | rfl | simp, HN2, by first | rfl | trivial⟩, by simp [intOf]; omega⟩
                · cases hc2 : (u2.toList == yk.toList)
                  · have HN2 := HN2' false
                    go_wp2
                    exact ⟨⟨q0 + 1, false, hlt, by simp, by first | rfl | simp, HN2, by first | rfl | trivial⟩, by simp [intOf]; omega⟩
                  · have HN2 := HN2' true
                    go_wp2
                    exact ⟨⟨q0 + 1, true, hlt, by simp, by first | rfl | simp, HN2, by first | rfl | trivial⟩, by simp [intOf]; omega⟩
            · have HN2 : Hid (k ≤ q0 + 1 → true = true) := fun _ => rfl
              go_wp2
              exact ⟨⟨q0 + 1, true, hlt, by simp, by first | rfl | simp, HN2, by first | rfl | trivial⟩, by simp [intOf]; omega⟩
          · obtain rfl : q0 = h := by omega
            have r1 : ¬ (q0 : Int) < (q0 : Int) := by omega
            have hbb : bb = true := HN.out hkh
            subst hbb
            have hz := HKZ.out
            have hne := tl_ne hz.ne
            have HS1 : Hid (∀ gB cB gT cT gs cs w, RTab w gB gT gs cs → Calls Tryz.prog 24 #[.agg #[.slice (some ⟨gB, 0, none⟩) 256 cB, .slice (some ⟨gT, 0, none⟩) 8 cT], .string xk] w fun e w' => e = .returned (.string (smv xk)) ∧ Below w.heap.size w w') := fun gB cB gT cT gs cs w r => rsum_ok gB cB gT cT gs cs xk (by have := hz.sx; omega) w r
            have HS2 : Hid (∀ gB cB gT cT gs cs w, RTab w gB gT gs cs → Calls Tryz.prog 24 #[.agg #[.slice (some ⟨gB, 0, none⟩) 256 cB, .slice (some ⟨gT, 0, none⟩) 8 cT], .string yk] w fun e w' => e = .returned (.string (smv xk)) ∧ Below w.heap.size w w') := fun gB cB gT cT gs cs w r => by rw [hz.sum]; exact rsum_ok gB cB gT cT gs cs yk (by have := hz.sy; omega) w r
            clear hz HKZ HX1
            generalize smv xk = sg at *
            go_wp2_with fail
            refine (rmake_any _).mono ?_
            rintro e w8 ⟨gB, cB, gT, cT, gs, cs, rfl, hr8, hb8⟩
            have PK : Pk W (w8.alloc (Obj.cells #[.slice (some ⟨gB, 0, none⟩) 256 cB, .slice (some ⟨gT, 0, none⟩) 8 cT] 39)) gB cB gT cT gs cs w8.heap.size := by
              have d8 := HW7.out.1.d.trans (hb8.mono HW7.out.1.d.size)
              exact ⟨hr8.below (below_laid _ _), by simp [go_sem], by simp [go_sem], d8.alloc d8.size _⟩
            have F9 := PK.facts
            clear hr8 hb8 HW7
            go_wp2_with fail
            generalize w8.alloc (Obj.cells #[.slice (some ⟨gB, 0, none⟩) 256 cB, .slice (some ⟨gT, 0, none⟩) 8 cT] 39) = w10 at *
            generalize w8.heap.size = z at *
            go_region_held3 (fun w => w.cell? ⟨z, 0, none⟩ = some (.slice (some ⟨gB, 0, none⟩) 256 cB) ∧ w.cell? ⟨z, 1, none⟩ = some (.slice (some ⟨gT, 0, none⟩) 8 cT)) (go_keep) (first | (go_at_call_of 24 (#[.agg #[.slice (some ⟨gB, 0, none⟩) 256 cB, .slice (some ⟨gT, 0, none⟩) 8 cT], .string xk] : Array Value); refine (HS1.out _ _ _ _ _ _ _ (by first | exact PK.t | exact PK.drew.t)).mono ?_; rintro e w' ⟨rfl, hb'⟩; have PK' := Pk.below (w' := w') (by first | exact PK | exact PK.drew) hb'; clear F9 PK hb'; have PK := PK'; clear PK'; have F9 := PK.facts) | (go_at_call_of 24 (#[.agg #[.slice (some ⟨gB, 0, none⟩) 256 cB, .slice (some ⟨gT, 0, none⟩) 8 cT], .string yk] : Array Value); refine (HS2.out _ _ _ _ _ _ _ (by first | exact PK.t | exact PK.drew.t)).mono ?_; rintro e w' ⟨rfl, hb'⟩; have PK' := Pk.below (w' := w') (by first | exact PK | exact PK.drew) hb'; clear F9 PK hb'; have PK := PK'; clear PK'; have F9 := PK.facts))
            go_wp2
            go_ret
            exact ⟨rfl, by first | exact PK.d | (rw [← hq]; exact PK.d)⟩
end Go.Proofs.YtfepgoddoohpbaaGreat
