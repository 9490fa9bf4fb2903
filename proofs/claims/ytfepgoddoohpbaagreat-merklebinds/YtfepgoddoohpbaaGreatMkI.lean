/- What merkle's Climb answers where it can't climb; the contract of merkle's Twin; over the seat's translation. -/
import Derived.Test.YtfepgoddoohpbaaGreatMkH
namespace Go.Proofs.YtfepgoddoohpbaaGreat
open Go.RowKit

/-- Which error Climb has. -/
def cerr (h i : Int) (leaf : ByteArray) (n : Nat) (P : Nat → ByteArray) : Nat :=
  if h < 0 ∨ 12 < h ∨ i < 0 ∨ ((2 ^ h.toNat : Nat) : Int) ≤ i then 1 else if (n : Int) ≠ h ∨ leaf.size ≠ 32 ∨ digB n P = false then 6 else 0
theorem cerr_ok {h i : Int} {leaf : ByteArray} {n : Nat} {P : Nat → ByteArray} (e : cerr h i leaf n P = 0) : ∃ j : Nat, h = (n : Int) ∧ i = (j : Int) ∧ n ≤ 12 ∧ j < 2 ^ n ∧ leaf.size = 32 ∧ (∀ k, k < n → (P k).size = 32) := by
  unfold cerr at e
  by_cases h1 : h < 0 ∨ 12 < h ∨ i < 0 ∨ ((2 ^ h.toNat : Nat) : Int) ≤ i
  · rw [if_pos h1] at e; cases e
  · rw [if_neg h1] at e
    by_cases h2 : (n : Int) ≠ h ∨ leaf.size ≠ 32 ∨ digB n P = false
    · rw [if_pos h2] at e; cases e
    · have hn : h = (n : Int) := by
        by_cases q : (n : Int) = h
        · exact q.symm
        · exact absurd (Or.inl q) h2
      have hl : leaf.size = 32 := by
        by_cases q : leaf.size = 32
        · exact q
        · exact absurd (Or.inr (Or.inl q)) h2
      have hd : digB n P = true := by
        cases q : digB n P
        · exact absurd (Or.inr (Or.inr q)) h2
        · rfl
      subst hn
      rw [Int.toNat_natCast] at h1
      refine ⟨i.toNat, rfl, by omega, by omega, ?_, hl, fun k hk => digB_at hd hk⟩
      have : ¬ ((2 ^ n : Nat) : Int) ≤ i := fun q => h1 (Or.inr (Or.inr (Or.inr q)))
      generalize 2 ^ n = H at *
      omega
set_option maxHeartbeats 2000000 in
set_option maxRecDepth 100000 in
theorem climb_arg (g : Nat) (v : Value) (h i : Int) (leaf : ByteArray) (hc : h < 0 ∨ 12 < h ∨ i < 0 ∨ ((2 ^ h.toNat : Nat) : Int) ≤ i) : Same 19 #[.pointer (some ⟨g, 0, none⟩), .int .i64 h, .int .i64 i, .string leaf, v] (.tuple #[.string (ByteArray.mk #[]), .slice none 0 0, .int .i64 1]) := by
  intro W
  by_cases h1 : h < 0
  · clear hc
    go_enter Tryz.func19, Tryz.ntmps19
    go_wp2
    go_step3
    go_wp2
    rw [Exit.noGoto_ret]
    go_ret3
    exact ⟨rfl, rfl⟩
  by_cases h2 : 12 < h
  · clear hc
    go_enter Tryz.func19, Tryz.ntmps19
    go_wp2
    go_step3
    go_wp2
    rw [Exit.noGoto_ret]
    go_ret3
    exact ⟨rfl, rfl⟩
  by_cases h3 : i < 0
  · clear hc
    go_enter Tryz.func19, Tryz.ntmps19
    go_wp2
    go_step3
    go_wp2
    rw [Exit.noGoto_ret]
    go_ret3
    exact ⟨rfl, rfl⟩
  · have h4 : ((2 ^ h.toNat : Nat) : Int) ≤ i := by
      rcases hc with q | q | q | q
      · exact absurd q h1
      · exact absurd q h2
      · exact absurd q h3
      · exact q
    obtain ⟨k, rfl⟩ : ∃ k : Nat, h = (k : Int) := ⟨h.toNat, by omega⟩
    rw [Int.toNat_natCast] at h4
    have hpl : 2 ^ k ≤ 4096 := Nat.pow_le_pow_right (n := 2) (by decide) (show k ≤ 12 by omega)
    have hsh2 : (2 : Int) ^ k = ((2 ^ k : Nat) : Int) := by rw [Int.natCast_pow]; rfl
    have hsh : (1 : Int) * 2 ^ k = ((2 ^ k : Nat) : Int) := by rw [Int.one_mul]; exact hsh2
    generalize 2 ^ k = H at *
    have hw : IntKind.i64.wrap (H : Int) = (H : Int) := by rw [IntKind.wrap_i64]; omega
    clear hc
    go_enter Tryz.func19, Tryz.ntmps19
    go_wp2
    go_step3
    go_wp2
    rw [Exit.noGoto_ret]
    go_ret3
    exact ⟨rfl, rfl⟩
set_option maxHeartbeats 2000000 in
set_option maxRecDepth 100000 in
theorem climb_size (g : Nat) (a : Option Addr) (n cap k j : Nat) (leaf : ByteArray) (P : Nat → ByteArray) (hk : k ≤ 12) (hj : j < 2 ^ k) (hn : n ≤ 1000000) (hc : n ≠ k ∨ leaf.size ≠ 32 ∨ digB n P = false) (W : World) (hX : Txs W a n P) :
    Calls Tryz.prog 19 #[.pointer (some ⟨g, 0, none⟩), .int .i64 (k : Int), .int .i64 (j : Int), .string leaf, .slice a n cap] W fun e w' => e = .returned (.tuple #[.string (ByteArray.mk #[]), .slice none 0 0, .int .i64 6]) ∧ Below W.heap.size W w' := by
  have hpl : 2 ^ k ≤ 4096 := Nat.pow_le_pow_right (n := 2) (by decide) hk
  have hsh2 : (2 : Int) ^ k = ((2 ^ k : Nat) : Int) := by rw [Int.natCast_pow]; rfl
  have hsh : (1 : Int) * 2 ^ k = ((2 ^ k : Nat) : Int) := by rw [Int.one_mul]; exact hsh2
  generalize 2 ^ k = H at *
  have hw : IntKind.i64.wrap (H : Int) = (H : Int) := by rw [IntKind.wrap_i64]; omega
  have i1 : ¬ (H : Int) ≤ (j : Int) := by omega
  have i2 : ¬ (j : Int) < 0 := by omega
  have i3 : ¬ (k : Int) < 0 := by omega
  have i4 : ¬ (12 : Int) < (k : Int) := by omega
  have HX : Hid (Txs W a n P) := hX
  clear hX
  by_cases h1 : n = k
  · subst h1
    have HD1 : Hid (∀ b w, w.cell? ⟨b, 0, none⟩ = some (.string leaf) → Calls Tryz.prog 38 #[.slice (some ⟨b, 0, none⟩) 1 1] w fun e w' => e = .returned (.bool (decide (leaf.size = 32))) ∧ w' = w) := fun b w hc => digests_one b leaf w hc
    by_cases h2 : leaf.size = 32
    · have hd : digB n P = false := by
        rcases hc with q | q | q
        · exact absurd rfl q
        · exact absurd h2 q
        · exact q
      have HD2 : Hid (∀ w, Txs w a n P → Calls Tryz.prog 38 #[.slice a n cap] w fun e w' => e = .returned (.bool false) ∧ w' = w) := fun w hx => by
        have := digests_any a n cap P hn w hx
        rw [hd] at this
        exact this
      rw [decide_eq_true h2] at HD1
      clear hc hd h2
      go_enter Tryz.func19, Tryz.ntmps19
      go_wp2
      go_step3
      go_wp2_with (first | (go_at_call_of 38 (some (⟨W.heap.size, 0, none⟩ : Addr)); refine (HD1.out _ _ (by simp [go_sem])).mono ?_; rintro e w9 ⟨rfl, hw9⟩; obtain rfl := hw9.symm; clear hw9) | (go_at_call 38; refine (HD2.out _ (HX.out.below (below_laid _ _))).mono ?_; rintro e w9 ⟨rfl, hw9⟩; obtain rfl := hw9.symm; clear hw9))
      rw [Exit.noGoto_ret]
      go_ret3
      exact ⟨rfl, below_laid _ _⟩
    · rw [decide_eq_false h2] at HD1
      clear hc h2
      go_enter Tryz.func19, Tryz.ntmps19
      go_wp2
      go_step3
      go_wp2_with (go_at_call 38; refine (HD1.out _ _ (by simp [go_sem])).mono ?_; rintro e w9 ⟨rfl, hw9⟩; obtain rfl := hw9.symm; clear hw9)
      rw [Exit.noGoto_ret]
      go_ret3
      exact ⟨rfl, below_laid _ _⟩
  · have e1 : ¬ (n : Int) = (k : Int) := by omega
    have e2 : ((n : Int) == (k : Int)) = false := by simp; omega
    clear hc h1
    go_enter Tryz.func19, Tryz.ntmps19
    go_wp2
    go_step3
    go_wp2
    rw [Exit.noGoto_ret]
    go_ret3
    exact ⟨rfl, Below.refl _ _⟩
/-- Where Climb has an error. -/
theorem climb_bad (g : Nat) (a : Option Addr) (n cap : Nat) (h i : Int) (leaf : ByteArray) (P : Nat → ByteArray) (hn : n ≤ 1000000) (hc : cerr h i leaf n P ≠ 0) (W : World) (hX : Txs W a n P) :
    Calls Tryz.prog 19 #[.pointer (some ⟨g, 0, none⟩), .int .i64 h, .int .i64 i, .string leaf, .slice a n cap] W fun e w' => e = .returned (.tuple #[.string (ByteArray.mk #[]), .slice none 0 0, .int .i64 ((cerr h i leaf n P : Nat) : Int)]) ∧ Below W.heap.size W w' := by
  by_cases h1 : h < 0 ∨ 12 < h ∨ i < 0 ∨ ((2 ^ h.toNat : Nat) : Int) ≤ i
  · have e : cerr h i leaf n P = 1 := by unfold cerr; rw [if_pos h1]
    rw [e]
    refine (climb_arg g _ h i leaf h1 W).mono ?_
    rintro e w' ⟨rfl, rfl⟩
    exact ⟨rfl, Below.refl _ _⟩
  · by_cases h2 : (n : Int) ≠ h ∨ leaf.size ≠ 32 ∨ digB n P = false
    · have e : cerr h i leaf n P = 6 := by unfold cerr; rw [if_neg h1, if_pos h2]
      rw [e]
      obtain ⟨k, rfl⟩ : ∃ k : Nat, h = (k : Int) := ⟨h.toNat, by omega⟩
      obtain ⟨j, rfl⟩ : ∃ j : Nat, i = (j : Int) := ⟨i.toNat, by omega⟩
      rw [Int.toNat_natCast] at h1
      have hj : j < 2 ^ k := by
        have : ¬ ((2 ^ k : Nat) : Int) ≤ (j : Int) := fun q => h1 (Or.inr (Or.inr (Or.inr q)))
        generalize 2 ^ k = H at *
        omega
      refine climb_size g a n cap k j leaf P (by omega) hj hn ?_ W hX
      rcases h2 with q | q | q
      · exact .inl (by omega)
      · exact .inr (.inl q)
      · exact .inr (.inr q)
    · exact absurd (show cerr h i leaf n P = 0 by unfold cerr; rw [if_neg h1, if_neg h2]) hc
theorem tl_ne {u v : ByteArray} (h : u ≠ v) : (u.toList == v.toList) = false := by
  rw [beq_eq_false_iff_ne]
  intro e
  rw [ByteArray.toList_eq, ByteArray.toList_eq] at e
  apply h
  cases u
  cases v
  congr 1
  exact Array.ext' e
theorem tl_eq {u v : ByteArray} (h : u = v) : (u.toList == v.toList) = true := by rw [h]; simp
/-- The texts that are summed on a way, from the leaf's on. -/
def twx (i : Nat) (P : Nat → ByteArray) (a : ByteArray) : Nat → ByteArray
  | 0 => ByteArray.mk #[0] ++ a
  | k + 1 => clt i P (lfv a) k
theorem twx_sum (i : Nat) (P : Nat → ByteArray) (a : ByteArray) : ∀ k, smv (twx i P a k) = clv i P (lfv a) k
  | 0 => rfl
  | _ + 1 => rfl
theorem twx_size {i : Nat} {P : Nat → ByteArray} {a : ByteArray} {h : Nat} (ha : a.size ≤ 1000) (hp : ∀ k, k < h → (P k).size = 32) : ∀ k, k ≤ h → (twx i P a k).size ≤ 1001
  | 0, _ => by show (ByteArray.mk #[0] ++ a).size ≤ 1001; rw [ByteArray.size_append]; show 1 + a.size ≤ 1001; omega
  | k + 1, hk => by
    have : (ctx i k (clv i P (lfv a) k) (P k)).size = 65 := ctx_size (clv_size (lfv_size a) k) (hp k (by omega))
    show (ctx i k (clv i P (lfv a) k) (P k)).size ≤ 1001
    omega
/-- What two ways have in memory. -/
structure Tw (W w : World) (g : Nat) (a1 a2 : Option Addr) (h : Nat) (f1 f2 : Nat → ByteArray) : Prop where
  t : Tab w g
  l : Txs w a1 h f1
  r : Txs w a2 h f2
  d : Below W.heap.size W w
theorem Tw.below {W w w' : World} {g : Nat} {a1 a2 : Option Addr} {h : Nat} {f1 f2 : Nat → ByteArray} (k : Tw W w g a1 a2 h f1 f2) (q : Below w.heap.size w w') : Tw W w' g a1 a2 h f1 f2 := ⟨k.t.below q, k.l.below q, k.r.below q, k.d.trans (q.mono k.d.size)⟩
theorem Tw.drew {W w : World} {g : Nat} {a1 a2 : Option Addr} {h : Nat} {f1 f2 : Nat → ByteArray} (k : Tw W w g a1 a2 h f1 f2) : Tw W w.drew g a1 a2 h f1 f2 := ⟨k.t, ⟨k.l.cells⟩, ⟨k.r.cells⟩, k.d.drew⟩
set_option maxHeartbeats 4000000 in
set_option maxRecDepth 100000 in
theorem twin_ok (g h j cp cq : Nat) (ap aq : Option Addr) (a b : ByteArray) (P Q : Nat → ByteArray) (hh : h ≤ 12) (hj : j < 2 ^ h) (ha : a.size ≤ 1000) (hb : b.size ≤ 1000) (hP : ∀ k, k < h → (P k).size = 32) (hQ : ∀ k, k < h → (Q k).size = 32) (hab : a ≠ b) (hr : clv j P (lfv a) h = clv j Q (lfv b) h)
    (W : World) (hT : Tab W g) (hX : Txs W ap h P) (hY : Txs W aq h Q) :
    Calls Tryz.prog 22 #[.pointer (some ⟨g, 0, none⟩), .int .i64 (h : Int), .int .i64 (j : Int), .string a, .string b, .slice ap h cp, .slice aq h cq] W fun e w' => ∃ k, k ≤ h ∧ e = .returned (.tuple #[.string (twx j P a k), .string (twx j Q b k), .bool true]) ∧ smv (twx j P a k) = smv (twx j Q b k) ∧ (∀ m, m < k → smv (twx j P a m) ≠ smv (twx j Q b m)) ∧ Below W.heap.size W w' := by
  have HA : Hid (∀ w, Tab w g → Calls Tryz.prog 23 #[.pointer (some ⟨g, 0, none⟩), .string a] w fun e w' => e = .returned (.string (lfv a)) ∧ Below w.heap.size w w') := fun w t => leaf_ok g a (by omega) w t
  have HB : Hid (∀ w, Tab w g → Calls Tryz.prog 23 #[.pointer (some ⟨g, 0, none⟩), .string b] w fun e w' => e = .returned (.string (lfv b)) ∧ Below w.heap.size w w') := fun w t => leaf_ok g b (by omega) w t
  have HC : Hid (∀ w, Tab w g → Txs w ap h P → Calls Tryz.prog 19 #[.pointer (some ⟨g, 0, none⟩), .int .i64 (h : Int), .int .i64 (j : Int), .string (lfv a), .slice ap h cp] w fun e w' => ∃ a5 c5, e = .returned (.tuple #[.string (clv j P (lfv a) h), .slice a5 h c5, .int .i64 0]) ∧ Txs w' a5 h (clt j P (lfv a)) ∧ Below w.heap.size w w') := fun w t x => (climb_ok g ap h cp j (lfv a) P hh hj (lfv_size a) hP w t x).mono fun e w' ⟨v, h1, h2, h3⟩ => by
    obtain ⟨a5, c5, rfl, h4⟩ := own_txs h2
    exact ⟨a5, c5, h1, h4, h3⟩
  have HD : Hid (∀ w, Tab w g → Txs w aq h Q → Calls Tryz.prog 19 #[.pointer (some ⟨g, 0, none⟩), .int .i64 (h : Int), .int .i64 (j : Int), .string (lfv b), .slice aq h cq] w fun e w' => ∃ a5 c5, e = .returned (.tuple #[.string (clv j P (lfv a) h), .slice a5 h c5, .int .i64 0]) ∧ Txs w' a5 h (clt j Q (lfv b)) ∧ Below w.heap.size w w') := fun w t x => (climb_ok g aq h cq j (lfv b) Q hh hj (lfv_size b) hQ w t x).mono fun e w' ⟨v, h1, h2, h3⟩ => by
    obtain ⟨a5, c5, rfl, h4⟩ := own_txs h2
    exact ⟨a5, c5, by rw [hr]; exact h1, h4, h3⟩
  have HS : Hid (∀ k w, k ≤ h → Tab w g → Calls Tryz.prog 39 #[.pointer (some ⟨g, 0, none⟩), .string (twx j P a k)] w fun e w' => e = .returned (.string (smv (twx j P a k))) ∧ Below w.heap.size w w') := fun k w hk t => sum_ok g _ (by have := twx_size (i := j) ha hP k hk; omega) w t
  have HS2 : Hid (∀ k w, k ≤ h → Tab w g → Calls Tryz.prog 39 #[.pointer (some ⟨g, 0, none⟩), .string (twx j Q b k)] w fun e w' => e = .returned (.string (smv (twx j Q b k))) ∧ Below w.heap.size w w') := fun k w hk t => sum_ok g _ (by have := twx_size (i := j) hb hQ k hk; omega) w t
  have HE : Hid (smv (twx j P a h) = smv (twx j Q b h)) := by show _ = _; rw [twx_sum, twx_sum]; exact hr
  have H00 : Hid (ByteArray.mk #[0] ++ a = twx j P a 0 ∧ ByteArray.mk #[0] ++ b = twx j Q b 0) := ⟨rfl, rfl⟩
  have HX1 : Hid (∀ k, clt j P (lfv a) k = twx j P a (k + 1) ∧ clt j Q (lfv b) k = twx j Q b (k + 1)) := fun k => ⟨rfl, rfl⟩
  have hne := tl_ne hab
  have z0 : (ByteArray.mk #[0]).size = 1 := rfl
  have HT : Hid (Tab W g ∧ Txs W ap h P ∧ Txs W aq h Q) := ⟨hT, hX, hY⟩
  clear hT hX hY hP hQ hr hab hj
  generalize clt j P (lfv a) = f1 at *
  generalize clt j Q (lfv b) = f2 at *
  generalize clv j P (lfv a) h = r at *
  generalize lfv a = la at *
  generalize lfv b = lb at *
  generalize twx j P a = X at *
  generalize twx j Q b = Y at *
  go_enter Tryz.func22, Tryz.ntmps22
  go_wp2_with (first
    | (go_at_call_of 23 (#[.pointer (some ⟨g, 0, none⟩), .string a] : Array Value); refine (HA.out _ HT.out.1).mono ?_; rintro e w1 ⟨rfl, hb1⟩; have HT1 : Hid (Tab w1 g ∧ Txs w1 ap h P ∧ Txs w1 aq h Q ∧ Below W.heap.size W w1) := ⟨HT.out.1.below hb1, HT.out.2.1.below hb1, HT.out.2.2.below hb1, hb1⟩; clear hb1 HT)
    | (go_at_call_of 19 (Value.string la); refine (HC.out _ HT1.out.1 HT1.out.2.1).mono ?_; rintro e w2 ⟨a1, c1, rfl, hx1, hb2⟩; have HT2 : Hid (Tab w2 g ∧ Txs w2 a1 h f1 ∧ Txs w2 aq h Q ∧ Below W.heap.size W w2) := ⟨HT1.out.1.below hb2, hx1, HT1.out.2.2.1.below hb2, HT1.out.2.2.2.trans (hb2.mono HT1.out.2.2.2.size)⟩; clear hb2 HT1 hx1)
    | (go_at_call_of 23 (#[.pointer (some ⟨g, 0, none⟩), .string b] : Array Value); refine (HB.out _ HT2.out.1).mono ?_; rintro e w3 ⟨rfl, hb3⟩; have HT3 : Hid (Tab w3 g ∧ Txs w3 a1 h f1 ∧ Txs w3 aq h Q ∧ Below W.heap.size W w3) := ⟨HT2.out.1.below hb3, HT2.out.2.1.below hb3, HT2.out.2.2.1.below hb3, HT2.out.2.2.2.trans (hb3.mono HT2.out.2.2.2.size)⟩; clear hb3 HT2)
    | (go_at_call_of 19 (Value.string lb); refine (HD.out _ HT3.out.1 HT3.out.2.2.1).mono ?_; rintro e w4 ⟨a2, c2, rfl, hx2, hb4⟩; have HT4 : Hid (Tw W w4 g a1 a2 h f1 f2) := ⟨HT3.out.1.below hb4, HT3.out.2.1.below hb4, hx2, HT3.out.2.2.2.trans (hb4.mono HT3.out.2.2.2.size)⟩; clear hb4 HT3 hx2))
  rw [H00.out.1, H00.out.2]
  go_loopw [14, 15, 23] (fun x y u wr => ∃ (k : Nat) (xs ys : ByteArray), k ≤ h ∧ u = .int .i64 k ∧ x = .string xs ∧ y = .string ys ∧ Hid (xs = X k) ∧ Hid (ys = Y k) ∧ Hid (∀ m, m < k → smv (X m) ≠ smv (Y m)) ∧ Hid (Tw W wr g a1 a2 h f1 f2)) (fun _ _ u _ => h - (intOf u).toNat)
  case atStart => exact ⟨0, X 0, Y 0, Nat.zero_le _, rfl, rfl, rfl, (rfl : X 0 = X 0), (rfl : Y 0 = Y 0), (fun m hm => absurd hm (Nat.not_lt_zero m)), HT4⟩
  case round =>
    obtain ⟨k, xs, ys, hk, rfl, rfl, rfl, HXs, HYs, HM, HK⟩ := hrel
    clear HT4
    have S1 : Hid (∀ w, Tab w g → Calls Tryz.prog 39 #[.pointer (some ⟨g, 0, none⟩), .string xs] w fun e w' => e = .returned (.string (smv (X k))) ∧ Below w.heap.size w w') := fun w t => by have := HS.out k w hk t; rw [← HXs.out] at this; rw [← HXs.out]; exact this
    have S2 : Hid (∀ w, Tab w g → Calls Tryz.prog 39 #[.pointer (some ⟨g, 0, none⟩), .string ys] w fun e w' => e = .returned (.string (smv (Y k))) ∧ Below w.heap.size w w') := fun w t => by have := HS2.out k w hk t; rw [← HYs.out] at this; rw [← HYs.out]; exact this
    by_cases he : smv (X k) = smv (Y k)
    · have HEE : Hid (smv (X k) = smv (Y k)) := he
      rw [← he] at S2
      clear he
      have HFin : Hid (Ending.returned (.tuple #[.string xs, .string ys, .bool true]) = .returned (.tuple #[.string (X k), .string (Y k), .bool true])) := by show _ = _; rw [HXs.out, HYs.out]
      generalize smv (X k) = sx at S1 S2
      by_cases hxy : xs = ys
      · subst hxy
        go_wp2_with (go_at_call 39; refine (S1.out _ (by first | exact HK.out.t | exact HK1.out.t)).mono ?_; rintro e w5 ⟨rfl, hb5⟩; have HK1' : Hid (Tw W w5 g a1 a2 h f1 f2) := (by first | exact HK1.out.below hb5 | exact HK.out.below hb5); (try clear HK1); have HK1 := HK1'; clear HK1' hb5)
        go_ret3
        exact ⟨k, hk, HFin.out, HEE.out, HM.out, HK1.out.d⟩
      · go_wp2_with (first | (go_at_call_of 39 (#[.pointer (some ⟨g, 0, none⟩), .string xs] : Array Value); refine (S1.out _ HK.out.t).mono ?_; rintro e w5 ⟨rfl, hb5⟩; have HK1 : Hid (Tw W w5 g a1 a2 h f1 f2) := HK.out.below hb5; clear hb5) | (go_at_call_of 39 (#[.pointer (some ⟨g, 0, none⟩), .string ys] : Array Value); refine (S2.out _ HK1.out.t).mono ?_; rintro e w6 ⟨rfl, hb6⟩; have HK2 : Hid (Tw W w6 g a1 a2 h f1 f2) := HK1.out.below hb6; clear hb6))
        go_ret3
        exact ⟨k, hk, HFin.out, HEE.out, HM.out, HK2.out.d⟩
    · have hlt : k < h := by
        rcases Nat.lt_or_ge k h with q | q
        · exact q
        · obtain rfl : k = h := by omega
          exact absurd HE.out he
      have hse := tl_ne he
      have HM2 : Hid (∀ m, m < k + 1 → smv (X m) ≠ smv (Y m)) := fun m hm => by
        by_cases q : m = k
        · subst q; exact he
        · exact HM.out m (by omega)
      have hxy : xs ≠ ys := fun q => he (by rw [← HXs.out, ← HYs.out, q])
      have k1 : (k : Int) < (h : Int) := by omega
      have k0 : (0 : Int) ≤ (k : Int) := by omega
      clear he
      generalize smv (X k) = sx at S1 hse
      generalize smv (Y k) = sy at S2 hse
      go_wp2_with (first | (go_at_call_of 39 (#[.pointer (some ⟨g, 0, none⟩), .string xs] : Array Value); refine (S1.out _ HK.out.t).mono ?_; rintro e w5 ⟨rfl, hb5⟩; have HK1 : Hid (Tw W w5 g a1 a2 h f1 f2) := HK.out.below hb5; clear hb5) | (go_at_call_of 39 (#[.pointer (some ⟨g, 0, none⟩), .string ys] : Array Value); refine (S2.out _ HK1.out.t).mono ?_; rintro e w6 ⟨rfl, hb6⟩; have HK2 : Hid (Tw W w6 g a1 a2 h f1 f2) := HK1.out.below hb6; clear hb6))
      obtain ⟨b1, o1, rfl, _, d1⟩ := HK2.out.l.cells k hlt
      obtain ⟨b2, o2, rfl, _, d2⟩ := HK2.out.r.cells k hlt
      have HXk := HX1.out k
      rw [HXk.1] at d1
      rw [HXk.2] at d2
      clear HXk
      go_region
      go_wp2
      exact ⟨⟨k + 1, X (k + 1), Y (k + 1), hlt, by simp, rfl, rfl, (rfl : X (k + 1) = X (k + 1)), (rfl : Y (k + 1) = Y (k + 1)), HM2, HK2.out.drew⟩, by simp [intOf]; omega⟩
end Go.Proofs.YtfepgoddoohpbaaGreat
