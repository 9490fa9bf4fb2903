/- What merkle's Climb answers where it can't climb; the contract of merkle's Twin; over the seat's translation. -/
import Derived.Test.YthmjbdmnlkbllaaGreatMkH
namespace Go.Proofs.YthmjbdmnlkbllaaGreat
open Go.RowKit

/-- Which error Climb has. -/
def cerr (h i : Int) (leaf : ByteArray) (n : Nat) (P : Nat → ByteArray) : Nat :=
  if h < 0 ∨ 12 < h ∨ i < 0 ∨ ((2 ^ h.toNat : Nat) : Int) ≤ i then 1 else if (n : Int) ≠ h ∨ leaf.size ≠ 32 ∨ digB n P = false then 6 else 0
theorem cerr_ok {h i : Int} {leaf : ByteArray} {n : Nat} {P : Nat → ByteArray} (e : cerr h i leaf n P = 0) : ∃ j : Nat, h = (n : Int) ∧ i = (j : Int) ∧ n ≤ 12 ∧ j < 2 ^ n ∧ leaf.size = 32 ∧ (∀ k, k < n → (P k).size = 32) := by
  unfold cerr at e
  by_cases h1 : h < 0 ∨ 12 < h ∨ i < 0 ∨ ((2 ^ h.toNat : Nat) : Int) ≤ i
  · rw [if_pos h1] at e; cases e
  · rw [if_neg h1] at e
    by_cases h2 : (n : Int) ≠ h ∨ leaf.size ≠ 32 ∨ digB n P = false
    · rw [if_pos h2] at e; cases e
    · have hn : h = (n : Int) := by
        by_cases q : (n : Int) = h
        · exact q.symm
        · exact absurd (Or.inl q) h2
      have hl : leaf.size = 32 := by
        by_cases q : leaf.size = 32
        · exact q
        · exact absurd (Or.inr (Or.inl q)) h2
      have hd : digB n P = true := by
        cases q : digB n P
        · exact absurd (Or.inr (Or.inr q)) h2
        · rfl
      subst hn
      rw [Int.toNat_natCast] at h1
      refine ⟨i.toNat, rfl, by omega, by omega, ?_, hl, fun k hk => digB_at hd hk⟩
      have : ¬ ((2 ^ n : Nat) : Int) ≤ i := fun q => h1 (Or.inr (Or.inr (Or.inr q)))
      generalize 2 ^ n = H at *
      omega
set_option maxHeartbeats 2000000 in
set_option maxRecDepth 100000 in
theorem climb_arg (g : Nat) (v : Value) (h i : Int) (leaf : ByteArray) (hc : h < 0 ∨ 12 < h ∨ i < 0 ∨ ((2 ^ h.toNat : Nat) : Int) ≤ i) : Same 8 #[.pointer (some ⟨g, 0, none⟩), .int .i64 h, .int .i64 i, .string leaf, v] (.tuple #[.string (ByteArray.mk #[]), .slice none 0 0, .int .i64 1]) := by
  intro W
  by_cases h1 : h < 0
  · clear hc
    go_enter Tryz.func8, Tryz.ntmps8
    go_wp2
    go_step3
    go_wp2
    rw [Exit.noGoto_ret]
    go_ret3
    exact ⟨rfl, rfl⟩
  by_cases h2 : 12 < h
  · clear hc
    go_enter Tryz.func8, Tryz.ntmps8
    go_wp2
    go_step3
    go_wp2
    rw [Exit.noGoto_ret]
    go_ret3
    exact ⟨rfl, rfl⟩
  by_cases h3 : i < 0
  · clear hc
    go_enter Tryz.func8, Tryz.ntmps8
    go_wp2
    go_step3
    go_wp2
    rw [Exit.noGoto_ret]
    go_ret3
    exact ⟨rfl, rfl⟩
  · have h4 : ((2 ^ h.toNat : Nat) : Int) ≤ i := by
      rcases hc with q | q | q | q
      · exact absurd q h1
      · exact absurd q h2
      · exact absurd q h3
      · exact q
    obtain ⟨k, rfl⟩ : ∃ k : Nat, h = (k : Int) := ⟨h.toNat, by omega⟩
    rw [Int.toNat_natCast] at h4
    have hpl : 2 ^ k ≤ 4096 := Nat.pow_le_pow_right (n := 2) (by decide) (show k ≤ 12 by omega)
    have hsh2 : (2 : Int) ^ k = ((2 ^ k : Nat) : Int) := by rw [Int.natCast_pow]; rfl
    have hsh : (1 : Int) * 2 ^ k = ((2 ^ k : Nat) : Int) := by rw [Int.one_mul]; exact hsh2
    generalize 2 ^ k = H at *
    have hw : IntKind.i64.wrap (H : Int) = (H : Int) := by rw [IntKind.wrap_i64]; omega
    clear hc
    go_enter Tryz.func8, Tryz.ntmps8
    go_wp2
    go_step3
    go_wp2
    rw [Exit.noGoto_ret]
    go_ret3
    exact ⟨rfl, rfl⟩
set_option maxHeartbeats 2000000 in
set_option maxRecDepth 100000 in
theorem climb_size (g : Nat) (a : Option Addr) (n cap k j : Nat) (leaf : ByteArray) (P : Nat → ByteArray) (hk : k ≤ 12) (hj : j < 2 ^ k) (hn : n ≤ 1000000) (hc : n ≠ k ∨ leaf.size ≠ 32 ∨ digB n P = false) (W : World) (hX : Txs W a n P) :
    Calls Tryz.prog 8 #[.pointer (some ⟨g, 0, none⟩), .int .i64 (k : Int), .int .i64 (j : Int), .string leaf, .slice a n cap] W fun e w' => e = .returned (.tuple #[.string (ByteArray.mk #[]), .slice none 0 0, .int .i64 6]) ∧ Below W.heap.size W w' := by
  have hpl : 2 ^ k ≤ 4096 := Nat.pow_le_pow_right (n := 2) (by decide) hk
  have hsh2 : (2 : Int) ^ k = ((2 ^ k : Nat) : Int) := by rw [Int.natCast_pow]; rfl
  have hsh : (1 : Int) * 2 ^ k = ((2 ^ k : Nat) : Int) := by rw [Int.one_mul]; exact hsh2
  generalize 2 ^ k = H at *
  have hw : IntKind.i64.wrap (H : Int) = (H : Int) := by rw [IntKind.wrap_i64]; omega
  have i1 : ¬ (H : Int) ≤ (j : Int) := by omega
  have i2 : ¬ (j : Int) < 0 := by omega
  have i3 : ¬ (k : Int) < 0 := by omega
  have i4 : ¬ (12 : Int) < (k : Int) := by omega
  have HX : Hid (Txs W a n P) := hX
  clear hX
  by_cases h1 : n = k
  · subst h1
    have HD1 : Hid (∀ b w, w.cell? ⟨b, 0, none⟩ = some (.string leaf) → Calls Tryz.prog 26 #[.slice (some ⟨b, 0, none⟩) 1 1] w fun e w' => e = .returned (.bool (decide (leaf.size = 32))) ∧ w' = w) := fun b w hc => digests_one b leaf w hc
    by_cases h2 : leaf.size = 32
    · have hd : digB n P = false := by
        rcases hc with q | q | q
        · exact absurd rfl q
        · exact absurd h2 q
        · exact q
      have HD2 : Hid (∀ w, Txs w a n P → Calls Tryz.prog 26 #[.slice a n cap] w fun e w' => e = .returned (.bool false) ∧ w' = w) := fun w hx => by
        have := digests_any a n cap P hn w hx
        rw [hd] at this
        exact this
      rw [decide_eq_true h2] at HD1
      clear hc hd h2
      go_enter Tryz.func8, Tryz.ntmps8
      go_wp2
      go_step3
      go_wp2_with (first | (go_at_call_of 26 (some (⟨W.heap.size, 0, none⟩ : Addr)); refine (HD1.out _ _ (by simp [go_sem])).mono ?_; rintro e w9 ⟨rfl, hw9⟩; obtain rfl := hw9.symm; clear hw9) | (go_at_call 26; refine (HD2.out _ (HX.out.below (below_laid _ _))).mono ?_; rintro e w9 ⟨rfl, hw9⟩; obtain rfl := hw9.symm; clear hw9))
      rw [Exit.noGoto_ret]
      go_ret3
      exact ⟨rfl, below_laid _ _⟩
    · rw [decide_eq_false h2] at HD1
      clear hc h2
      go_enter Tryz.func8, Tryz.ntmps8
      go_wp2
      go_step3
      go_wp2_with (go_at_call 26; refine (HD1.out _ _ (by simp [go_sem])).mono ?_; rintro e w9 ⟨rfl, hw9⟩; obtain rfl := hw9.symm; clear hw9)
      rw [Exit.noGoto_ret]
      go_ret3
      exact ⟨rfl, below_laid _ _⟩
  · have e1 : ¬ (n : Int) = (k : Int) := by omega
    have e2 : ((n : Int) == (k : Int)) = false := by simp; omega
    clear hc h1
    go_enter Tryz.func8, Tryz.ntmps8
    go_wp2
    go_step3
    go_wp2
    rw [Exit.noGoto_ret]
    go_ret3
    exact ⟨rfl, Below.refl _ _⟩
/-- Where Climb has an error. -/
theorem climb_bad (g : Nat) (a : Option Addr) (n cap : Nat) (h i : Int) (leaf : ByteArray) (P : Nat → ByteArray) (hn : n ≤ 1000000) (hc : cerr h i leaf n P ≠ 0) (W : World) (hX : Txs W a n P) :
    Calls Tryz.prog 8 #[.pointer (some ⟨g, 0, none⟩), .int .i64 h, .int .i64 i, .string leaf, .slice a n cap] W fun e w' => e = .returned (.tuple #[.string (ByteArray.mk #[]), .slice none 0 0, .int .i64 ((cerr h i leaf n P : Nat) : Int)]) ∧ Below W.heap.size W w' := by
  by_cases h1 : h < 0 ∨ 12 < h ∨ i < 0 ∨ ((2 ^ h.toNat : Nat) : Int) ≤ i
  · have e : cerr h i leaf n P = 1 := by unfold cerr; rw [if_pos h1]
    rw [e]
    refine (climb_arg g _ h i leaf h1 W).mono ?_
    rintro e w' ⟨rfl, rfl⟩
    exact ⟨rfl, Below.refl _ _⟩
  · by_cases h2 : (n : Int) ≠ h ∨ leaf.size ≠ 32 ∨ digB n P = false
    · have e : cerr h i leaf n P = 6 := by unfold cerr; rw [if_neg h1, if_pos h2]
      rw [e]
      obtain ⟨k, rfl⟩ : ∃ k : Nat, h = (k : Int) := ⟨h.toNat, by omega⟩
      obtain ⟨j, rfl⟩ : ∃ j : Nat, i = (j : Int) := ⟨i.toNat, by omega⟩
      rw [Int.toNat_natCast] at h1
      have hj : j < 2 ^ k := by
        have : ¬ ((2 ^ k : Nat) : Int) ≤ (j : Int) := fun q => h1 (Or.inr (Or.inr (Or.inr q)))
        generalize 2 ^ k = H at *
        omega
      refine climb_size g a n cap k j leaf P (by omega) hj hn ?_ W hX
      rcases h2 with q | q | q
      · exact .inl (by omega)
      · exact .inr (.inl q)
      · exact .inr (.inr q)
    · exact absurd (show cerr h i leaf n P = 0 by unfold cerr; rw [if_neg h1, if_neg h2]) hc
theorem tl_ne {u v : ByteArray} (h : u ≠ v) : (u.toList == v.toList) = false := by
  rw [beq_eq_false_iff_ne]
  intro e
  rw [ByteArray.toList_eq, ByteArray.toList_eq] at e
  apply h
  cases u
  cases v
  congr 1
  exact Array.ext' e
theorem tl_eq {u v : ByteArray} (h : u = v) : (u.toList == v.toList) = true := by rw [h]; simp
/-- The texts that are summed on a way, from the leaf's on. -/
def twx (i : Nat) (P : Nat → ByteArray) (a : ByteArray) : Nat → ByteArray
  | 0 => ByteArray.mk #[0] ++ a
  | k + 1 => clt i P (lfv a) k
theorem twx_sum (i : Nat) (P : Nat → ByteArray) (a : ByteArray) : ∀ k, smv (twx i P a k) = clv i P (lfv a) k
  | 0 => rfl
  | _ + 1 => rfl
theorem twx_size {i : Nat} {P : Nat → ByteArray} {a : ByteArray} {h : Nat} (ha : a.size ≤ 1000) (hp : ∀ k, k < h → (P k).size = 32) : ∀ k, k ≤ h → (twx i P a k).size ≤ 1001
  | 0, _ => by show (ByteArray.mk #[0] ++ a).size ≤ 1001; rw [ByteArray.size_append]; show 1 + a.size ≤ 1001; omega
  | k + 1, hk => by
    have : (ctx i k (clv i P (lfv a) k) (P k)).size = 65 := ctx_size (clv_size (lfv_size a) k) (hp k (by omega))
    show (ctx i k (clv i P (lfv a) k) (P k)).size ≤ 1001
    omega
/-- What two ways have in memory. -/
structure Tw (W w : World) (g : Nat) (a1 a2 : Option Addr) (h : Nat) (f1 f2 : Nat → ByteArray) : Prop where
  t : Tab w g
  l : Txs w a1 h f1
  r : Txs w a2 h f2
  d : Below W.heap.size W w
theorem Tw.below {W w w' : World} {g : Nat} {a1 a2 : Option Addr} {h : Nat} {f1 f2 : Nat → ByteArray} (k : Tw W w g a1 a2 h f1 f2) (q : Below w.heap.size w w') : Tw W w' g a1 a2 h f1 f2 := ⟨k.t.below q, k.l.below q, k.r.below q, k.d.trans (q.mono k.d.size)⟩
theorem Tw.drew {W w : World} {g : Nat} {a1 a2 : Option Addr} {h : Nat} {f1 f2 : Nat → ByteArray} (k : Tw W w g a1 a2 h f1 f2) : Tw W w.drew g a1 a2 h f1 f2 := ⟨k.t, ⟨k.l.cells⟩, ⟨k.r.cells⟩, k.d.drew⟩
end Go.Proofs.YthmjbdmnlkbllaaGreat
