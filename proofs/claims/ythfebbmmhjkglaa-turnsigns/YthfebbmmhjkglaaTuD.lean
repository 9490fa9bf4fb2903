/- TurnBack: the walk of the law over the seat's translation; turned round and back, no Go in sight. -/
import Derived.Test.YthfebbmmhjkglaaTuC
import Derived.BigQuiet
namespace Go.Proofs.Ythfebbmmhjkglaa
open Go.RowKit

theorem trn_one {n : Nat} {fr : Nat → Int} {bs : List Bool} (hl : bs.length = n) {p : Nat} (h : p < n) : (trn n fr bs).getD p false = if 0 ≤ fr p then bs.getD (fr p).toNat false else false := by
  rw [trn_at n fr bs (by omega)]
  unfold tbit
  rw [Nat.mod_eq_of_lt h, Nat.sub_self, Nat.zero_add]
theorem bs_ext {a b : List Bool} (hl : a.length = b.length) (h : ∀ i, i < a.length → a.getD i false = b.getD i false) : a = b := by
  apply List.ext_getElem hl
  intro i h1 h2
  have := h i h1
  simpa [List.getD, h1, h2] using this
theorem ft_lit {j : Int} {k t n : Nat} (hj : 1 ≤ j ∧ j ≤ 3) (hk : k ≤ 6) (hn : pw (k : Int) = n) (ht : t < n) : ftB j (k : Int) (t : Int) = true := by
  unfold ftB
  rw [hn]
  exact decide_eq_true ⟨by omega, by omega, .inr hj⟩
theorem fr_3 {k t n i : Nat} (hk : k ≤ 6) (hn : pw (k : Int) = n) (ht : t < n) (hi : i < n) : frI 3 (k : Int) (t : Int) (i : Int) = if t ≤ i then ((i - t : Nat) : Int) else ((i + n - t : Nat) : Int) := by
  rw [frI_yes ⟨ft_lit (by decide) hk hn ht, by omega, by rw [hn]; omega⟩, if_neg (by decide), if_neg (by decide), if_pos rfl, hn]
  split <;> split <;> omega
theorem fr_1 {k t n i : Nat} (hk : k ≤ 6) (hn : pw (k : Int) = n) (ht : t < n) (hi : i < n) : frI 1 (k : Int) (t : Int) (i : Int) = if t ≤ i then ((i - t : Nat) : Int) else -1 := by
  rw [frI_yes ⟨ft_lit (by decide) hk hn ht, by omega, by rw [hn]; omega⟩, if_pos rfl]
  split <;> split <;> omega
theorem fr_2 {k t n i : Nat} (hk : k ≤ 6) (hn : pw (k : Int) = n) (ht : t < n) (hi : i < n) : frI 2 (k : Int) (t : Int) (i : Int) = if i + t < n then ((i + t : Nat) : Int) else -1 := by
  rw [frI_yes ⟨ft_lit (by decide) hk hn ht, by omega, by rw [hn]; omega⟩, if_neg (by decide), if_pos rfl, hn]
  split <;> split <;> omega
theorem round_back {k t u n : Nat} (hk : k ≤ 6) (hn : pw (k : Int) = n) (ht : t < n) (hu : u = (n - t) % n) (bs : List Bool) (hl : bs.length = n) :
    trn n (fun i : Nat => frI 3 (k : Int) (u : Int) (i : Int)) (trn n (fun i : Nat => frI 3 (k : Int) (t : Int) (i : Int)) bs) = bs := by
  have hun : u < n := by rw [hu]; exact Nat.mod_lt _ (by omega)
  have hu2 : (t = 0 ∧ u = 0) ∨ (0 < t ∧ u = n - t) := by
    rcases Nat.eq_zero_or_pos t with h | h
    · left; refine ⟨h, ?_⟩; rw [hu, h, Nat.sub_zero, Nat.mod_self]
    · right; refine ⟨h, ?_⟩; rw [hu, Nat.mod_eq_of_lt (by omega)]
  refine bs_ext (by rw [trn_len, trn_len]) fun i hi => ?_
  rw [trn_len, trn_len, hl] at hi
  rw [trn_one (by rw [trn_len, hl]) hi]
  try dsimp only
  rw [fr_3 hk hn hun hi]
  obtain ⟨q, hq, hqn⟩ : ∃ q : Nat, (if u ≤ i then ((i - u : Nat) : Int) else ((i + n - u : Nat) : Int)) = (q : Int) ∧ (if u ≤ i then q = i - u else q = i + n - u) := by
    split
    · exact ⟨_, rfl, rfl⟩
    · exact ⟨_, rfl, rfl⟩
  have hq2 : q < n := by split at hqn <;> omega
  rw [hq, if_pos (by omega), Int.toNat_natCast, trn_one hl hq2]
  try dsimp only
  rw [fr_3 hk hn ht hq2]
  by_cases hc : t ≤ q
  · rw [if_pos hc, if_pos (by omega), Int.toNat_natCast]
    congr 1
    split at hqn <;> omega
  · rw [if_neg hc, if_pos (by omega), Int.toNat_natCast]
    congr 1
    split at hqn <;> omega
theorem left_right {k t n : Nat} (hk : k ≤ 6) (hn : pw (k : Int) = n) (ht : t < n) (bs : List Bool) (hl : bs.length = n) {i : Nat} (hi : i < n) :
    (trn n (fun i : Nat => frI 2 (k : Int) (t : Int) (i : Int)) (trn n (fun i : Nat => frI 1 (k : Int) (t : Int) (i : Int)) bs)).getD i false = (bs.getD i false && decide (i < n - t)) := by
  rw [trn_one (by rw [trn_len, hl]) hi]
  try dsimp only
  rw [fr_2 hk hn ht hi]
  by_cases h : i + t < n
  · rw [if_pos h, if_pos (by omega), Int.toNat_natCast, trn_one hl h]
    try dsimp only
    rw [fr_1 hk hn ht h, if_pos (by omega), if_pos (by omega), Int.toNat_natCast, show i + t - t = i by omega, decide_eq_true (by omega), Bool.and_true]
  · rw [if_neg h, if_neg (by decide), decide_eq_false (by omega), Bool.and_false]
theorem pw_nat : ∀ k : Nat, k ≤ 6 → ∃ n : Nat, pw (k : Int) = n ∧ [1, 2, 4, 8, 16, 32, 64].getD k 0 = n ∧ 0 < n ∧ n ≤ 64
  | 0, _ => ⟨1, rfl, rfl, by decide, by decide⟩
  | 1, _ => ⟨2, rfl, rfl, by decide, by decide⟩
  | 2, _ => ⟨4, rfl, rfl, by decide, by decide⟩
  | 3, _ => ⟨8, rfl, rfl, by decide, by decide⟩
  | 4, _ => ⟨16, rfl, rfl, by decide, by decide⟩
  | 5, _ => ⟨32, rfl, rfl, by decide, by decide⟩
  | 6, _ => ⟨64, rfl, rfl, by decide, by decide⟩
theorem sizes_at (W : World) (T : TypeId) {k n : Nat} (hk : k ≤ 6) (hn : [1, 2, 4, 8, 16, 32, 64].getD k 0 = n) : (W.alloc (Obj.cells #[.int .i64 1, .int .i64 2, .int .i64 4, .int .i64 8, .int .i64 16, .int .i64 32, .int .i64 64] T)).cell? ⟨W.heap.size, k, none⟩ = some (.int .i64 (n : Int)) := by
  obtain rfl | rfl | rfl | rfl | rfl | rfl | rfl : k = 0 ∨ k = 1 ∨ k = 2 ∨ k = 3 ∨ k = 4 ∨ k = 5 ∨ k = 6 := by omega
  all_goals (subst hn; simp [go_sem])
theorem mod_up (x : Int) (n : Nat) (hn : 0 < n) : ∃ (q : Int) (t : Nat), x.tmod n = q ∧ -(n : Int) < q ∧ q < n ∧ (q + n).tmod n = t ∧ (q + n) % n = t ∧ t < n := by
  have h1 : x.tmod n < n := Int.tmod_lt_of_pos _ (by omega)
  have h2 : -(n : Int) < x.tmod n := by
    rcases Int.le_total 0 x with h | h
    · have := Int.emod_nonneg x (b := (n : Int)) (by omega)
      rw [Int.tmod_eq_emod_of_nonneg h]; omega
    · have h3 : (-x).tmod n < n := Int.tmod_lt_of_pos _ (by omega)
      rw [Int.neg_tmod] at h3; omega
  refine ⟨x.tmod n, ((x.tmod n + n) % n).toNat, rfl, h2, h1, ?_, ?_, ?_⟩
  · rw [Int.tmod_eq_emod_of_nonneg (by omega), Int.toNat_of_nonneg (Int.emod_nonneg _ (by omega))]
  · rw [Int.toNat_of_nonneg (Int.emod_nonneg _ (by omega))]
  · have := Int.emod_lt_of_pos (x.tmod n + n) (b := (n : Int)) (by omega)
    have := Int.emod_nonneg (x.tmod n + n) (b := (n : Int)) (by omega)
    omega
set_option maxHeartbeats 8000000 in
set_option maxRecDepth 100000 in
theorem tk_any (w s : Int) (a : Option Addr) (cap : Nat) (bs : List Bool) (W : World) (hr : Bow W a bs) :
    Calls Try.prog 6 #[.int .i64 w, .int .i64 s, .slice a bs.length cap] W fun e w' => e = .returned (.bool true) ∧ Below W.heap.size W w' := by
  have HA := Hid.mkT awake18
  obtain ⟨r, k, hr1, hr2, hr3, hr4, hr5, hk7⟩ := mod_up w 7 (by decide)
  have hk : k ≤ 6 := by omega
  obtain ⟨n, hn, hn2, hn0, hn64⟩ := pw_nat k hk
  obtain ⟨q, t, hq1, hq2, hq3, hq4, hq5, ht⟩ := mod_up s n hn0
  have HC := Hid.mkT (sizes_at W 3 hk hn2)
  have e1 : IntKind.i64.wrap (r + 7) = r + 7 := by rw [IntKind.wrap_i64]; omega
  have e2 : IntKind.i64.wrap (q + (n : Int)) = q + (n : Int) := by rw [IntKind.wrap_i64]; omega
  have c0 := HC.out
  have g1 : (k : Int) < 7 := by omega
  have g2 : (0 : Int) ≤ (k : Int) := by omega
  have g3 : ¬ (n : Int) = 0 := by omega
  have g4 : ¬ n = 0 := by omega
  have hr3' : r < 7 := hr3
  have hr2' : -7 < r := hr2
  have hr4' : (r + 7).tmod 7 = (k : Int) := hr4
  have hr5' : (r + 7) % 7 = (k : Int) := hr5
  have hr1' : w.tmod 7 = r := hr1
  have D0 : Hid (Below W.heap.size W (W.alloc (Obj.cells #[.int .i64 1, .int .i64 2, .int .i64 4, .int .i64 8, .int .i64 16, .int .i64 32, .int .i64 64] 3))) := by show Below _ _ _; go_grown
  clear hr1 hr2 hr3 hr4 hr5 HC hn2
  by_cases hl : bs.length = n
  · have HL : Hid (bs.length = n) := hl
    obtain ⟨u, hu⟩ : ∃ u, u = (n - t) % n := ⟨_, rfl⟩
    have hun : u < n := by rw [hu]; exact Nat.mod_lt _ hn0
    obtain ⟨A, hA⟩ : ∃ A, A = trn n (fun i : Nat => frI 3 (k : Int) (t : Int) (i : Int)) bs := ⟨_, rfl⟩
    obtain ⟨E, hE⟩ : ∃ E, E = trn n (fun i : Nat => frI 1 (k : Int) (t : Int) (i : Int)) bs := ⟨_, rfl⟩
    obtain ⟨X, hX⟩ : ∃ X, X = trn n (fun i : Nat => frI 2 (k : Int) (t : Int) (i : Int)) E := ⟨_, rfl⟩
    have lA : A.length = n := by rw [hA, trn_len, hl]
    have lE : E.length = n := by rw [hE, trn_len, hl]
    have lX : X.length = n := by rw [hX, trn_len, lE]
    have hself : n % n = 0 := Nat.mod_self n
    have B1 : Hid (∀ v, Bow v a bs → Calls Try.prog 10 #[.int .i64 3, .int .i64 (k : Int), .int .i64 (t : Int), .slice a n cap] v fun e w' => ∃ g, e = .returned (.tuple #[.slice (some ⟨g, 0, none⟩) n n, .int .i64 0]) ∧ Bow w' (some ⟨g, 0, none⟩) A ∧ Below v.heap.size v w') := fun v h => by
      have := tbits_ok 3 k t (ft_lit (by decide) hk hn ht) n hn a cap bs (by rw [hl]; exact hself) (by omega) v h
      rw [hl, ← hA] at this; exact this
    have B2 : Hid (∀ v g, Bow v (some ⟨g, 0, none⟩) A → Calls Try.prog 10 #[.int .i64 3, .int .i64 (k : Int), .int .i64 (u : Int), .slice (some ⟨g, 0, none⟩) n n] v fun e w' => ∃ g, e = .returned (.tuple #[.slice (some ⟨g, 0, none⟩) n n, .int .i64 0]) ∧ Bow w' (some ⟨g, 0, none⟩) bs ∧ Below v.heap.size v w') := fun v g h => by
      have := tbits_ok 3 k u (ft_lit (by decide) hk hn hun) n hn (some ⟨g, 0, none⟩) n A (by rw [lA]; exact hself) (by omega) v h
      rw [lA, hA, round_back hk hn ht hu bs hl] at this; exact this
    have B3 : Hid (∀ v, Bow v a bs → Calls Try.prog 10 #[.int .i64 1, .int .i64 (k : Int), .int .i64 (t : Int), .slice a n cap] v fun e w' => ∃ g, e = .returned (.tuple #[.slice (some ⟨g, 0, none⟩) n n, .int .i64 0]) ∧ Bow w' (some ⟨g, 0, none⟩) E ∧ Below v.heap.size v w') := fun v h => by
      have := tbits_ok 1 k t (ft_lit (by decide) hk hn ht) n hn a cap bs (by rw [hl]; exact hself) (by omega) v h
      rw [hl, ← hE] at this; exact this
    have B4 : Hid (∀ v g, Bow v (some ⟨g, 0, none⟩) E → Calls Try.prog 10 #[.int .i64 2, .int .i64 (k : Int), .int .i64 (t : Int), .slice (some ⟨g, 0, none⟩) n n] v fun e w' => ∃ g, e = .returned (.tuple #[.slice (some ⟨g, 0, none⟩) n n, .int .i64 0]) ∧ Bow w' (some ⟨g, 0, none⟩) X ∧ Below v.heap.size v w') := fun v g h => by
      have := tbits_ok 2 k t (ft_lit (by decide) hk hn ht) n hn (some ⟨g, 0, none⟩) n E (by rw [lE]; exact hself) (by omega) v h
      rw [lE, ← hX] at this; exact this
    have SM : Hid (∀ v g, Bow v (some ⟨g, 0, none⟩) bs → Bow v a bs → Calls Try.prog 15 #[.slice (some ⟨g, 0, none⟩) n n, .slice a n cap] v fun e w' => e = .returned (.bool true) ∧ Below v.heap.size v w') := fun v g h1 h2 => by
      have := tsame (some ⟨g, 0, none⟩) a n cap bs bs (by omega) v h1 h2
      rw [decide_eq_true rfl, hl] at this; exact this
    have HX : Hid (X.length = n ∧ ∀ i, i < n → X.getD i false = (bs.getD i false && decide (i < n - t))) := ⟨lX, fun i hi => by rw [hX, hE]; exact left_right hk hn ht bs hl hi⟩
    have HR : Hid (Bow W a bs) := hr
    have e3 : IntKind.i64.wrap ((n : Int) - (t : Int)) = (n : Int) - (t : Int) := by rw [IntKind.wrap_i64]; omega
    have e4 : ((n : Int) - (t : Int)).tmod (n : Int) = (u : Int) := by rw [hu, Int.tmod_eq_emod_of_nonneg (by omega), show (n : Int) - (t : Int) = ((n - t : Nat) : Int) by omega]; simp
    have e5 : ((n : Int) - (t : Int)) % (n : Int) = (u : Int) := by rw [hu, show (n : Int) - (t : Int) = ((n - t : Nat) : Int) by omega]; simp
    clear hA hE hX lA lE lX hself hr hu hn
    rw [hl]
    clear hl
    go_enter Try.func6, Try.ntmps6
    go_wp2_with (first
      | (go_at_call 15; refine (SM.out _ _ D4.out.2.1 D4.out.2.2.2).mono ?_; rintro e w5 ⟨rfl, hb5⟩; have D5 : Hid (Below W.heap.size W w5 ∧ Bow w5 (some ⟨gx, 0, none⟩) X ∧ Bow w5 a bs) := ⟨D4.out.1.trans (hb5.mono D4.out.1.size), D4.out.2.2.1.below hb5, D4.out.2.2.2.below hb5⟩; clear hb5 D4)
      | (go_at_call_of 10 (Value.int .i64 2); refine (B4.out _ _ D3.out.2.2.1).mono ?_; rintro e w4 ⟨gx, rfl, R4, hb4⟩; have D4 : Hid (Below W.heap.size W w4 ∧ Bow w4 (some ⟨gc, 0, none⟩) bs ∧ Bow w4 (some ⟨gx, 0, none⟩) X ∧ Bow w4 a bs) := ⟨D3.out.1.trans (hb4.mono D3.out.1.size), D3.out.2.1.below hb4, R4, D3.out.2.2.2.below hb4⟩; clear hb4 D3 R4)
      | (go_at_call_of 10 (Value.int .i64 1); refine (B3.out _ D2.out.2.2).mono ?_; rintro e w3 ⟨gd, rfl, R3, hb3⟩; have D3 : Hid (Below W.heap.size W w3 ∧ Bow w3 (some ⟨gc, 0, none⟩) bs ∧ Bow w3 (some ⟨gd, 0, none⟩) E ∧ Bow w3 a bs) := ⟨D2.out.1.trans (hb3.mono D2.out.1.size), D2.out.2.1.below hb3, R3, D2.out.2.2.below hb3⟩; clear hb3 D2 R3)
      | (go_at_call 10; refine (B2.out _ _ D1.out.2.1).mono ?_; rintro e w2 ⟨gc, rfl, R2, hb2⟩; have D2 : Hid (Below W.heap.size W w2 ∧ Bow w2 (some ⟨gc, 0, none⟩) bs ∧ Bow w2 a bs) := ⟨D1.out.1.trans (hb2.mono D1.out.1.size), R2, D1.out.2.2.below hb2⟩; clear hb2 D1 R2)
      | (go_at_call 10; refine (B1.out _ (HR.out.below D0.out)).mono ?_; rintro e w1 ⟨ga, rfl, R1, hb1⟩; have D1 : Hid (Below W.heap.size W w1 ∧ Bow w1 (some ⟨ga, 0, none⟩) A ∧ Bow w1 a bs) := ⟨D0.out.trans (hb1.mono D0.out.size), R1, (HR.out.below D0.out).below hb1⟩; clear hb1 R1 B1))
    clear B2 B3 B4 SM c0 D0
    go_loopw [16] (fun u wr => ∃ i : Nat, i ≤ n ∧ u = .int .i64 i ∧ Hid (Below W.heap.size W wr ∧ Bow wr (some ⟨gx, 0, none⟩) X ∧ Bow wr a bs)) (fun u _ => n - (intOf u).toNat)
    case atStart => exact ⟨0, Nat.zero_le _, rfl, D5⟩
    case round =>
      obtain ⟨i, hi, rfl, HI⟩ := hrel
      clear D5
      by_cases hlt : i < n
      · obtain ⟨b0, off, E0, hb0, C0⟩ := HI.out.2.1.cells i (by rw [HX.out.1]; exact hlt)
        obtain ⟨b1, off1, rfl, hb1, C1⟩ := HI.out.2.2.cells i (by rw [HL.out]; exact hlt)
        injection E0 with E0
        injection E0 with E1 E2
        subst E1 E2
        rw [HX.out.2 i hlt, Nat.zero_add] at C0
        have j1 : (i : Int) < (n : Int) := by omega
        have j2 : (0 : Int) ≤ (i : Int) := by omega
        generalize bs.getD i false = y at *
        clear hb0 hb1 HR
        cases y
        · rw [Bool.false_and] at C0
          go_wp2_with fail
          go_quiet (fail)
          go_wp2
          refine ⟨⟨i + 1, hlt, by simp, ⟨below_drewN HI.out.1 nq, ?_, ?_⟩⟩, by simp [intOf]; omega⟩
          · exact HI.out.2.1.below (below_drewN (Below.refl _ _) nq)
          · exact HI.out.2.2.below (below_drewN (Below.refl _ _) nq)
        · rw [Bool.true_and] at C0
          by_cases hc : i < n - t
          · rw [decide_eq_true hc] at C0
            have hc2 : decide ((i : Int) < (n : Int) - (t : Int)) = true := decide_eq_true (by omega)
            go_wp2_with fail
            go_quiet (fail)
            go_wp2
            refine ⟨⟨i + 1, hlt, by simp, ⟨below_drewN HI.out.1 nq, ?_, ?_⟩⟩, by simp [intOf]; omega⟩
            · exact HI.out.2.1.below (below_drewN (Below.refl _ _) nq)
            · exact HI.out.2.2.below (below_drewN (Below.refl _ _) nq)
          · rw [decide_eq_false hc] at C0
            have hc2 : decide ((i : Int) < (n : Int) - (t : Int)) = false := decide_eq_false (by omega)
            go_wp2_with fail
            go_quiet (fail)
            go_wp2
            refine ⟨⟨i + 1, hlt, by simp, ⟨below_drewN HI.out.1 nq, ?_, ?_⟩⟩, by simp [intOf]; omega⟩
            · exact HI.out.2.1.below (below_drewN (Below.refl _ _) nq)
            · exact HI.out.2.2.below (below_drewN (Below.refl _ _) nq)
      · obtain rfl : i = n := by omega
        go_wp2_with (go_at_call 9; refine (HA.out.go _).mono ?_; rintro e w6 ⟨rfl, hb6⟩)
        go_ret
        exact ⟨rfl, HI.out.1.trans (hb6.mono HI.out.1.size)⟩
  · have hl2 : ((bs.length : Int) != (n : Int)) = true := by simp; omega
    clear hl hr hn
    go_enter Try.func6, Try.ntmps6
    go_wp2_with (go_at_call 9; refine (HA.out.go _).mono ?_; rintro e w1 ⟨rfl, hb1⟩)
    go_ret
    exact ⟨rfl, D0.out.trans (hb1.mono D0.out.size)⟩
end Go.Proofs.Ythfebbmmhjkglaa
