/- The contracts of turn.Bits and steeplelaw18.same over the seat's translation. -/
import Derived.Test.YtejoombhcnldmaaPTuA
import Derived.Deep.OwnRows
import Derived.BigQuiet
namespace Go.Proofs.Ytejoombhcnldmaa
open Go.RowKit

/-- Bools in memory, as a slice has them. -/
structure Bow (w : World) (a : Option Addr) (bs : List Bool) : Prop where
  cells : ∀ i, i < bs.length → ∃ b off : Nat, a = some ⟨b, off, none⟩ ∧ b < w.heap.size ∧ w.cell? ⟨b, off + i, none⟩ = some (.bool (bs.getD i false))
theorem Bow.below {w w' : World} {a : Option Addr} {bs : List Bool} (h : Bow w a bs) (hb : Below w.heap.size w w') : Bow w' a bs := ⟨fun i hi => by
  obtain ⟨b, off, h1, h2, h3⟩ := h.cells i hi
  exact ⟨b, off, h1, Nat.lt_of_lt_of_le h2 hb.size, keepc hb h3⟩⟩
/-- The bit p of turned words of n bits. -/
def tbit (n : Nat) (fr : Nat → Int) (bs : List Bool) (p : Nat) : Bool := if 0 ≤ fr (p % n) then bs.getD (p - p % n + (fr (p % n)).toNat) false else false
def trn (n : Nat) (fr : Nat → Int) (bs : List Bool) : List Bool := (List.range bs.length).map (tbit n fr bs)
theorem trn_len (n : Nat) (fr : Nat → Int) (bs : List Bool) : (trn n fr bs).length = bs.length := by simp [trn]
theorem trn_at (n : Nat) (fr : Nat → Int) (bs : List Bool) {p : Nat} (h : p < bs.length) : (trn n fr bs).getD p false = tbit n fr bs p := by simp [trn, List.getD, h]
theorem in_word {j L n f : Nat} (hj : j < L) (hL : L % n = 0) (hf : f < n) : j - j % n + f < L := by
  have h1 : j = n * (j / n) + j % n := (Nat.div_add_mod j n).symm
  have h2 : L = n * (L / n) := by have := (Nat.div_add_mod L n).symm; omega
  have h3 : j / n < L / n := by
    apply Nat.div_lt_of_lt_mul
    rw [← h2]; exact hj
  have h4 : n * (j / n + 1) ≤ n * (L / n) := Nat.mul_le_mul_left n h3
  rw [Nat.mul_add, Nat.mul_one, ← h2] at h4
  omega
theorem frI_lt {k w s i : Int} {n : Nat} (hn : pw w = n) (h : 0 ≤ frI k w s i) : frI k w s i < n := by
  by_cases hc : ftB k w s = true ∧ 0 ≤ i ∧ i < pw w
  · obtain ⟨hf, h1, h2⟩ := hc
    obtain ⟨_, ⟨h3, h4⟩, _⟩ := ftB_true hf
    rw [frI_yes ⟨hf, h1, h2⟩, hn] at *
    split at * <;> (try split at *) <;> (try split at *) <;> omega
  · rw [frI_no hc] at h; omega
theorem info_bool : ∃ i, Try.prog.info? 4 = some i ∧ i.zero = some (.bool false) ∧ i.size = 1 ∧ i.bytes = 1 := by
  have h : (Try.prog.info? 4).map (fun i => (i.zero, i.size, i.bytes)) = some (some (.bool false), 1, 1) := by kernel_rfl
  obtain ⟨i, hi, he⟩ := Option.map_eq_some_iff.1 h
  simp only [Prod.mk.injEq] at he
  exact ⟨i, hi, he.1, he.2.1, he.2.2⟩
theorem own_rowZ {w : World} {base : Nat} {T : TypeId} {g n : Nat} {z : Value} (h : w.ownsRow base T 1 (.slice (some ⟨g, 0, none⟩) n n) n (List.replicate n z)) : ∃ f, w.rowIs g T n f ∧ ∀ p, p < n → f p = z := by
  have hc := h
  rcases h.2 with ⟨h1, _⟩ | ⟨g', cap, cur, e, _, hg, _, _, hs, _⟩
  · injection h1 with h2; cases h2
  · injection e with e1 e2 e3
    obtain rfl : g = g' := by injection e1 with e4; injection e4
    subst e3
    have R : w.rowIs g T n (fun i => cur.getD i undef) := ⟨cur, hg, by omega, fun i hi => by
      show cur[i]? = some (cur.getD i undef)
      rw [Array.getD_eq_getD_getElem?, Array.getElem?_eq_getElem (by omega)]; rfl⟩
    refine ⟨_, R, fun p hp => ?_⟩
    have c1 := R.cell hp
    have c2 := hc.cellAt p (by omega)
    rw [c1, List.getElem?_replicate, if_pos hp] at c2
    exact Option.some.inj c2
theorem row_bow {w : World} {g : Nat} {T : TypeId} {f : Nat → Value} {bs : List Bool} (R : w.rowIs g T bs.length f) (F : ∀ p, p < bs.length → f p = .bool (bs.getD p false)) : Bow w (some ⟨g, 0, none⟩) bs := ⟨fun i hi => by
  have c := R.cell hi
  rw [F i hi] at c
  exact ⟨g, 0, rfl, R.lt, by rw [Nat.zero_add]; exact c⟩⟩
theorem Hid.mkT {p : Prop} (h : p) : Hid p := h
end Go.Proofs.Ytejoombhcnldmaa

/- The contracts of steeplelaw18.same and awake over the seat's translation. -/
namespace Go.Proofs.Ytejoombhcnldmaa
open Go.RowKit

theorem take_bs (l : List Bool) (i : Nat) (h : i < l.length) : l.take (i + 1) = l.take i ++ [l.getD i false] := by
  rw [List.take_succ_eq_append_getElem h]; simp [h]
theorem bow4 {w : World} {b : Nat} {x y z t : Bool} (h0 : w.cell? ⟨b, 0, none⟩ = some (.bool x)) (h1 : w.cell? ⟨b, 1, none⟩ = some (.bool y)) (h2 : w.cell? ⟨b, 2, none⟩ = some (.bool z)) (h3 : w.cell? ⟨b, 3, none⟩ = some (.bool t)) : Bow w (some ⟨b, 0, none⟩) [x, y, z, t] := ⟨fun i hi => by
  simp at hi
  refine ⟨b, 0, rfl, cell_lt h0, ?_⟩
  rw [Nat.zero_add]
  obtain rfl | rfl | rfl | rfl : i = 0 ∨ i = 1 ∨ i = 2 ∨ i = 3 := by omega
  · exact h0
  · exact h1
  · exact h2
  · exact h3⟩
theorem aw1 : trn 4 (fun i : Nat => frI 1 2 1 (i : Int)) [true, true, false, false] = [false, true, true, false] := by decide +kernel
theorem aw2 : trn 4 (fun i : Nat => frI 3 2 1 (i : Int)) [false, false, false, true] = [true, false, false, false] := by decide +kernel
end Go.Proofs.Ytejoombhcnldmaa

/- TurnBack: the walk of the law over the seat's translation; turned round and back, no Go in sight. -/
namespace Go.Proofs.Ytejoombhcnldmaa
open Go.RowKit

theorem trn_one {n : Nat} {fr : Nat → Int} {bs : List Bool} (hl : bs.length = n) {p : Nat} (h : p < n) : (trn n fr bs).getD p false = if 0 ≤ fr p then bs.getD (fr p).toNat false else false := by
  rw [trn_at n fr bs (by omega)]
  unfold tbit
  rw [Nat.mod_eq_of_lt h, Nat.sub_self, Nat.zero_add]
theorem bs_ext {a b : List Bool} (hl : a.length = b.length) (h : ∀ i, i < a.length → a.getD i false = b.getD i false) : a = b := by
  apply List.ext_getElem hl
  intro i h1 h2
  have := h i h1
  simpa [List.getD, h1, h2] using this
theorem ft_lit {j : Int} {k t n : Nat} (hj : 1 ≤ j ∧ j ≤ 3) (hk : k ≤ 6) (hn : pw (k : Int) = n) (ht : t < n) : ftB j (k : Int) (t : Int) = true := by
  unfold ftB
  rw [hn]
  exact decide_eq_true ⟨by omega, by omega, .inr hj⟩
theorem fr_3 {k t n i : Nat} (hk : k ≤ 6) (hn : pw (k : Int) = n) (ht : t < n) (hi : i < n) : frI 3 (k : Int) (t : Int) (i : Int) = if t ≤ i then ((i - t : Nat) : Int) else ((i + n - t : Nat) : Int) := by
  rw [frI_yes ⟨ft_lit (by decide) hk hn ht, by omega, by rw [hn]; omega⟩, if_neg (by decide), if_neg (by decide), if_pos rfl, hn]
  split <;> split <;> omega
theorem fr_1 {k t n i : Nat} (hk : k ≤ 6) (hn : pw (k : Int) = n) (ht : t < n) (hi : i < n) : frI 1 (k : Int) (t : Int) (i : Int) = if t ≤ i then ((i - t : Nat) : Int) else -1 := by
  rw [frI_yes ⟨ft_lit (by decide) hk hn ht, by omega, by rw [hn]; omega⟩, if_pos rfl]
  split <;> split <;> omega
theorem fr_2 {k t n i : Nat} (hk : k ≤ 6) (hn : pw (k : Int) = n) (ht : t < n) (hi : i < n) : frI 2 (k : Int) (t : Int) (i : Int) = if i + t < n then ((i + t : Nat) : Int) else -1 := by
  rw [frI_yes ⟨ft_lit (by decide) hk hn ht, by omega, by rw [hn]; omega⟩, if_neg (by decide), if_pos rfl, hn]
  split <;> split <;> omega
theorem round_back {k t u n : Nat} (hk : k ≤ 6) (hn : pw (k : Int) = n) (ht : t < n) (hu : u = (n - t) % n) (bs : List Bool) (hl : bs.length = n) :
    trn n (fun i : Nat => frI 3 (k : Int) (u : Int) (i : Int)) (trn n (fun i : Nat => frI 3 (k : Int) (t : Int) (i : Int)) bs) = bs := by
  have hun : u < n := by rw [hu]; exact Nat.mod_lt _ (by omega)
  have hu2 : (t = 0 ∧ u = 0) ∨ (0 < t ∧ u = n - t) := by
    rcases Nat.eq_zero_or_pos t with h | h
    · left; refine ⟨h, ?_⟩; rw [hu, h, Nat.sub_zero, Nat.mod_self]
    · right; refine ⟨h, ?_⟩; rw [hu, Nat.mod_eq_of_lt (by omega)]
  refine bs_ext (by rw [trn_len, trn_len]) fun i hi => ?_
  rw [trn_len, trn_len, hl] at hi
  rw [trn_one (by rw [trn_len, hl]) hi]
  try dsimp only
  rw [fr_3 hk hn hun hi]
  obtain ⟨q, hq, hqn⟩ : ∃ q : Nat, (if u ≤ i then ((i - u : Nat) : Int) else ((i + n - u : Nat) : Int)) = (q : Int) ∧ (if u ≤ i then q = i - u else q = i + n - u) := by
    split
    · exact ⟨_, rfl, rfl⟩
    · exact ⟨_, rfl, rfl⟩
  have hq2 : q < n := by split at hqn <;> omega
  rw [hq, if_pos (by omega), Int.toNat_natCast, trn_one hl hq2]
  try dsimp only
  rw [fr_3 hk hn ht hq2]
  by_cases hc : t ≤ q
  · rw [if_pos hc, if_pos (by omega), Int.toNat_natCast]
    congr 1
    split at hqn <;> omega
  · rw [if_neg hc, if_pos (by omega), Int.toNat_natCast]
    congr 1
    split at hqn <;> omega
theorem left_right {k t n : Nat} (hk : k ≤ 6) (hn : pw (k : Int) = n) (ht : t < n) (bs : List Bool) (hl : bs.length = n) {i : Nat} (hi : i < n) :
    (trn n (fun i : Nat => frI 2 (k : Int) (t : Int) (i : Int)) (trn n (fun i : Nat => frI 1 (k : Int) (t : Int) (i : Int)) bs)).getD i false = (bs.getD i false && decide (i < n - t)) := by
  rw [trn_one (by rw [trn_len, hl]) hi]
  try dsimp only
  rw [fr_2 hk hn ht hi]
  by_cases h : i + t < n
  · rw [if_pos h, if_pos (by omega), Int.toNat_natCast, trn_one hl h]
    try dsimp only
    rw [fr_1 hk hn ht h, if_pos (by omega), if_pos (by omega), Int.toNat_natCast, show i + t - t = i by omega, decide_eq_true (by omega), Bool.and_true]
  · rw [if_neg h, if_neg (by decide), decide_eq_false (by omega), Bool.and_false]
theorem pw_nat : ∀ k : Nat, k ≤ 6 → ∃ n : Nat, pw (k : Int) = n ∧ [1, 2, 4, 8, 16, 32, 64].getD k 0 = n ∧ 0 < n ∧ n ≤ 64
  | 0, _ => ⟨1, rfl, rfl, by decide, by decide⟩
  | 1, _ => ⟨2, rfl, rfl, by decide, by decide⟩
  | 2, _ => ⟨4, rfl, rfl, by decide, by decide⟩
  | 3, _ => ⟨8, rfl, rfl, by decide, by decide⟩
  | 4, _ => ⟨16, rfl, rfl, by decide, by decide⟩
  | 5, _ => ⟨32, rfl, rfl, by decide, by decide⟩
  | 6, _ => ⟨64, rfl, rfl, by decide, by decide⟩
theorem sizes_at (W : World) (T : TypeId) {k n : Nat} (hk : k ≤ 6) (hn : [1, 2, 4, 8, 16, 32, 64].getD k 0 = n) : (W.alloc (Obj.cells #[.int .i64 1, .int .i64 2, .int .i64 4, .int .i64 8, .int .i64 16, .int .i64 32, .int .i64 64] T)).cell? ⟨W.heap.size, k, none⟩ = some (.int .i64 (n : Int)) := by
  obtain rfl | rfl | rfl | rfl | rfl | rfl | rfl : k = 0 ∨ k = 1 ∨ k = 2 ∨ k = 3 ∨ k = 4 ∨ k = 5 ∨ k = 6 := by omega
  all_goals (subst hn; simp [go_sem])
theorem mod_up (x : Int) (n : Nat) (hn : 0 < n) : ∃ (q : Int) (t : Nat), x.tmod n = q ∧ -(n : Int) < q ∧ q < n ∧ (q + n).tmod n = t ∧ (q + n) % n = t ∧ t < n := by
  have h1 : x.tmod n < n := Int.tmod_lt_of_pos _ (by omega)
  have h2 : -(n : Int) < x.tmod n := by
    rcases Int.le_total 0 x with h | h
    · have := Int.emod_nonneg x (b := (n : Int)) (by omega)
      rw [Int.tmod_eq_emod_of_nonneg h]; omega
    · have h3 : (-x).tmod n < n := Int.tmod_lt_of_pos _ (by omega)
      rw [Int.neg_tmod] at h3; omega
  refine ⟨x.tmod n, ((x.tmod n + n) % n).toNat, rfl, h2, h1, ?_, ?_, ?_⟩
  · rw [Int.tmod_eq_emod_of_nonneg (by omega), Int.toNat_of_nonneg (Int.emod_nonneg _ (by omega))]
  · rw [Int.toNat_of_nonneg (Int.emod_nonneg _ (by omega))]
  · have := Int.emod_lt_of_pos (x.tmod n + n) (b := (n : Int)) (by omega)
    have := Int.emod_nonneg (x.tmod n + n) (b := (n : Int)) (by omega)
    omega
end Go.Proofs.Ytejoombhcnldmaa

/- The document's side of layer 18 over the seat's translation: steepleref15.Two, steepleref18.Fits, Was, Bits. -/
namespace Go.Proofs.Ytejoombhcnldmaa
open Go.RowKit

theorem rtwoT (n : Nat) (hn : n ≤ 16) : Ret 26 #[.int .i64 (n : Int)] (.int .i64 ((2 ^ n : Nat) : Int)) := by
  intro W
  go_enter Try.func26, Try.ntmps26
  go_wp2_with fail
  go_loopw [3, 4] (fun v u wr => ∃ j q : Nat, j ≤ n ∧ Hid (q = 2 ^ j) ∧ v = .int .i64 (q : Int) ∧ u = .int .i64 j ∧ W = wr) (fun _ u _ => n - (intOf u).toNat)
  case atStart => exact ⟨0, 1, Nat.zero_le _, (by rfl), rfl, rfl, rfl⟩
  case round =>
    obtain ⟨j, q, hj, HQ, rfl, rfl, rfl⟩ := hrel
    by_cases hlt : j < n
    · have hq : q ≤ 65536 := by rw [HQ.out]; exact Nat.pow_le_pow_right (by decide) (show j ≤ 16 by omega)
      have hw : IntKind.i64.wrap (2 * (q : Int)) = ((2 * q : Nat) : Int) := by rw [IntKind.wrap_i64]; omega
      go_wp2
      exact ⟨⟨j + 1, 2 * q, hlt, (by show _ = _; rw [HQ.out, Nat.pow_succ]; omega), by simp, by simp, by first | rfl | trivial⟩, by simp [intOf]; omega⟩
    · obtain rfl : j = n := by omega
      go_wp2
      go_ret
      exact ⟨by rw [← HQ.out]; rfl, Below.refl _ _⟩
theorem rtwoP (k n : Nat) (hk : k ≤ 6) (hn : pw (k : Int) = n) : Ret 26 #[.int .i64 (k : Int)] (.int .i64 (n : Int)) := by
  have := rtwoT k (by omega)
  unfold pw at hn
  rw [Int.toNat_natCast] at hn
  rw [hn] at this
  exact this
set_option maxHeartbeats 2000000 in
theorem rfits18 (k w s : Int) : Ret 41 #[.int .i64 k, .int .i64 w, .int .i64 s] (.bool (ftB k w s)) := by
  intro W
  obtain ⟨z, hz⟩ : ∃ z, z = ftB k w s := ⟨_, rfl⟩
  rw [← hz]
  by_cases k0 : k < 0
  · have HZ : Hid (z = false) := by show _ = _; rw [hz]; exact decide_eq_false (by omega)
    clear hz
    go_enter Try.func41, Try.ntmps41
    go_wp2
    go_ret
    exact ⟨by rw [HZ.out]; rfl, Below.refl _ _⟩
  · by_cases k3 : 3 < k
    · have HZ : Hid (z = false) := by show _ = _; rw [hz]; exact decide_eq_false (by omega)
      clear hz
      go_enter Try.func41, Try.ntmps41
      go_wp2
      go_ret
      exact ⟨by rw [HZ.out]; rfl, Below.refl _ _⟩
    · by_cases w0 : w < 0
      · have HZ : Hid (z = false) := by show _ = _; rw [hz]; exact decide_eq_false (by omega)
        clear hz
        go_enter Try.func41, Try.ntmps41
        go_wp2
        go_ret
        exact ⟨by rw [HZ.out]; rfl, Below.refl _ _⟩
      · by_cases w6 : 6 < w
        · have HZ : Hid (z = false) := by show _ = _; rw [hz]; exact decide_eq_false (by omega)
          clear hz
          go_enter Try.func41, Try.ntmps41
          go_wp2
          go_ret
          exact ⟨by rw [HZ.out]; rfl, Below.refl _ _⟩
        · by_cases s0 : s < 0
          · have HZ : Hid (z = false) := by show _ = _; rw [hz]; exact decide_eq_false (by omega)
            clear hz
            go_enter Try.func41, Try.ntmps41
            go_wp2
            go_ret
            exact ⟨by rw [HZ.out]; rfl, Below.refl _ _⟩
          · obtain ⟨q, rfl⟩ : ∃ q : Nat, w = (q : Int) := ⟨w.toNat, by omega⟩
            obtain ⟨n, hn, _, _, _⟩ := pw_nat q (by omega)
            have H2 := Hid.mkT (rtwoP q n (by omega) hn)
            have HZ : Hid (z = decide (s < (n : Int) ∧ (k = 0 → s = 0))) := by
              show _ = _
              rw [hz]
              unfold ftB
              rw [hn]
              exact decide_eq_decide.2 (by omega)
            clear hz hn
            go_enter Try.func41, Try.ntmps41
            go_wp2_with (go_at_call 26; refine (H2.out.go _).mono ?_; rintro e w1 ⟨rfl, hb1⟩; have D : Hid (Below W.heap.size W w1) := hb1; clear hb1)
            all_goals
              go_ret
              refine ⟨?_, D.out⟩
              rw [HZ.out]
              simp_all
              try (first | rfl | omega)
/-- Is the bit x what the bit y was? -/
def wsB (k : Int) (n t x y : Nat) : Bool := if k = 2 then decide (y = x + t) else if k = 3 then decide ((y + t) % n = x) else decide (x = y + t)
set_option maxHeartbeats 2000000 in
theorem rwas (k : Int) (q n t x y : Nat) (hq : q ≤ 6) (hn : pw (q : Int) = n) (hx : x ≤ 1000) (hy : y ≤ 1000) (ht : t ≤ 1000) : Ret 32 #[.int .i64 k, .int .i64 (q : Int), .int .i64 (t : Int), .int .i64 (x : Int), .int .i64 (y : Int)] (.bool (wsB k n t x y)) := by
  intro W
  have H2 := Hid.mkT (rtwoP q n hq hn)
  have hn1 := pw_le (w := (q : Int)) (by omega)
  rw [hn] at hn1
  unfold wsB
  by_cases k2 : k = 2
  · rw [if_pos k2]
    subst k2
    have e1 : IntKind.i64.wrap ((x : Int) + (t : Int)) = (x : Int) + (t : Int) := by rw [IntKind.wrap_i64]; omega
    have hz : decide (y = x + t) = ((y : Int) == (x : Int) + (t : Int)) := by rw [Bool.eq_iff_iff]; simp; omega
    rw [hz]
    clear hn hz
    go_enter Try.func32, Try.ntmps32
    go_wp2_with (go_at_call 26; refine (H2.out.go _).mono ?_; rintro e w1 ⟨rfl, hb1⟩)
    go_ret
    exact ⟨rfl, hb1⟩
  · rw [if_neg k2]
    have g2 : (k == 2) = false := by rw [beq_eq_false_iff_ne]; exact k2
    have e1 : IntKind.i64.wrap ((y : Int) + (t : Int)) = (y : Int) + (t : Int) := by rw [IntKind.wrap_i64]; omega
    by_cases k3 : k = 3
    · rw [if_pos k3]
      subst k3
      have hn0 : ¬ (n : Int) = 0 := by omega
      have hn2 : ¬ n = 0 := by omega
      obtain ⟨r, hr⟩ : ∃ r, r = (y + t) % n := ⟨_, rfl⟩
      have m1 : ((y : Int) + (t : Int)).tmod (n : Int) = (r : Int) := by rw [hr, Int.tmod_eq_emod_of_nonneg (by omega), show (y : Int) + (t : Int) = ((y + t : Nat) : Int) by omega]; simp
      have m2 : ((y : Int) + (t : Int)) % (n : Int) = (r : Int) := by rw [hr, show (y : Int) + (t : Int) = ((y + t : Nat) : Int) by omega]; simp
      rw [← hr]
      have hz : decide (r = x) = ((r : Int) == (x : Int)) := by rw [Bool.eq_iff_iff]; simp <;> omega
      rw [hz]
      clear hn hz hr k2
      go_enter Try.func32, Try.ntmps32
      go_wp2_with (go_at_call 26; refine (H2.out.go _).mono ?_; rintro e w1 ⟨rfl, hb1⟩)
      go_ret
      exact ⟨rfl, hb1⟩
    · rw [if_neg k3]
      have g3 : (k == 3) = false := by rw [beq_eq_false_iff_ne]; exact k3
      have hz : decide (x = y + t) = ((x : Int) == (y : Int) + (t : Int)) := by rw [Bool.eq_iff_iff]; simp; omega
      rw [hz]
      clear hn hz k2 k3
      go_enter Try.func32, Try.ntmps32
      go_wp2_with (go_at_call 26; refine (H2.out.go _).mono ?_; rintro e w1 ⟨rfl, hb1⟩)
      go_ret
      exact ⟨rfl, hb1⟩
theorem ws_fr {k : Int} {q n t x y : Nat} (hn : pw (q : Int) = n) (hf : ftB k (q : Int) (t : Int) = true) (hx : x < n) (hy : y < n) : wsB k n t x y = decide (frI k (q : Int) (t : Int) (x : Int) = (y : Int)) := by
  obtain ⟨_, ⟨_, ht⟩, hk⟩ := ftB_true hf
  rw [hn] at ht
  rw [frI_yes ⟨hf, by omega, by rw [hn]; omega⟩, hn]
  unfold wsB
  have ht' : t < n := by omega
  by_cases k1 : k = 1
  · subst k1
    rw [if_neg (by decide), if_neg (by decide), if_pos rfl]
    rw [decide_eq_decide]
    split <;> omega
  · rw [if_neg k1]
    by_cases k2 : k = 2
    · rw [if_pos k2, if_pos k2, decide_eq_decide]
      split <;> omega
    · rw [if_neg k2, if_neg k2]
      by_cases k3 : k = 3
      · rw [if_pos k3, if_pos k3, decide_eq_decide]
        have hm : (y + t) % n = if y + t < n then y + t else y + t - n := by
          split
          · exact Nat.mod_eq_of_lt (by assumption)
          · rw [Nat.mod_eq_sub_mod (by omega), Nat.mod_eq_of_lt (by omega)]
        rw [hm]
        split <;> split <;> omega
      · rw [if_neg k3, if_neg k3, decide_eq_decide]
        omega
theorem frI_neg {k w s i : Int} (h : ¬ 0 ≤ frI k w s i) : frI k w s i = -1 := by
  by_cases hc : ftB k w s = true ∧ 0 ≤ i ∧ i < pw w
  · obtain ⟨_, ⟨h3, h4⟩, _⟩ := ftB_true hc.1
    rw [frI_yes hc] at h ⊢
    split at * <;> (try split at *) <;> (try split at *) <;> omega
  · exact frI_no hc
/-- Bools in memory. -/
def blv (bs : List Bool) : List Value := bs.map fun b => .bool b
theorem blv_snoc (bs : List Bool) (b : Bool) : blv (bs ++ [b]) = blv bs ++ [.bool b] := by simp [blv]
theorem own_bow {w : World} {base : Nat} {T : TypeId} {v : Value} {n : Nat} {bs : List Bool} (hn : bs.length = n) (h : w.ownsRow base T 1 v n (blv bs)) : ∃ a cap, v = .slice a n cap ∧ Bow w a bs := by
  rcases h.2 with ⟨h1, h0⟩ | ⟨g, cap, cur, rfl, _⟩
  · refine ⟨none, 0, ?_, ⟨fun i hi => by omega⟩⟩
    rw [h1, h0]
  · refine ⟨_, cap, rfl, ⟨fun i hi => ?_⟩⟩
    have e1 := h.cellAt i (by omega)
    rw [show (blv bs)[i]? = some (.bool (bs.getD i false)) by simp [blv, List.getD, hi]] at e1
    exact ⟨g, 0, rfl, cell_lt e1, by rw [Nat.zero_add]; exact e1⟩
end Go.Proofs.Ytejoombhcnldmaa
