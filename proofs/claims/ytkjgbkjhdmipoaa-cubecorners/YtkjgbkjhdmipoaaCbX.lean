/- The walk of CubeCorners over the seat's translation: all inputs. -/
import Derived.Test.YtkjgbkjhdmipoaaCbU
import Derived.Test.YtkjgbkjhdmipoaaCbV
import Derived.Test.YtkjgbkjhdmipoaaCbW
namespace Go.Proofs.Ytkjgbkjhdmipoaa
open Go.RowKit
open Cb
open Tw (pm)

theorem logs (n : Int) : ∃ g : Int, Ret 4 #[.int .i64 n] (.int .i64 g) ∧ Ret 5 #[.int .i64 n] (.int .i64 g) := by
  by_cases h : ∃ k : Nat, k ≤ 16 ∧ n = ((2 ^ k : Nat) : Int)
  · obtain ⟨k, hk, e⟩ := h
    have h1 : ∀ j : Nat, j ≤ 16 → n = ((2 ^ j : Nat) : Int) → (k : Int) = (j : Int) := fun j hj e2 => by
      have e3 : 2 ^ k = 2 ^ j := by rw [e] at e2; exact Int.ofNat_inj.1 e2
      rw [(Nat.pow_right_inj (a := 2) (by decide)).1 e3]
    have h2 : (∀ j : Nat, j ≤ 16 → n ≠ ((2 ^ j : Nat) : Int)) → (k : Int) = -1 := fun h => absurd e (h k hk)
    exact ⟨(k : Int), clog_int n _ h1 h2, rlog_int n _ h1 h2⟩
  · have h1 : ∀ j : Nat, j ≤ 16 → n = ((2 ^ j : Nat) : Int) → (-1 : Int) = (j : Int) := fun j hj e2 => absurd ⟨j, hj, e2⟩ h
    exact ⟨-1, clog_int n _ h1 (fun _ => rfl), rlog_int n _ h1 (fun _ => rfl)⟩
theorem mod_place (i : Int) (L : Nat) (h0 : 0 < L) (h64 : L ≤ 64) : ∃ q c0 : Nat, IntKind.i64.wrap (i.tmod (L : Int) + (L : Int)) = (q : Int) ∧ (q : Int).tmod (L : Int) = (c0 : Int) ∧ c0 < L := by
  have hl : i.tmod (L : Int) < (L : Int) := Int.tmod_lt_of_pos i (by omega)
  have hg : -(L : Int) < i.tmod (L : Int) := by
    have h1 := Int.tmod_lt_of_pos (-i) (show (0 : Int) < (L : Int) by omega)
    rw [Int.neg_tmod] at h1
    omega
  refine ⟨(i.tmod (L : Int) + (L : Int)).toNat, (i.tmod (L : Int) + (L : Int)).toNat % L, ?_, ?_, Nat.mod_lt _ h0⟩
  · rw [IntKind.wrap_i64]; omega
  · rw [Int.tmod_eq_emod_of_nonneg (by omega)]; simp
theorem cc_any (l : Int) (a : Option Addr) (cap : Nat) (t : List (Nat × Nat)) (n i : Int) (ht : ltE t) (W : World) (hT : ERow W a t) :
    Calls Try.prog 3 #[.int .i64 l, .slice a t.length cap, .agg #[.int .i64 n, .int .i64 i]] W fun e w' => e = .returned (.bool true) ∧ Below W.heap.size W w' := by
  by_cases h1 : t.length ≤ 64
  · obtain ⟨g, G1, G2⟩ := logs n
    obtain ⟨K, hlg⟩ : ∃ K : Nat, lgz t.length = (K : Int) ∨ (lgz t.length = -1 ∧ K = 0) := by
      rcases lgz_or t.length with e | ⟨k, _, _, e⟩
      · exact ⟨0, .inr ⟨e, rfl⟩⟩
      · exact ⟨k, .inl e⟩
    by_cases hK : K < 1
    · by_cases b1 : n < 1
      · exact cc_a1 l a cap K t n i b1 g ht h1 W hT hK hlg G1 G2 (cor_n n i (.inl b1))
      · by_cases b2 : 16 < n
        · exact cc_b1 l a cap K t n i b2 g ht h1 W hT hK hlg G1 G2 (cor_n n i (.inr b2))
        · obtain ⟨N, rfl⟩ := Int.eq_ofNat_of_zero_le (show 0 ≤ n by omega)
          by_cases b3 : i < 0
          · exact cc_c1 l a cap K t N i (by omega) (by omega) b3 g ht h1 W hT hK hlg G1 G2 (cor_i N i (by omega) (by omega) (.inl b3))
          · by_cases b4 : ((2 ^ N : Nat) : Int) ≤ i
            · exact cc_d1 l a cap K t N (2 ^ N) i (by omega) (by omega) rfl b3 b4 g ht h1 W hT hK hlg G1 G2 (cor_i N i (by omega) (by omega) (.inr b4))
            · obtain ⟨I, rfl⟩ := Int.eq_ofNat_of_zero_le (show 0 ≤ i by omega)
              exact cc_v1 l a cap K t N (2 ^ N) I (by omega) (by omega) rfl (by omega) g ht h1 W hT hK hlg G1 G2
    · by_cases hF : fiE l t [] = 0
      · obtain ⟨k, m, hk, rfl, hm16, hl, ot, _⟩ := fi_zero hF
        have hl' : t.length = 2 ^ m := by simpa using hl
        have hm16' : m ≤ 16 := by simpa using hm16
        have hKm : K = m := by
          rcases hlg with e | ⟨e, _⟩
          · rw [hl', lgz_two m hm16'] at e; omega
          · rw [hl', lgz_two m hm16'] at e; omega
        subst hKm
        have h0 : 0 < t.length := by rw [hl']; exact Nat.two_pow_pos _
        obtain ⟨q, c0, e1, e2, hc0⟩ := mod_place i t.length h0 h1
        obtain ⟨bt, ot', ha, hb, x1, x0⟩ := hT.cells c0 hc0
        have HC2 : ∀ w, Calls Try.prog 7 #[.int .i64 (K : Int), .int .i64 (c0 : Int)] w fun e w' => ∃ g, e = .returned (.slice (some ⟨g, 0, none⟩) K K) ∧ ERow w' (some ⟨g, 0, none⟩) (crn K c0) ∧ Below w.heap.size w w' := fun w => cor_ok K c0 (by omega) hm16' (by omega) w
        have HAt : ∀ (w : World) (g : Nat), Below W.heap.size W w → ERow w (some ⟨g, 0, none⟩) (crn K c0) → Calls Try.prog 11 #[.int .i64 (k : Int), .slice a t.length cap, .slice (some ⟨g, 0, none⟩) K K] w fun e w' => e = .returned (.tuple #[.agg #[.int .u64 ((el t c0).1 : Int), .int .u64 ((el t c0).2 : Int)], .int .i64 0]) ∧ Below w.heap.size w w' := fun w g hb' hE => by
          have := at_ok k hk a (some ⟨g, 0, none⟩) cap K t (crn K c0) ht (crn_lt K c0) (by omega) (by rw [crn_len]; exact hm16') (by rw [crn_len]; exact hl') ot (crn_of k hk K c0) (el t c0) (firsts_crn K c0 t hl' (by omega) ht) w (hT.below hb') hE
          rw [crn_len] at this
          exact this
        by_cases b1 : n < 1
        · exact cc_a3 (k : Int) a cap K t n i b1 g ht h1 W hT hK hF c0 q bt ot' (el t c0) e1 e2 hc0 ⟨hb, x1, x0⟩ ha HC2 HAt hlg G1 G2 (cor_n n i (.inl b1))
        · by_cases b2 : 16 < n
          · exact cc_b3 (k : Int) a cap K t n i b2 g ht h1 W hT hK hF c0 q bt ot' (el t c0) e1 e2 hc0 ⟨hb, x1, x0⟩ ha HC2 HAt hlg G1 G2 (cor_n n i (.inr b2))
          · obtain ⟨N, rfl⟩ := Int.eq_ofNat_of_zero_le (show 0 ≤ n by omega)
            by_cases b3 : i < 0
            · exact cc_c3 (k : Int) a cap K t N i (by omega) (by omega) b3 g ht h1 W hT hK hF c0 q bt ot' (el t c0) e1 e2 hc0 ⟨hb, x1, x0⟩ ha HC2 HAt hlg G1 G2 (cor_i N i (by omega) (by omega) (.inl b3))
            · by_cases b4 : ((2 ^ N : Nat) : Int) ≤ i
              · exact cc_d3 (k : Int) a cap K t N (2 ^ N) i (by omega) (by omega) rfl b3 b4 g ht h1 W hT hK hF c0 q bt ot' (el t c0) e1 e2 hc0 ⟨hb, x1, x0⟩ ha HC2 HAt hlg G1 G2 (cor_i N i (by omega) (by omega) (.inr b4))
              · obtain ⟨I, rfl⟩ := Int.eq_ofNat_of_zero_le (show 0 ≤ i by omega)
                exact cc_v3 (k : Int) a cap K t N (2 ^ N) I (by omega) (by omega) rfl (by omega) g ht h1 W hT hK hF c0 q bt ot' (el t c0) e1 e2 hc0 ⟨hb, x1, x0⟩ ha HC2 HAt hlg G1 G2
      · by_cases b1 : n < 1
        · exact cc_a2 l a cap K t n i b1 g ht h1 W hT hK _ rfl hF hlg G1 G2 (cor_n n i (.inl b1))
        · by_cases b2 : 16 < n
          · exact cc_b2 l a cap K t n i b2 g ht h1 W hT hK _ rfl hF hlg G1 G2 (cor_n n i (.inr b2))
          · obtain ⟨N, rfl⟩ := Int.eq_ofNat_of_zero_le (show 0 ≤ n by omega)
            by_cases b3 : i < 0
            · exact cc_c2 l a cap K t N i (by omega) (by omega) b3 g ht h1 W hT hK _ rfl hF hlg G1 G2 (cor_i N i (by omega) (by omega) (.inl b3))
            · by_cases b4 : ((2 ^ N : Nat) : Int) ≤ i
              · exact cc_d2 l a cap K t N (2 ^ N) i (by omega) (by omega) rfl b3 b4 g ht h1 W hT hK _ rfl hF hlg G1 G2 (cor_i N i (by omega) (by omega) (.inr b4))
              · obtain ⟨I, rfl⟩ := Int.eq_ofNat_of_zero_le (show 0 ≤ i by omega)
                exact cc_v2 l a cap K t N (2 ^ N) I (by omega) (by omega) rfl (by omega) g ht h1 W hT hK _ rfl hF hlg G1 G2
  · exact cc_far l a cap _ n i (by omega) W
end Go.Proofs.Ytkjgbkjhdmipoaa
