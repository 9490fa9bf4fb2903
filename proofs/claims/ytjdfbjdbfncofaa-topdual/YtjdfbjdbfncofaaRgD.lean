/- Contracts of ring.isLevel, allOf, highVars, hindrance, maskHindrance, Value and Batch over the seat's translation. -/
import Derived.Test.YtjdfbjdbfncofaaPIvA
import Derived.Test.YtjdfbjdbfncofaaSlD
namespace Go.Proofs.Ytjdfbjdbfncofaa
open Go.RowKit
open Cb
open Rg
open Tw (pm)

theorem rlev_yes (l : Int) (h : 0 ≤ l ∧ l ≤ 7) : Ret 50 #[.int .i64 l] (.bool true) := by
  intro W
  obtain ⟨h1, h2⟩ := h
  go_enter Try.func50, Try.ntmps50
  go_wp2
  go_ret
  exact ⟨rfl, by first | exact Below.refl _ _ | go_grown⟩
theorem rlev_no (l : Int) (h : ¬ (0 ≤ l ∧ l ≤ 7)) : Ret 50 #[.int .i64 l] (.bool false) := by
  intro W
  rcases Int.lt_or_le l 0 with h1 | h1
  · have h2 : ¬ 0 ≤ l := by omega
    go_enter Try.func50, Try.ntmps50
    go_wp2
    go_ret
    exact ⟨rfl, by first | exact Below.refl _ _ | go_grown⟩
  · have h2 : ¬ l ≤ 7 := by omega
    go_enter Try.func50, Try.ntmps50
    go_wp2
    go_ret
    exact ⟨rfl, by first | exact Below.refl _ _ | go_grown⟩
/-- The error of bits to be packed, and how many variables a high point has. -/
def hvE (l : Int) (n : Nat) : Int := if 0 ≤ l ∧ l ≤ 7 then (if l ≤ lgz n ∧ lgz n ≤ 12 then 0 else 6) else 1
def hvV (l : Int) (n : Nat) : Int := if hvE l n = 0 then lgz n - l else 0
set_option maxHeartbeats 1000000 in
theorem rhv (l : Int) (a : Option Addr) (n cap : Nat) (hn : n < 2 ^ 40) : Ret 31 #[.int .i64 l, .slice a n cap] (.tuple #[.int .i64 (hvV l n), .int .i64 (hvE l n)]) := by
  intro W
  have HC := hidT (clog_any n hn)
  have hlg : lgz n ≤ 16 := by rcases lgz_or n with h | ⟨k, h1, _, h3⟩ <;> omega
  have hlg0 : -1 ≤ lgz n := by rcases lgz_or n with h | ⟨k, h1, _, h3⟩ <;> omega
  by_cases hl : 0 ≤ l ∧ l ≤ 7
  · have HL := hidT (rlev_yes l hl)
    by_cases h1 : l ≤ lgz n ∧ lgz n ≤ 12
    · have e1 : hvE l n = 0 := by unfold hvE; rw [if_pos hl, if_pos h1]
      have e2 : hvV l n = lgz n - l := by unfold hvV; rw [if_pos e1]
      rw [e1, e2]
      clear e1 e2
      obtain ⟨h1, h2⟩ := h1
      obtain ⟨l0, l7⟩ := hl
      generalize lgz n = g at *
      have h1' : ¬ g < l := by omega
      have h2' : ¬ 12 < g := by omega
      have e : IntKind.i64.wrap (g - l) = g - l := by rw [IntKind.wrap_i64]; omega
      go_enter Try.func31, Try.ntmps31
      go_wp2_with (first | (go_at_call 50; refine (HL.out.go _).mono ?_; rintro e w1 ⟨rfl, hb1⟩) | (go_at_call 51; refine (HC.out.go _).mono ?_; rintro e w2 ⟨rfl, hb2⟩))
      refine bodyPost_ret (v := .tuple #[.int .i64 (g - l), .int .i64 0]) (by simp [results, Try.results31, go_sem, *]) rfl ⟨rfl, hb1.trans (hb2.mono hb1.size)⟩
    · have e1 : hvE l n = 6 := by unfold hvE; rw [if_pos hl, if_neg h1]
      have e2 : hvV l n = 0 := by unfold hvV; rw [if_neg (by rw [e1]; decide)]
      rw [e1, e2]
      clear e1 e2
      obtain ⟨l0, l7⟩ := hl
      generalize lgz n = g at *
      by_cases h3 : g < l
      · go_enter Try.func31, Try.ntmps31
        go_wp2_with (first | (go_at_call 50; refine (HL.out.go _).mono ?_; rintro e w1 ⟨rfl, hb1⟩) | (go_at_call 51; refine (HC.out.go _).mono ?_; rintro e w2 ⟨rfl, hb2⟩))
        refine bodyPost_ret (v := .tuple #[.int .i64 0, .int .i64 6]) (by simp [results, Try.results31, go_sem, *]) rfl ⟨rfl, hb1.trans (hb2.mono hb1.size)⟩
      · have h4 : 12 < g := by omega
        clear h1
        go_enter Try.func31, Try.ntmps31
        go_wp2_with (first | (go_at_call 50; refine (HL.out.go _).mono ?_; rintro e w1 ⟨rfl, hb1⟩) | (go_at_call 51; refine (HC.out.go _).mono ?_; rintro e w2 ⟨rfl, hb2⟩))
        refine bodyPost_ret (v := .tuple #[.int .i64 0, .int .i64 6]) (by simp [results, Try.results31, go_sem, *]) rfl ⟨rfl, hb1.trans (hb2.mono hb1.size)⟩
  · have HL := hidT (rlev_no l hl)
    have e1 : hvE l n = 1 := by unfold hvE; rw [if_neg hl]
    have e2 : hvV l n = 0 := by unfold hvV; rw [if_neg (by rw [e1]; decide)]
    rw [e1, e2]
    clear e1 e2
    go_enter Try.func31, Try.ntmps31
    go_wp2_with (go_at_call 50; refine (HL.out.go _).mono ?_; rintro e w1 ⟨rfl, hb1⟩)
    refine bodyPost_ret (v := .tuple #[.int .i64 0, .int .i64 1]) (by simp [results, Try.results31, go_sem, *]) rfl ⟨rfl, hb1⟩
/-- What hinders parts at a point. -/
def rgh (l : Int) (t p : List (Nat × Nat)) : Int := if 0 ≤ l ∧ l ≤ 7 then (if t.length = 2 ^ l.toNat ∧ p.length = l.toNat then (if (t.all fun e => ofB l (e.1 : Int) (e.2 : Int)) = true ∧ (p.all fun e => ofB l (e.1 : Int) (e.2 : Int)) = true then 0 else 5) else 6) else 1
/-- What hinders a mask. -/
def rgm (l : Int) (t p : List (Nat × Nat)) : Int := if 0 ≤ l ∧ l ≤ 7 then (if t.length ≤ 12 ∧ p.length = l.toNat then (if (t.all fun e => ofB l (e.1 : Int) (e.2 : Int)) = true ∧ (p.all fun e => ofB l (e.1 : Int) (e.2 : Int)) = true then 0 else 5) else 6) else 1
theorem rgh_zero {l : Int} {t p : List (Nat × Nat)} (h : rgh l t p = 0) : ∃ k : Nat, k < 8 ∧ l = (k : Int) ∧ t.length = 2 ^ k ∧ p.length = k ∧ ofT k t ∧ ofT k p := by
  unfold rgh at h
  split at h
  · rename_i hl
    obtain ⟨k, rfl⟩ : ∃ k : Nat, l = (k : Int) := ⟨l.toNat, by omega⟩
    rw [Int.toNat_natCast] at h
    split at h
    · rename_i h2
      split at h
      · rename_i h3
        exact ⟨k, by omega, rfl, h2.1, h2.2, all_of.1 h3.1, all_of.1 h3.2⟩
      · exact absurd h (by decide)
    · exact absurd h (by decide)
  · exact absurd h (by decide)
theorem rgh_mk {k : Nat} {t p : List (Nat × Nat)} (hk : k < 8) (h1 : t.length = 2 ^ k) (h2 : p.length = k) (ot : ofT k t) (op : ofT k p) : rgh (k : Int) t p = 0 := by
  unfold rgh
  rw [if_pos (by omega), Int.toNat_natCast, if_pos ⟨h1, h2⟩, if_pos ⟨all_of.2 ot, all_of.2 op⟩]
theorem rgm_zero {l : Int} {t p : List (Nat × Nat)} (h : rgm l t p = 0) : ∃ k : Nat, k < 8 ∧ l = (k : Int) ∧ t.length ≤ 12 ∧ p.length = k ∧ ofT k t ∧ ofT k p := by
  unfold rgm at h
  split at h
  · rename_i hl
    obtain ⟨k, rfl⟩ : ∃ k : Nat, l = (k : Int) := ⟨l.toNat, by omega⟩
    rw [Int.toNat_natCast] at h
    split at h
    · rename_i h2
      split at h
      · rename_i h3
        exact ⟨k, by omega, rfl, h2.1, h2.2, all_of.1 h3.1, all_of.1 h3.2⟩
      · exact absurd h (by decide)
    · exact absurd h (by decide)
  · exact absurd h (by decide)
theorem rgm_mk {k : Nat} {t p : List (Nat × Nat)} (hk : k < 8) (h1 : t.length ≤ 12) (h2 : p.length = k) (ot : ofT k t) (op : ofT k p) : rgm (k : Int) t p = 0 := by
  unfold rgm
  rw [if_pos (by omega), Int.toNat_natCast, if_pos ⟨h1, h2⟩, if_pos ⟨all_of.2 ot, all_of.2 op⟩]
theorem lt_vsum (N : Nat) (ps low : List (Nat × Nat)) : lt2 (vsum N ps low) := lt_xs (fun _ => lt_pm _ _) _
theorem lt_btc (N : Nat) (ps r : List (Nat × Nat)) : lt2 (btc N ps r) := lt_xs (fun _ => lt_pm _ _) _
/-- The sum of products, as a sum. -/
theorem dots_xs (es fs : List (Nat × Nat)) : ∀ j, dots es fs j = xs j fun i => pm (el es i) (el fs i)
  | 0 => rfl
  | j + 1 => by rw [dots_succ, dots_xs es fs j]; rfl
theorem dot_wts {k : Nat} (hk : k < 8) (p ps : List (Nat × Nat)) (N : Nat) (hl : ps.length = N) (op : ofT k p) (os : ofT k ps) : dotv (k : Int) (wts p N) ps = xs N fun v => pm (wt p v) (el ps v) := by
  rw [dotv_rt (by rw [wts_len, hl]) (fun j _ => ⟨(of_wts hk op N).el hk j, os.el hk j⟩), dots_xs, wts_len]
  exact xs_congr N fun v hv => by rw [wts_at p N hv]
theorem Ew.new0R (W w1 : World) (hb1 : Below (W.alloc (Obj.cells #[.int .u64 0, .int .u64 0] 24)).heap.size (W.alloc (Obj.cells #[.int .u64 0, .int .u64 0] 24)) w1) : Ew w1 W.heap.size 0 0 ∧ Below W.heap.size W w1 :=
  ⟨(Ew.roomR W _).below hb1, ((Below.refl _ _).alloc (Nat.le_refl _) _).trans (hb1.mono (by simp))⟩
end Go.Proofs.Ytjdfbjdbfncofaa
