/- Contracts of ring.isLevel, allOf, highVars, hindrance, maskHindrance, Value and Batch over the seat's translation. -/
import Derived.Test.YtbomgcmmfeahiaaRgC
import Derived.Test.YtbomgcmmfeahiaaPSlD
namespace Go.Proofs.Ytbomgcmmfeahiaa
open Go.RowKit
open Cb
open Rg
open Tw (pm)

theorem rlev_yes (l : Int) (h : 0 ≤ l ∧ l ≤ 7) : Ret 48 #[.int .i64 l] (.bool true) := by
  intro W
  obtain ⟨h1, h2⟩ := h
  go_enter Try.func48, Try.ntmps48
  go_wp2
  go_ret
  exact ⟨rfl, by first | exact Below.refl _ _ | go_grown⟩
theorem rlev_no (l : Int) (h : ¬ (0 ≤ l ∧ l ≤ 7)) : Ret 48 #[.int .i64 l] (.bool false) := by
  intro W
  rcases Int.lt_or_le l 0 with h1 | h1
  · have h2 : ¬ 0 ≤ l := by omega
    go_enter Try.func48, Try.ntmps48
    go_wp2
    go_ret
    exact ⟨rfl, by first | exact Below.refl _ _ | go_grown⟩
  · have h2 : ¬ l ≤ 7 := by omega
    go_enter Try.func48, Try.ntmps48
    go_wp2
    go_ret
    exact ⟨rfl, by first | exact Below.refl _ _ | go_grown⟩
set_option maxHeartbeats 2000000 in
/-- Are all elements of a level? -/
theorem rgall (l : Int) (a : Option Addr) (cap : Nat) (es : List (Nat × Nat)) (hes : ltE es) (W : World) (hr : ERow W a es) (h10 : es.length ≤ 100000) :
    Calls Try.prog 31 #[.int .i64 l, .slice a es.length cap] W fun e w' => e = .returned (.bool (es.all fun e => ofB l (e.1 : Int) (e.2 : Int))) ∧ Below W.heap.size W w' := by
  have HR : Hid (ERow W a es) := hr
  have HO : Hid (∀ j : Nat, Ret 52 #[.int .i64 l, .agg #[.int .u64 ((es.getD j (0, 0)).1 : Int), .int .u64 ((es.getD j (0, 0)).2 : Int)]] (.bool (ofB l ((es.getD j (0, 0)).1 : Int) ((es.getD j (0, 0)).2 : Int)))) := fun j => of_ret l _ _ (hes.at j).2
  clear hr hes
  go_enter Try.func31, Try.ntmps31
  go_wp2_with fail
  go_loopw [9] (fun u wr => ∃ j : Nat, j ≤ es.length ∧ u = .int .i64 j ∧ Hid ((es.take j).all (fun e => ofB l (e.1 : Int) (e.2 : Int)) = true) ∧ Below W.heap.size W wr) (fun u _ => es.length - (intOf u).toNat)
  case atStart => exact ⟨0, Nat.zero_le _, rfl, (by rfl), Below.refl _ _⟩
  case round =>
    obtain ⟨j, hj, rfl, HT, hD⟩ := hrel
    by_cases hlt : j < es.length
    · obtain ⟨b, off, rfl, hb, c1, c0⟩ := HR.out.cells j hlt
      have d1 : wr.cell? ⟨b, off + j * 2, none⟩ = some (.int .u64 ((es.getD j (0, 0)).1 : Nat)) := by rw [hD.cell (p := ⟨b, off + j * 2, none⟩) hb]; exact c1
      have d0 : wr.cell? ⟨b, off + j * 2 + 1, none⟩ = some (.int .u64 ((es.getD j (0, 0)).2 : Nat)) := by rw [hD.cell (p := ⟨b, off + j * 2 + 1, none⟩) hb]; exact c0
      have H1 := HO.out j
      have HD : Hid (Below W.heap.size W wr) := hD
      have HS : Hid (es.take (j + 1) = es.take j ++ [es.getD j (0, 0)]) := take_sn es j hlt
      have HM : Hid (es.getD j (0, 0) ∈ es) := by show _ ∈ _; rw [show es.getD j (0, 0) = es[j] by simp [hlt]]; exact List.getElem_mem hlt
      clear hD c1 c0 HR HO
      generalize es.getD j (0, 0) = x at *
      rcases hB : ofB l (x.1 : Int) (x.2 : Int) with _ | _
      · rw [hB] at H1
        go_wp2_with fail
        refine (H1.go _).mono ?_
        rintro e w4 ⟨rfl, hb4⟩
        have HD4 : Hid (Below W.heap.size W w4) := (HD.out.alloc HD.out.size _).trans (hb4.mono (by have := HD.out.size; simp; omega))
        clear hb4 d1 d0 HD
        go_wp2
        go_ret
        refine ⟨?_, HD4.out⟩
        rw [show (es.all fun e => ofB l (e.1 : Int) (e.2 : Int)) = false from by
          rw [List.all_eq_false]; exact ⟨x, HM.out, by rw [hB]; decide⟩]
        rfl
      · rw [hB] at H1
        go_wp2_with fail
        refine (H1.go _).mono ?_
        rintro e w4 ⟨rfl, hb4⟩
        have HD4 : Hid (Below W.heap.size W w4) := (HD.out.alloc HD.out.size _).trans (hb4.mono (by have := HD.out.size; simp; omega))
        clear hb4 d1 d0 HD
        go_wp2
        exact ⟨⟨j + 1, hlt, by simp, (by show _ = _; rw [HS.out, List.all_append, HT.out]; simp [hB]), HD4.out⟩, by simp [intOf]; omega⟩
    · have HD : Hid (Below W.heap.size W wr) := hD
      obtain rfl : j = es.length := by omega
      clear hD
      go_wp2
      go_ret
      refine ⟨?_, HD.out⟩
      have := HT.out
      rw [List.take_of_length_le (Nat.le_refl _)] at this
      rw [this]
      rfl
/-- The error of bits to be packed, and how many variables a high point has. -/
def hvE (l : Int) (n : Nat) : Int := if 0 ≤ l ∧ l ≤ 7 then (if l ≤ lgz n ∧ lgz n ≤ 12 then 0 else 6) else 1
def hvV (l : Int) (n : Nat) : Int := if hvE l n = 0 then lgz n - l else 0
set_option maxHeartbeats 1000000 in
theorem rhv (l : Int) (a : Option Addr) (n cap : Nat) (hn : n < 2 ^ 40) : Ret 29 #[.int .i64 l, .slice a n cap] (.tuple #[.int .i64 (hvV l n), .int .i64 (hvE l n)]) := by
  intro W
  have HC := hidT (clog_any n hn)
  have hlg : lgz n ≤ 16 := by rcases lgz_or n with h | ⟨k, h1, _, h3⟩ <;> omega
  have hlg0 : -1 ≤ lgz n := by rcases lgz_or n with h | ⟨k, h1, _, h3⟩ <;> omega
  by_cases hl : 0 ≤ l ∧ l ≤ 7
  · have HL := hidT (rlev_yes l hl)
    by_cases h1 : l ≤ lgz n ∧ lgz n ≤ 12
    · have e1 : hvE l n = 0 := by unfold hvE; rw [if_pos hl, if_pos h1]
      have e2 : hvV l n = lgz n - l := by unfold hvV; rw [if_pos e1]
      rw [e1, e2]
      clear e1 e2
      obtain ⟨h1, h2⟩ := h1
      obtain ⟨l0, l7⟩ := hl
      generalize lgz n = g at *
      have h1' : ¬ g < l := by omega
      have h2' : ¬ 12 < g := by omega
      have e : IntKind.i64.wrap (g - l) = g - l := by rw [IntKind.wrap_i64]; omega
      go_enter Try.func29, Try.ntmps29
      go_wp2_with (first | (go_at_call 48; refine (HL.out.go _).mono ?_; rintro e w1 ⟨rfl, hb1⟩) | (go_at_call 49; refine (HC.out.go _).mono ?_; rintro e w2 ⟨rfl, hb2⟩))
      refine bodyPost_ret (v := .tuple #[.int .i64 (g - l), .int .i64 0]) (by simp [results, Try.results29, go_sem, *]) rfl ⟨rfl, hb1.trans (hb2.mono hb1.size)⟩
    · have e1 : hvE l n = 6 := by unfold hvE; rw [if_pos hl, if_neg h1]
      have e2 : hvV l n = 0 := by unfold hvV; rw [if_neg (by rw [e1]; decide)]
      rw [e1, e2]
      clear e1 e2
      obtain ⟨l0, l7⟩ := hl
      generalize lgz n = g at *
      by_cases h3 : g < l
      · go_enter Try.func29, Try.ntmps29
        go_wp2_with (first | (go_at_call 48; refine (HL.out.go _).mono ?_; rintro e w1 ⟨rfl, hb1⟩) | (go_at_call 49; refine (HC.out.go _).mono ?_; rintro e w2 ⟨rfl, hb2⟩))
        refine bodyPost_ret (v := .tuple #[.int .i64 0, .int .i64 6]) (by simp [results, Try.results29, go_sem, *]) rfl ⟨rfl, hb1.trans (hb2.mono hb1.size)⟩
      · have h4 : 12 < g := by omega
        clear h1
        go_enter Try.func29, Try.ntmps29
        go_wp2_with (first | (go_at_call 48; refine (HL.out.go _).mono ?_; rintro e w1 ⟨rfl, hb1⟩) | (go_at_call 49; refine (HC.out.go _).mono ?_; rintro e w2 ⟨rfl, hb2⟩))
        refine bodyPost_ret (v := .tuple #[.int .i64 0, .int .i64 6]) (by simp [results, Try.results29, go_sem, *]) rfl ⟨rfl, hb1.trans (hb2.mono hb1.size)⟩
  · have HL := hidT (rlev_no l hl)
    have e1 : hvE l n = 1 := by unfold hvE; rw [if_neg hl]
    have e2 : hvV l n = 0 := by unfold hvV; rw [if_neg (by rw [e1]; decide)]
    rw [e1, e2]
    clear e1 e2
    go_enter Try.func29, Try.ntmps29
    go_wp2_with (go_at_call 48; refine (HL.out.go _).mono ?_; rintro e w1 ⟨rfl, hb1⟩)
    refine bodyPost_ret (v := .tuple #[.int .i64 0, .int .i64 1]) (by simp [results, Try.results29, go_sem, *]) rfl ⟨rfl, hb1⟩
/-- What hinders parts at a point. -/
def rgh (l : Int) (t p : List (Nat × Nat)) : Int := if 0 ≤ l ∧ l ≤ 7 then (if t.length = 2 ^ l.toNat ∧ p.length = l.toNat then (if (t.all fun e => ofB l (e.1 : Int) (e.2 : Int)) = true ∧ (p.all fun e => ofB l (e.1 : Int) (e.2 : Int)) = true then 0 else 5) else 6) else 1
/-- What hinders a mask. -/
def rgm (l : Int) (t p : List (Nat × Nat)) : Int := if 0 ≤ l ∧ l ≤ 7 then (if t.length ≤ 12 ∧ p.length = l.toNat then (if (t.all fun e => ofB l (e.1 : Int) (e.2 : Int)) = true ∧ (p.all fun e => ofB l (e.1 : Int) (e.2 : Int)) = true then 0 else 5) else 6) else 1
theorem rgh_zero {l : Int} {t p : List (Nat × Nat)} (h : rgh l t p = 0) : ∃ k : Nat, k < 8 ∧ l = (k : Int) ∧ t.length = 2 ^ k ∧ p.length = k ∧ ofT k t ∧ ofT k p := by
  unfold rgh at h
  split at h
  · rename_i hl
    obtain ⟨k, rfl⟩ : ∃ k : Nat, l = (k : Int) := ⟨l.toNat, by omega⟩
    rw [Int.toNat_natCast] at h
    split at h
    · rename_i h2
      split at h
      · rename_i h3
        exact ⟨k, by omega, rfl, h2.1, h2.2, all_of.1 h3.1, all_of.1 h3.2⟩
      · exact absurd h (by decide)
    · exact absurd h (by decide)
  · exact absurd h (by decide)
theorem rgh_mk {k : Nat} {t p : List (Nat × Nat)} (hk : k < 8) (h1 : t.length = 2 ^ k) (h2 : p.length = k) (ot : ofT k t) (op : ofT k p) : rgh (k : Int) t p = 0 := by
  unfold rgh
  rw [if_pos (by omega), Int.toNat_natCast, if_pos ⟨h1, h2⟩, if_pos ⟨all_of.2 ot, all_of.2 op⟩]
theorem rgm_zero {l : Int} {t p : List (Nat × Nat)} (h : rgm l t p = 0) : ∃ k : Nat, k < 8 ∧ l = (k : Int) ∧ t.length ≤ 12 ∧ p.length = k ∧ ofT k t ∧ ofT k p := by
  unfold rgm at h
  split at h
  · rename_i hl
    obtain ⟨k, rfl⟩ : ∃ k : Nat, l = (k : Int) := ⟨l.toNat, by omega⟩
    rw [Int.toNat_natCast] at h
    split at h
    · rename_i h2
      split at h
      · rename_i h3
        exact ⟨k, by omega, rfl, h2.1, h2.2, all_of.1 h3.1, all_of.1 h3.2⟩
      · exact absurd h (by decide)
    · exact absurd h (by decide)
  · exact absurd h (by decide)
theorem rgm_mk {k : Nat} {t p : List (Nat × Nat)} (hk : k < 8) (h1 : t.length ≤ 12) (h2 : p.length = k) (ot : ofT k t) (op : ofT k p) : rgm (k : Int) t p = 0 := by
  unfold rgm
  rw [if_pos (by omega), Int.toNat_natCast, if_pos ⟨h1, h2⟩, if_pos ⟨all_of.2 ot, all_of.2 op⟩]
set_option maxHeartbeats 2000000 in
theorem rhind (l : Int) (a c : Option Addr) (cap cap2 : Nat) (t p : List (Nat × Nat)) (ht : ltE t) (hp : ltE p) (h1 : t.length ≤ 100000) (h2 : p.length ≤ 100000) (W : World) (ha : ERow W a t) (hc : ERow W c p) :
    Calls Try.prog 39 #[.int .i64 l, .slice a t.length cap, .slice c p.length cap2] W fun e w' => e = .returned (.int .i64 (rgh l t p)) ∧ Below W.heap.size W w' := by
  have HA : Hid (∀ w, Below W.heap.size W w → Calls Try.prog 31 #[.int .i64 l, .slice a t.length cap] w fun e w' => e = .returned (.bool (t.all fun e => ofB l (e.1 : Int) (e.2 : Int))) ∧ Below w.heap.size w w') := fun w hb => rgall l a cap t ht w (ha.below hb) h1
  have HC : Hid (∀ w, Below W.heap.size W w → Calls Try.prog 31 #[.int .i64 l, .slice c p.length cap2] w fun e w' => e = .returned (.bool (p.all fun e => ofB l (e.1 : Int) (e.2 : Int))) ∧ Below w.heap.size w w') := fun w hb => rgall l c cap2 p hp w (hc.below hb) h2
  unfold rgh
  clear ha hc ht hp
  generalize (t.all fun e => ofB l (e.1 : Int) (e.2 : Int)) = x at *
  generalize (p.all fun e => ofB l (e.1 : Int) (e.2 : Int)) = y at *
  generalize t.length = s at *
  generalize p.length = q at *
  by_cases hl : 0 ≤ l ∧ l ≤ 7
  · have HL := hidT (rlev_yes l hl)
    rw [if_pos hl]
    obtain ⟨k, rfl⟩ : ∃ k : Nat, l = (k : Int) := ⟨l.toNat, by omega⟩
    rw [Int.toNat_natCast]
    have hk0 : ¬ (k : Int) < 0 := by omega
    obtain ⟨N, hN⟩ : ∃ N, N = 2 ^ k := ⟨_, rfl⟩
    have hN2 : N ≤ 128 := by rw [hN]; exact Nat.le_trans (Nat.pow_le_pow_right (by decide) (show k ≤ 7 by omega)) (by decide)
    have hsh : IntKind.i64.wrap ((2 : Int) ^ k) = (N : Int) := by
      rw [IntKind.wrap_i64, show (2 : Int) ^ k = ((2 ^ k : Nat) : Int) by simp, ← hN]; omega
    rw [← hN]
    clear hN
    by_cases hs : s = N
    · subst hs
      by_cases hq : q = k
      · subst hq
        rw [if_pos ⟨rfl, rfl⟩]
        cases x
        · rw [if_neg (by rintro ⟨h, _⟩; cases h)]
          go_enter Try.func39, Try.ntmps39
          go_wp2_with (first | (go_at_call 48; refine (HL.out.go _).mono ?_; rintro e w1 ⟨rfl, hb1⟩) | (go_at_call 31; refine (HA.out _ hb1).mono ?_; rintro e w2 ⟨rfl, hb2⟩))
          go_ret
          exact ⟨rfl, hb1.trans (hb2.mono hb1.size)⟩
        · cases y
          · rw [if_neg (by rintro ⟨_, h⟩; cases h)]
            go_enter Try.func39, Try.ntmps39
            go_wp2_with (first | (go_at_call 48; refine (HL.out.go _).mono ?_; rintro e w1 ⟨rfl, hb1⟩) | (go_at_call_of 31 (#[.int .i64 (q : Int), .slice a s cap] : Array Value); refine (HA.out _ hb1).mono ?_; rintro e w2 ⟨rfl, hb2⟩; have hb := hb1.trans (hb2.mono hb1.size); clear HA) | (go_at_call 31; refine (HC.out _ hb).mono ?_; rintro e w3 ⟨rfl, hb3⟩))
            go_ret
            exact ⟨rfl, hb.trans (hb3.mono hb.size)⟩
          · rw [if_pos ⟨rfl, rfl⟩]
            go_enter Try.func39, Try.ntmps39
            go_wp2_with (first | (go_at_call 48; refine (HL.out.go _).mono ?_; rintro e w1 ⟨rfl, hb1⟩) | (go_at_call_of 31 (#[.int .i64 (q : Int), .slice a s cap] : Array Value); refine (HA.out _ hb1).mono ?_; rintro e w2 ⟨rfl, hb2⟩; have hb := hb1.trans (hb2.mono hb1.size); clear HA) | (go_at_call 31; refine (HC.out _ hb).mono ?_; rintro e w3 ⟨rfl, hb3⟩))
            go_ret
            exact ⟨rfl, hb.trans (hb3.mono hb.size)⟩
      · have hq' : ¬ (q : Int) = (k : Int) := by omega
        have hd : (decide ((12 : Int) < (s : Int)) || (q : Int) != (k : Int)) = true := by rw [Bool.or_eq_true]; right; simpa using hq'
        rw [if_neg (fun h => hq h.2)]
        go_enter Try.func39, Try.ntmps39
        go_wp2_with (go_at_call 48; refine (HL.out.go _).mono ?_; rintro e w1 ⟨rfl, hb1⟩)
        go_ret
        exact ⟨rfl, hb1⟩
    · have hs2 : ¬ (s : Int) = (N : Int) := by omega
      rw [if_neg (fun h => hs h.1)]
      go_enter Try.func39, Try.ntmps39
      go_wp2_with (go_at_call 48; refine (HL.out.go _).mono ?_; rintro e w1 ⟨rfl, hb1⟩)
      go_ret
      exact ⟨rfl, hb1⟩
  · have HL := hidT (rlev_no l hl)
    rw [if_neg hl]
    go_enter Try.func39, Try.ntmps39
    go_wp2_with (go_at_call 48; refine (HL.out.go _).mono ?_; rintro e w1 ⟨rfl, hb1⟩)
    go_ret
    exact ⟨rfl, hb1⟩
set_option maxHeartbeats 2000000 in
theorem rmhind (l : Int) (a c : Option Addr) (cap cap2 : Nat) (t p : List (Nat × Nat)) (ht : ltE t) (hp : ltE p) (h1 : t.length ≤ 100000) (h2 : p.length ≤ 100000) (W : World) (ha : ERow W a t) (hc : ERow W c p) :
    Calls Try.prog 44 #[.int .i64 l, .slice a t.length cap, .slice c p.length cap2] W fun e w' => e = .returned (.int .i64 (rgm l t p)) ∧ Below W.heap.size W w' := by
  have HA : Hid (∀ w, Below W.heap.size W w → Calls Try.prog 31 #[.int .i64 l, .slice a t.length cap] w fun e w' => e = .returned (.bool (t.all fun e => ofB l (e.1 : Int) (e.2 : Int))) ∧ Below w.heap.size w w') := fun w hb => rgall l a cap t ht w (ha.below hb) h1
  have HC : Hid (∀ w, Below W.heap.size W w → Calls Try.prog 31 #[.int .i64 l, .slice c p.length cap2] w fun e w' => e = .returned (.bool (p.all fun e => ofB l (e.1 : Int) (e.2 : Int))) ∧ Below w.heap.size w w') := fun w hb => rgall l c cap2 p hp w (hc.below hb) h2
  unfold rgm
  clear ha hc ht hp
  generalize (t.all fun e => ofB l (e.1 : Int) (e.2 : Int)) = x at *
  generalize (p.all fun e => ofB l (e.1 : Int) (e.2 : Int)) = y at *
  generalize t.length = s at *
  generalize p.length = q at *
  by_cases hl : 0 ≤ l ∧ l ≤ 7
  · have HL := hidT (rlev_yes l hl)
    rw [if_pos hl]
    obtain ⟨k, rfl⟩ : ∃ k : Nat, l = (k : Int) := ⟨l.toNat, by omega⟩
    rw [Int.toNat_natCast]
    have hk0 : ¬ (k : Int) < 0 := by omega
    by_cases hs : s ≤ 12
    · have hs' : ¬ 12 < (s : Int) := by omega
      by_cases hq : q = k
      · subst hq
        rw [if_pos ⟨hs, rfl⟩]
        cases x
        · rw [if_neg (by rintro ⟨h, _⟩; cases h)]
          go_enter Try.func44, Try.ntmps44
          go_wp2_with (first | (go_at_call 48; refine (HL.out.go _).mono ?_; rintro e w1 ⟨rfl, hb1⟩) | (go_at_call 31; refine (HA.out _ hb1).mono ?_; rintro e w2 ⟨rfl, hb2⟩))
          go_ret
          exact ⟨rfl, hb1.trans (hb2.mono hb1.size)⟩
        · cases y
          · rw [if_neg (by rintro ⟨_, h⟩; cases h)]
            go_enter Try.func44, Try.ntmps44
            go_wp2_with (first | (go_at_call 48; refine (HL.out.go _).mono ?_; rintro e w1 ⟨rfl, hb1⟩) | (go_at_call_of 31 (#[.int .i64 (q : Int), .slice a s cap] : Array Value); refine (HA.out _ hb1).mono ?_; rintro e w2 ⟨rfl, hb2⟩; have hb := hb1.trans (hb2.mono hb1.size); clear HA) | (go_at_call 31; refine (HC.out _ hb).mono ?_; rintro e w3 ⟨rfl, hb3⟩))
            go_ret
            exact ⟨rfl, hb.trans (hb3.mono hb.size)⟩
          · rw [if_pos ⟨rfl, rfl⟩]
            go_enter Try.func44, Try.ntmps44
            go_wp2_with (first | (go_at_call 48; refine (HL.out.go _).mono ?_; rintro e w1 ⟨rfl, hb1⟩) | (go_at_call_of 31 (#[.int .i64 (q : Int), .slice a s cap] : Array Value); refine (HA.out _ hb1).mono ?_; rintro e w2 ⟨rfl, hb2⟩; have hb := hb1.trans (hb2.mono hb1.size); clear HA) | (go_at_call 31; refine (HC.out _ hb).mono ?_; rintro e w3 ⟨rfl, hb3⟩))
            go_ret
            exact ⟨rfl, hb.trans (hb3.mono hb.size)⟩
      · have hq' : ¬ (q : Int) = (k : Int) := by omega
        have hd : (decide ((12 : Int) < (s : Int)) || (q : Int) != (k : Int)) = true := by rw [Bool.or_eq_true]; right; simpa using hq'
        rw [if_neg (fun h => hq h.2)]
        go_enter Try.func44, Try.ntmps44
        go_wp2_with (go_at_call 48; refine (HL.out.go _).mono ?_; rintro e w1 ⟨rfl, hb1⟩)
        go_ret
        exact ⟨rfl, hb1⟩
    · have hs2 : 12 < (s : Int) := by omega
      rw [if_neg (fun h => hs h.1)]
      go_enter Try.func44, Try.ntmps44
      go_wp2_with (go_at_call 48; refine (HL.out.go _).mono ?_; rintro e w1 ⟨rfl, hb1⟩)
      go_ret
      exact ⟨rfl, hb1⟩
  · have HL := hidT (rlev_no l hl)
    rw [if_neg hl]
    go_enter Try.func44, Try.ntmps44
    go_wp2_with (go_at_call 48; refine (HL.out.go _).mono ?_; rintro e w1 ⟨rfl, hb1⟩)
    go_ret
    exact ⟨rfl, hb1⟩
theorem lt_vsum (N : Nat) (ps low : List (Nat × Nat)) : lt2 (vsum N ps low) := lt_xs (fun _ => lt_pm _ _) _
theorem lt_btc (N : Nat) (ps r : List (Nat × Nat)) : lt2 (btc N ps r) := lt_xs (fun _ => lt_pm _ _) _
/-- The sum of products, as a sum. -/
theorem dots_xs (es fs : List (Nat × Nat)) : ∀ j, dots es fs j = xs j fun i => pm (el es i) (el fs i)
  | 0 => rfl
  | j + 1 => by rw [dots_succ, dots_xs es fs j]; rfl
theorem dot_wts {k : Nat} (hk : k < 8) (p ps : List (Nat × Nat)) (N : Nat) (hl : ps.length = N) (op : ofT k p) (os : ofT k ps) : dotv (k : Int) (wts p N) ps = xs N fun v => pm (wt p v) (el ps v) := by
  rw [dotv_rt (by rw [wts_len, hl]) (fun j _ => ⟨(of_wts hk op N).el hk j, os.el hk j⟩), dots_xs, wts_len]
  exact xs_congr N fun v hv => by rw [wts_at p N hv]
theorem Ew.new0R (W w1 : World) (hb1 : Below (W.alloc (Obj.cells #[.int .u64 0, .int .u64 0] 42)).heap.size (W.alloc (Obj.cells #[.int .u64 0, .int .u64 0] 42)) w1) : Ew w1 W.heap.size 0 0 ∧ Below W.heap.size W w1 :=
  ⟨(Ew.roomR W _).below hb1, ((Below.refl _ _).alloc (Nat.le_refl _) _).trans (hb1.mono (by simp))⟩
set_option maxHeartbeats 4000000 in
theorem rval_err (l : Int) (a c : Option Addr) (cap cap2 : Nat) (t p : List (Nat × Nat)) (ht : ltE t) (hp : ltE p) (h1 : t.length ≤ 1000) (h2 : p.length ≤ 1000) (E : Int) (hE : rgh l t p = E) (h0 : ¬ E = 0) (W : World) (ha : ERow W a t) (hc : ERow W c p) :
    Calls Try.prog 19 #[.int .i64 l, .slice a t.length cap, .slice c p.length cap2] W fun e w' => e = .returned (.tuple #[.agg #[.int .u64 0, .int .u64 0], .int .i64 E]) ∧ Below W.heap.size W w' := by
  have HH : Hid (∀ w, Below W.heap.size W w → Calls Try.prog 39 #[.int .i64 l, .slice a t.length cap, .slice c p.length cap2] w fun e w' => e = .returned (.int .i64 E) ∧ Below w.heap.size w w') := fun w hb => by
    have := rhind l a c cap cap2 t p ht hp (by omega) (by omega) w (ha.below hb) (hc.below hb)
    rw [hE] at this
    exact this
  clear ha hc ht hp h1 h2 hE
  go_enter Try.func19, Try.ntmps19
  go_wp2_with (go_at_call 39; refine (HH.out _ ((Below.refl _ _).alloc (Nat.le_refl _) _)).mono ?_; rintro e w1 ⟨rfl, hb1⟩; have K := hidT (Ew.new0R W w1 hb1); clear hb1; obtain ⟨⟨r1, r0⟩, t1, t0⟩ := K.out.1)
  refine bodyPost_ret (v := .tuple #[.agg #[.int .u64 0, .int .u64 0], .int .i64 E]) (by simp [results, Try.results19, go_sem, *]) rfl ⟨rfl, ?_⟩
  exact below2 (p := W.heap.size) K.out.2 (Nat.le_refl _) _ _
set_option maxHeartbeats 4000000 in
theorem rval_ok (k : Nat) (hk : k < 8) (a c : Option Addr) (cap cap2 N : Nat) (t p : List (Nat × Nat)) (ht : ltE t) (hp : ltE p) (h1 : t.length = N) (hN : N = 2 ^ k) (h2 : p.length = k) (ot : ofT k t) (op : ofT k p) (v : Nat × Nat) (hv : vsum N t p = v) (W : World) (ha : ERow W a t) (hc : ERow W c p) :
    Calls Try.prog 19 #[.int .i64 (k : Int), .slice a N cap, .slice c k cap2] W fun e w' => e = .returned (.tuple #[.agg #[.int .u64 (v.1 : Int), .int .u64 (v.2 : Int)], .int .i64 0]) ∧ Below W.heap.size W w' := by
  have hN1 : N ≤ 128 := by rw [hN]; exact Nat.le_trans (Nat.pow_le_pow_right (by decide) (show k ≤ 7 by omega)) (by decide)
  have HH : Hid (∀ w, Below W.heap.size W w → Calls Try.prog 39 #[.int .i64 (k : Int), .slice a N cap, .slice c k cap2] w fun e w' => e = .returned (.int .i64 0) ∧ Below w.heap.size w w') := fun w hb => by
    have := rhind (k : Int) a c cap cap2 t p ht hp (by omega) (by omega) w (ha.below hb) (hc.below hb)
    rw [rgh_mk hk (by rw [h1, hN]) h2 ot op, h1, h2] at this
    exact this
  have HW : Hid (∀ w, Below W.heap.size W w → Calls Try.prog 32 #[.int .i64 (k : Int), .slice c k cap2] w fun e w' => ∃ g cp, e = .returned (.slice (some ⟨g, 0, none⟩) N cp) ∧ ERow w' (some ⟨g, 0, none⟩) (wts p N) ∧ Below w.heap.size w w') := fun w hb => by
    refine (cwts k hk c cap2 k N p hp h2 (by omega) hN.symm op w (hc.below hb)).mono ?_
    rintro e w' ⟨g, cp, rfl, h3, h4⟩
    refine ⟨g, cp, rfl, ?_, h4⟩
    obtain ⟨a', cap', e', h5⟩ := own_row (es := wts p N) (by rw [wts_len]; exact h3)
    injection e' with e1
    rw [e1]; exact h5
  have HD : Hid (∀ (w : World) (g cp : Nat), Below W.heap.size W w → ERow w (some ⟨g, 0, none⟩) (wts p N) → Calls Try.prog 40 #[.int .i64 (k : Int), .slice (some ⟨g, 0, none⟩) N cp, .slice a N cap] w fun e w' => e = .returned (.agg #[.int .u64 (v.1 : Int), .int .u64 (v.2 : Int)]) ∧ Below w.heap.size w w') := fun w g cp hb h3 => by
    have := dot_any (k : Int) (some ⟨g, 0, none⟩) a cp cap (wts p N) t (lt_wts p N) ht (by rw [wts_len]; omega) w h3 (ha.below hb)
    rw [dot_wts hk p t N h1 op ot, wts_len, h1] at this
    rw [show (xs N fun v => pm (wt p v) (el t v)) = v from hv] at this
    exact this
  clear ha hc ht hp h1 h2 ot op hv hN
  go_enter Try.func19, Try.ntmps19
  go_wp2_with (first
    | (go_at_call 39; refine (HH.out _ ((Below.refl _ _).alloc (Nat.le_refl _) _)).mono ?_; rintro e w1 ⟨rfl, hb1⟩; have K1 := hidT (Ew.new0R W w1 hb1); clear hb1)
    | (go_at_call 32; refine (HW.out _ K1.out.2).mono ?_; rintro e w3 ⟨g3, cp3, rfl, hr3, hb3⟩; have K3 : Hid (Ew w3 W.heap.size 0 0 ∧ Below W.heap.size W w3 ∧ ERow w3 (some ⟨g3, 0, none⟩) (wts p N)) := ⟨K1.out.1.below hb3, K1.out.2.trans (hb3.mono K1.out.2.size), hr3⟩; clear hb3 hr3 K1)
    | (go_at_call 40; refine (HD.out _ _ _ K3.out.2.1 K3.out.2.2).mono ?_; rintro e w4 ⟨rfl, hb4⟩; have K4 : Hid (Ew w4 W.heap.size 0 0 ∧ Below W.heap.size W w4) := ⟨K3.out.1.below hb4, K3.out.2.1.trans (hb4.mono K3.out.2.1.size)⟩; clear hb4 K3; obtain ⟨⟨r1, r0⟩, t1, t0⟩ := K4.out.1))
  refine bodyPost_ret (v := .tuple #[.agg #[.int .u64 (v.1 : Int), .int .u64 (v.2 : Int)], .int .i64 0]) (by simp [results, Try.results19, go_sem, *]) rfl ⟨rfl, ?_⟩
  exact below2 (p := W.heap.size) K4.out.2 (Nat.le_refl _) _ _
set_option maxHeartbeats 4000000 in
theorem rbat_err (l : Int) (a c : Option Addr) (cap cap2 : Nat) (t p : List (Nat × Nat)) (ht : ltE t) (hp : ltE p) (h1 : t.length ≤ 1000) (h2 : p.length ≤ 1000) (E : Int) (hE : rgh l t p = E) (h0 : ¬ E = 0) (W : World) (ha : ERow W a t) (hc : ERow W c p) :
    Calls Try.prog 22 #[.int .i64 l, .slice a t.length cap, .slice c p.length cap2] W fun e w' => e = .returned (.tuple #[.agg #[.int .u64 0, .int .u64 0], .int .i64 E]) ∧ Below W.heap.size W w' := by
  have HH : Hid (∀ w, Below W.heap.size W w → Calls Try.prog 39 #[.int .i64 l, .slice a t.length cap, .slice c p.length cap2] w fun e w' => e = .returned (.int .i64 E) ∧ Below w.heap.size w w') := fun w hb => by
    have := rhind l a c cap cap2 t p ht hp (by omega) (by omega) w (ha.below hb) (hc.below hb)
    rw [hE] at this
    exact this
  clear ha hc ht hp h1 h2 hE
  go_enter Try.func22, Try.ntmps22
  go_wp2_with (go_at_call 39; refine (HH.out _ ((Below.refl _ _).alloc (Nat.le_refl _) _)).mono ?_; rintro e w1 ⟨rfl, hb1⟩; have K := hidT (Ew.new0R W w1 hb1); clear hb1; obtain ⟨⟨r1, r0⟩, t1, t0⟩ := K.out.1)
  refine bodyPost_ret (v := .tuple #[.agg #[.int .u64 0, .int .u64 0], .int .i64 E]) (by simp [results, Try.results22, go_sem, *]) rfl ⟨rfl, ?_⟩
  exact below2 (p := W.heap.size) K.out.2 (Nat.le_refl _) _ _
set_option maxHeartbeats 4000000 in
theorem rbat_ok (k : Nat) (hk : k < 8) (a c : Option Addr) (cap cap2 N : Nat) (t p : List (Nat × Nat)) (ht : ltE t) (hp : ltE p) (h1 : t.length = N) (hN : N = 2 ^ k) (h2 : p.length = k) (ot : ofT k t) (op : ofT k p) (v : Nat × Nat) (hv : btc N t p = v) (W : World) (ha : ERow W a t) (hc : ERow W c p) :
    Calls Try.prog 22 #[.int .i64 (k : Int), .slice a N cap, .slice c k cap2] W fun e w' => e = .returned (.tuple #[.agg #[.int .u64 (v.1 : Int), .int .u64 (v.2 : Int)], .int .i64 0]) ∧ Below W.heap.size W w' := by
  have hN1 : N ≤ 128 := by rw [hN]; exact Nat.le_trans (Nat.pow_le_pow_right (by decide) (show k ≤ 7 by omega)) (by decide)
  have HH : Hid (∀ w, Below W.heap.size W w → Calls Try.prog 39 #[.int .i64 (k : Int), .slice a N cap, .slice c k cap2] w fun e w' => e = .returned (.int .i64 0) ∧ Below w.heap.size w w') := fun w hb => by
    have := rhind (k : Int) a c cap cap2 t p ht hp (by omega) (by omega) w (ha.below hb) (hc.below hb)
    rw [rgh_mk hk (by rw [h1, hN]) h2 ot op, h1, h2] at this
    exact this
  have HW : Hid (∀ w, Below W.heap.size W w → Calls Try.prog 32 #[.int .i64 (k : Int), .slice c k cap2] w fun e w' => ∃ g cp, e = .returned (.slice (some ⟨g, 0, none⟩) N cp) ∧ ERow w' (some ⟨g, 0, none⟩) (wts p N) ∧ Below w.heap.size w w') := fun w hb => by
    refine (cwts k hk c cap2 k N p hp h2 (by omega) hN.symm op w (hc.below hb)).mono ?_
    rintro e w' ⟨g, cp, rfl, h3, h4⟩
    refine ⟨g, cp, rfl, ?_, h4⟩
    obtain ⟨a', cap', e', h5⟩ := own_row (es := wts p N) (by rw [wts_len]; exact h3)
    injection e' with e1
    rw [e1]; exact h5
  have HT : Hid (∀ w, Below W.heap.size W w → Calls Try.prog 42 #[.slice a N cap, .int .i64 (N : Int)] w fun e w' => ∃ g, e = .returned (.tuple #[.slice (some ⟨g, 0, none⟩) N N, .int .i64 0]) ∧ ERow w' (some ⟨g, 0, none⟩) (trns N t) ∧ Below w.heap.size w w') := fun w hb => sturn k hk a cap N t ht h1 hN ot w (ha.below hb)
  have HD : Hid (∀ (w : World) (g cp g2 : Nat), ERow w (some ⟨g, 0, none⟩) (wts p N) → ERow w (some ⟨g2, 0, none⟩) (trns N t) → Calls Try.prog 40 #[.int .i64 (k : Int), .slice (some ⟨g, 0, none⟩) N cp, .slice (some ⟨g2, 0, none⟩) N N] w fun e w' => e = .returned (.agg #[.int .u64 (v.1 : Int), .int .u64 (v.2 : Int)]) ∧ Below w.heap.size w w') := fun w g cp g2 h3 h4 => by
    have := dot_any (k : Int) (some ⟨g, 0, none⟩) (some ⟨g2, 0, none⟩) cp N (wts p N) (trns N t) (lt_wts p N) (lt_trns N t) (by rw [wts_len]; omega) w h3 h4
    rw [dot_wts hk p (trns N t) N (trns_len N t) op (by rw [hN]; exact of_trns hk t), wts_len, trns_len] at this
    rw [show (xs N fun v => pm (wt p v) (el (trns N t) v)) = v from by rw [← hv]; exact xs_congr N fun u hu => by rw [trns_at N t hu]] at this
    exact this
  clear ha hc ht hp h1 h2 ot op hv hN
  go_enter Try.func22, Try.ntmps22
  go_wp2_with (first
    | (go_at_call 39; refine (HH.out _ ((Below.refl _ _).alloc (Nat.le_refl _) _)).mono ?_; rintro e w1 ⟨rfl, hb1⟩; have K1 := hidT (Ew.new0R W w1 hb1); clear hb1)
    | (go_at_call 42; refine (HT.out _ K1.out.2).mono ?_; rintro e w2 ⟨g2, rfl, hr2, hb2⟩; have K2 : Hid (Ew w2 W.heap.size 0 0 ∧ Below W.heap.size W w2 ∧ ERow w2 (some ⟨g2, 0, none⟩) (trns N t)) := ⟨K1.out.1.below hb2, K1.out.2.trans (hb2.mono K1.out.2.size), hr2⟩; clear hb2 hr2 K1)
    | (go_at_call 32; refine (HW.out _ K2.out.2.1).mono ?_; rintro e w3 ⟨g3, cp3, rfl, hr3, hb3⟩; have K3 : Hid (Ew w3 W.heap.size 0 0 ∧ Below W.heap.size W w3 ∧ ERow w3 (some ⟨g2, 0, none⟩) (trns N t) ∧ ERow w3 (some ⟨g3, 0, none⟩) (wts p N)) := ⟨K2.out.1.below hb3, K2.out.2.1.trans (hb3.mono K2.out.2.1.size), K2.out.2.2.below hb3, hr3⟩; clear hb3 hr3 K2)
    | (go_at_call 40; refine (HD.out _ _ _ _ K3.out.2.2.2 K3.out.2.2.1).mono ?_; rintro e w4 ⟨rfl, hb4⟩; have K4 : Hid (Ew w4 W.heap.size 0 0 ∧ Below W.heap.size W w4) := ⟨K3.out.1.below hb4, K3.out.2.1.trans (hb4.mono K3.out.2.1.size)⟩; clear hb4 K3; obtain ⟨⟨r1, r0⟩, t1, t0⟩ := K4.out.1))
  refine bodyPost_ret (v := .tuple #[.agg #[.int .u64 (v.1 : Int), .int .u64 (v.2 : Int)], .int .i64 0]) (by simp [results, Try.results22, go_sem, *]) rfl ⟨rfl, ?_⟩
  exact below2 (p := W.heap.size) K4.out.2 (Nat.le_refl _) _ _
end Go.Proofs.Ytbomgcmmfeahiaa
