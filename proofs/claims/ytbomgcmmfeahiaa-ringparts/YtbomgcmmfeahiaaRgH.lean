/- RingSwitches over the seat's translation: the calls, and the walk. -/
import Derived.Test.YtbomgcmmfeahiaaPCbN
import Derived.Test.YtbomgcmmfeahiaaCbQ
import Derived.Test.YtbomgcmmfeahiaaCbH
namespace Go.Proofs.Ytbomgcmmfeahiaa
open Go.RowKit
open Cb
open Rg
open Tw (pm)

/-- Parts, whatever is handed in. -/
theorem rparts_tot (l : Int) (a c : Option Addr) (n cap cap2 : Nat) (bs : List Bool) (hi : List (Nat × Nat)) (hb : bs.length = n) (hn : n ≤ 1000) (hh : ltE hi) (h1 : hi.length ≤ 1000) (W : World) (ha : BRow W a bs) (hc : ERow W c hi) :
    Calls Try.prog 12 #[.int .i64 l, .slice a n cap, .slice c hi.length cap2] W fun e w' => ∃ (g : Option Addr) (cp : Nat) (ps : List (Nat × Nat)), e = .returned (.tuple #[.slice g ps.length cp, .int .i64 (rpE l n hi)]) ∧ ERow w' g ps ∧ (ltE ps ∧ ps.length ≤ 128 ∧ (rpE l n hi = 0 → ps = parts (2 ^ l.toNat) bs (2 ^ hi.length) hi)) ∧ Below W.heap.size W w' := by
  by_cases h0 : rpE l n hi = 0
  · obtain ⟨k, hk, rfl, hkj, hn2, oh⟩ := rp_zero h0
    refine (rparts_ok k hk a c n cap cap2 hi.length (2 ^ k) (2 ^ hi.length) bs hi hh rfl hkj rfl rfl hn2 hb oh W ha hc).mono ?_
    rintro e w' ⟨g, rfl, hr, hb'⟩
    refine ⟨_, 2 ^ k, parts (2 ^ k) bs (2 ^ hi.length) hi, ?_, hr, ⟨lt_parts _ _ _ _, ?_, fun _ => by rw [Int.toNat_natCast]⟩, hb'⟩
    · rw [h0, parts_len]
    · rw [parts_len]; exact Nat.le_trans (Nat.pow_le_pow_right (by decide) (show k ≤ 7 by omega)) (by decide)
  · refine (rparts_err l a c n cap cap2 hi hh h1 (by omega) _ rfl h0 W hc).mono ?_
    rintro e w' ⟨rfl, hb'⟩
    exact ⟨none, 0, [], rfl, er_nil w', ⟨lt_nil, by simp, fun h => absurd h h0⟩, hb'⟩
theorem rval_tot (l : Int) (a c : Option Addr) (cap cap2 : Nat) (t p : List (Nat × Nat)) (ht : ltE t) (hp : ltE p) (h1 : t.length ≤ 1000) (h2 : p.length ≤ 1000) (W : World) (ha : ERow W a t) (hc : ERow W c p) :
    Calls Try.prog 19 #[.int .i64 l, .slice a t.length cap, .slice c p.length cap2] W fun e w' => ∃ v : Nat × Nat, e = .returned (.tuple #[.agg #[.int .u64 (v.1 : Int), .int .u64 (v.2 : Int)], .int .i64 (rgh l t p)]) ∧ (rgh l t p = 0 → v = vsum (2 ^ l.toNat) t p) ∧ (¬ rgh l t p = 0 → v = (0, 0)) ∧ Below W.heap.size W w' := by
  by_cases h0 : rgh l t p = 0
  · obtain ⟨k, hk, rfl, hl, hpl, ot, op⟩ := rgh_zero h0
    rw [h0]
    rw [hl, hpl, Int.toNat_natCast]
    refine (rval_ok k hk a c cap cap2 (2 ^ k) t p ht hp hl rfl hpl ot op _ rfl W ha hc).mono ?_
    rintro e w' ⟨rfl, hb'⟩
    exact ⟨_, rfl, fun _ => rfl, fun h => absurd rfl h, hb'⟩
  · refine (rval_err l a c cap cap2 t p ht hp h1 h2 _ rfl h0 W ha hc).mono ?_
    rintro e w' ⟨rfl, hb'⟩
    exact ⟨(0, 0), rfl, fun h => absurd h h0, fun _ => rfl, hb'⟩
theorem rbat_tot (l : Int) (a c : Option Addr) (cap cap2 : Nat) (t p : List (Nat × Nat)) (ht : ltE t) (hp : ltE p) (h1 : t.length ≤ 1000) (h2 : p.length ≤ 1000) (W : World) (ha : ERow W a t) (hc : ERow W c p) :
    Calls Try.prog 22 #[.int .i64 l, .slice a t.length cap, .slice c p.length cap2] W fun e w' => ∃ v : Nat × Nat, e = .returned (.tuple #[.agg #[.int .u64 (v.1 : Int), .int .u64 (v.2 : Int)], .int .i64 (rgh l t p)]) ∧ (rgh l t p = 0 → v = btc (2 ^ l.toNat) t p) ∧ (¬ rgh l t p = 0 → v = (0, 0)) ∧ Below W.heap.size W w' := by
  by_cases h0 : rgh l t p = 0
  · obtain ⟨k, hk, rfl, hl, hpl, ot, op⟩ := rgh_zero h0
    rw [h0]
    rw [hl, hpl, Int.toNat_natCast]
    refine (rbat_ok k hk a c cap cap2 (2 ^ k) t p ht hp hl rfl hpl ot op _ rfl W ha hc).mono ?_
    rintro e w' ⟨rfl, hb'⟩
    exact ⟨_, rfl, fun _ => rfl, fun h => absurd rfl h, hb'⟩
  · refine (rbat_err l a c cap cap2 t p ht hp h1 h2 _ rfl h0 W ha hc).mono ?_
    rintro e w' ⟨rfl, hb'⟩
    exact ⟨(0, 0), rfl, fun h => absurd h h0, fun _ => rfl, hb'⟩
theorem rmask_tot (l : Int) (a c : Option Addr) (cap cap2 : Nat) (hi r : List (Nat × Nat)) (hh : ltE hi) (hr : ltE r) (h1 : hi.length ≤ 1000) (h2 : r.length ≤ 1000) (W : World) (ha : ERow W a hi) (hc : ERow W c r) :
    Calls Try.prog 24 #[.int .i64 l, .slice a hi.length cap, .slice c r.length cap2] W fun e w' => ∃ (g : Option Addr) (cp : Nat) (ms : List (Nat × Nat)), e = .returned (.tuple #[.slice g ms.length cp, .int .i64 (rgm l hi r)]) ∧ ERow w' g ms ∧ (ltE ms ∧ ms.length ≤ 2 ^ hi.length ∧ (rgm l hi r = 0 → ms = msks (2 ^ l.toNat) hi r (2 ^ hi.length)) ∧ (¬ rgm l hi r = 0 → ms = [])) ∧ Below W.heap.size W w' := by
  by_cases h0 : rgm l hi r = 0
  · obtain ⟨k, hk, rfl, hl, hrl, oh, or⟩ := rgm_zero h0
    have := rmask_ok k hk a c cap cap2 hi.length (2 ^ k) (2 ^ hi.length) hi r hh hr rfl hl hrl rfl rfl oh or W ha hc
    rw [hrl, h0]
    refine this.mono ?_
    rintro e w' ⟨g, cp, rfl, hE, hb'⟩
    refine ⟨_, cp, msks (2 ^ k) hi r (2 ^ hi.length), ?_, hE, ⟨lt_msks _ _ _ _, ?_, fun _ => by rw [Int.toNat_natCast], fun h => absurd rfl h⟩, hb'⟩
    · rw [msks_len]
    · rw [msks_len]; exact Nat.le_refl _
  · refine (rmask_err l a c cap cap2 hi r hh hr h1 h2 _ rfl h0 W ha hc).mono ?_
    rintro e w' ⟨rfl, hb'⟩
    exact ⟨none, 0, [], rfl, er_nil w', ⟨lt_nil, by simp, fun h => absurd h h0, fun _ => rfl⟩, hb'⟩
theorem gB_ltE (k q : Nat) (hk : k < 8) (bs : List Bool) (hq : bs.length = q * 2 ^ k) : ltE (gB k q bs) := ltE_of fun i h => by
  rw [gB_len] at h
  exact gB_lt k q hk bs hq i h
theorem rpack_tot (l : Int) (a : Option Addr) (n cap : Nat) (bs : List Bool) (hb : bs.length = n) (hn : n ≤ 1000) (W : World) (ha : BRow W a bs) :
    Calls Try.prog 11 #[.int .i64 l, .slice a n cap] W fun e w' => ∃ (g : Option Addr) (cp : Nat) (ts : List (Nat × Nat)), e = .returned (.tuple #[.slice g ts.length cp, .int .i64 (hvE l n)]) ∧ ERow w' g ts ∧ (ltE ts ∧ ts.length ≤ n ∧ (hvE l n = 0 → ts = gB l.toNat (2 ^ (hvV l n).toNat) bs) ∧ (¬ hvE l n = 0 → ts = [])) ∧ Below W.heap.size W w' := by
  by_cases h0 : hvE l n = 0
  · obtain ⟨k, j, hk, rfl, hkj, hn2, hv⟩ := hv_zero h0
    rw [h0, hv, Int.toNat_natCast, Int.toNat_natCast]
    refine (rpack_ok k hk a n cap j (2 ^ k) (2 ^ j) bs hkj rfl rfl hn2 hb hn W ha).mono ?_
    rintro e w' ⟨g, rfl, hr, hb'⟩
    refine ⟨_, 2 ^ j, gB k (2 ^ j) bs, ?_, hr, ⟨gB_ltE k _ hk bs (by rw [hb, hn2]), ?_, fun _ => rfl, fun h => absurd rfl h⟩, hb'⟩
    · rw [gB_len]
    · rw [gB_len, hn2]; exact Nat.le_mul_of_pos_right _ (Nat.two_pow_pos _)
  · refine (rpack_err l a n cap (by omega) h0 W).mono ?_
    rintro e w' ⟨rfl, hb'⟩
    exact ⟨none, 0, [], rfl, er_nil w', ⟨lt_nil, by simp, fun h => absurd h h0, fun _ => rfl⟩, hb'⟩
/-- What is said: the value, and the sum. -/
theorem switch_eq {l : Int} {n : Nat} {bs : List Bool} {lo hi r ps ms ts : List (Nat × Nat)} {v s : Nat × Nat} (hb : bs.length = n) (lh : ltE hi)
    (E1 : rpE l n hi = 0) (hp : ps = parts (2 ^ l.toNat) bs (2 ^ hi.length) hi) (E2 : rgh l ps lo = 0) (hv : v = vsum (2 ^ l.toNat) ps lo) (E3 : rgh l ps r = 0) (hs : s = btc (2 ^ l.toNat) ps r)
    (hm : ms = msks (2 ^ l.toNat) hi r (2 ^ hi.length)) (ht : ts = gB l.toNat (2 ^ (hvV l n).toNat) bs) : v = vl (bE bs) (lo ++ hi) ∧ s = dotv l ts ms := by
  obtain ⟨k, hk, rfl, hkj, hn, oh⟩ := rp_zero E1
  obtain ⟨k', hk', e', hl', hpl, ot, op⟩ := rgh_zero E2
  obtain rfl : k = k' := by omega
  obtain ⟨k3, hk3, e3, _, hrl, _, or⟩ := rgh_zero E3
  obtain rfl : k = k3 := by omega
  rw [(hv_mk hk hkj hn).2] at ht
  simp only [Int.toNat_natCast] at ht hp hv hs hm
  subst hp hv hs
  have hq : bs.length = 2 ^ hi.length * 2 ^ k := by rw [hb, hn]
  refine ⟨value_eq k _ bs lo hi hpl hq lh, ?_⟩
  rw [batch_eq]
  have l1 : ts.length = 2 ^ hi.length := by rw [ht, gB_len]
  have l2 : ms.length = 2 ^ hi.length := by rw [hm, msks_len]
  rw [dotv_rt (by rw [l1, l2]) ?_, dots_xs, l1]
  · exact xs_congr _ fun x hx => by rw [ht, hm, gB_pk k _ hk bs hq hx, msks_at _ hi r _ hx]
  · intro j hj
    rw [l1] at hj
    refine ⟨?_, ?_⟩
    · rw [ht]; exact gB_of k _ hk bs hq j hj
    · rw [hm]; exact (of_msks hk _ hi or _).el hk j
/-- The argument's box. -/
structure Sx (W w : World) (y0 y1 y2 : Value) : Prop where
  c0 : w.cell? ⟨W.heap.size, 0, none⟩ = some y0
  c1 : w.cell? ⟨W.heap.size, 1, none⟩ = some y1
  c2 : w.cell? ⟨W.heap.size, 2, none⟩ = some y2
  d : Below W.heap.size W w
theorem Sx.below {W w w' : World} {y0 y1 y2 : Value} (h : Sx W w y0 y1 y2) (hb : Below w.heap.size w w') : Sx W w' y0 y1 y2 := ⟨keepc hb h.c0, keepc hb h.c1, keepc hb h.c2, h.d.trans (hb.mono h.d.size)⟩
theorem Sx.new (W : World) (y0 y1 y2 : Value) (T : TypeId) : Sx W (W.alloc (Obj.cells #[y0, y1, y2] T)) y0 y1 y2 := ⟨by simp [go_sem], by simp [go_sem], by simp [go_sem], by go_grown⟩
set_option maxHeartbeats 2000000 in
theorem rs_far (l : Int) (a a2 a3 ar : Option Addr) (n n2 n3 nr c c2 c3 cr : Nat) (h : ¬ ((n ≤ 130 ∧ n2 ≤ 6 ∧ n3 ≤ 6 ∧ (l ≤ 5 ∨ 7 < l)) ∧ nr ≤ 6)) : Ret 6 #[.int .i64 l, .agg #[.slice a n c, .slice a2 n2 c2, .slice a3 n3 c3], .slice ar nr cr] (.bool true) := by
  intro W
  have AW := hidT awake23
  by_cases hf : n ≤ 130 ∧ n2 ≤ 6 ∧ n3 ≤ 6 ∧ (l ≤ 5 ∨ 7 < l)
  · have HF := hidT (few23_yes l a a2 a3 n n2 n3 c c2 c3 hf.1 hf.2.1 hf.2.2.1 hf.2.2.2)
    have hr : 6 < (nr : Int) := by omega
    clear h hf
    go_enter Try.func6, Try.ntmps6
    go_wp2_with (first | (go_at_call 8; refine (HF.out.go _).mono ?_; rintro e w1 ⟨rfl, hb1⟩; have K1 : Hid (Below W.heap.size W w1) := ((Below.refl _ _).alloc (Nat.le_refl _) _).trans (hb1.mono (by simp)); clear hb1) | (go_at_call 9; refine (AW.out.go _).mono ?_; rintro e w2 ⟨rfl, hb2⟩))
    go_ret
    exact ⟨rfl, K1.out.trans (hb2.mono K1.out.size)⟩
  · have HF := hidT (few23_no l a a2 a3 n n2 n3 c c2 c3 hf)
    clear h hf
    go_enter Try.func6, Try.ntmps6
    go_wp2_with (first | (go_at_call 8; refine (HF.out.go _).mono ?_; rintro e w1 ⟨rfl, hb1⟩; have K1 : Hid (Below W.heap.size W w1) := ((Below.refl _ _).alloc (Nat.le_refl _) _).trans (hb1.mono (by simp)); clear hb1) | (go_at_call 9; refine (AW.out.go _).mono ?_; rintro e w2 ⟨rfl, hb2⟩))
    go_ret
    exact ⟨rfl, K1.out.trans (hb2.mono K1.out.size)⟩
end Go.Proofs.Ytbomgcmmfeahiaa
