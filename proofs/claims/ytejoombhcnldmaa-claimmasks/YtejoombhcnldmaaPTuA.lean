/- The contract of cube.last over the seat's translation. -/
import Derived.Test.YtejoombhcnldmaaCbD
import Derived.Test.YtejoombhcnldmaaTwBl
import Derived.Deep.RegionHeld3
namespace Go.Proofs.Ytejoombhcnldmaa
open Go.RowKit
open Cb
open Tw (pm)

end Go.Proofs.Ytejoombhcnldmaa

/- Contracts of cube.At, First and Last over the seat's translation: what hinders, and what they give. -/
namespace Go.Proofs.Ytejoombhcnldmaa
open Go.RowKit
open Cb
open Tw (pm)

/-- What hinders At. -/
def atE (l : Int) (t p : List (Nat × Nat)) : Int := hnd l (decide ((p.length : Int) = lgz t.length)) t p
/-- What hinders First and Last. -/
def fiE (l : Int) (t p : List (Nat × Nat)) : Int := hnd l (decide ((p.length : Int) ≤ lgz t.length)) t p
theorem hnd_zero {l : Int} {f : Bool} {t p : List (Nat × Nat)} (h : hnd l f t p = 0) : (0 ≤ l ∧ l ≤ 7) ∧ f = true ∧ (t.all fun e => ofB l (e.1 : Int) (e.2 : Int)) = true ∧ (p.all fun e => ofB l (e.1 : Int) (e.2 : Int)) = true := by
  unfold hnd at h
  by_cases h1 : 0 ≤ l ∧ l ≤ 7
  · rw [if_pos h1] at h
    by_cases h2 : f = true
    · rw [if_pos h2] at h
      by_cases h3 : (t.all fun e => ofB l (e.1 : Int) (e.2 : Int)) = true ∧ (p.all fun e => ofB l (e.1 : Int) (e.2 : Int)) = true
      · exact ⟨h1, h2, h3.1, h3.2⟩
      · rw [if_neg h3] at h; exact absurd h (by decide)
    · rw [if_neg h2] at h; exact absurd h (by decide)
  · rw [if_neg h1] at h; exact absurd h (by decide)
theorem hnd_mk {l : Int} {f : Bool} {t p : List (Nat × Nat)} (h1 : 0 ≤ l ∧ l ≤ 7) (h2 : f = true) (h3 : (t.all fun e => ofB l (e.1 : Int) (e.2 : Int)) = true) (h4 : (p.all fun e => ofB l (e.1 : Int) (e.2 : Int)) = true) : hnd l f t p = 0 := by
  unfold hnd; rw [if_pos h1, if_pos h2, if_pos ⟨h3, h4⟩]
theorem all_of {k : Nat} {t : List (Nat × Nat)} : (t.all fun e => ofB (k : Int) (e.1 : Int) (e.2 : Int)) = true ↔ ofT k t := by
  rw [List.all_eq_true]; rfl
theorem at_zero {l : Int} {t p : List (Nat × Nat)} (h : atE l t p = 0) : ∃ k : Nat, k < 8 ∧ l = (k : Int) ∧ p.length ≤ 16 ∧ t.length = 2 ^ p.length ∧ ofT k t ∧ ofT k p := by
  obtain ⟨⟨h1, h2⟩, h3, h4, h5⟩ := hnd_zero h
  obtain ⟨k, rfl⟩ := Int.eq_ofNat_of_zero_le h1
  have h6 := of_decide_eq_true h3
  rcases lgz_or t.length with e | ⟨n, hn, e1, e2⟩
  · omega
  · obtain rfl : p.length = n := by omega
    exact ⟨k, by omega, rfl, hn, e1, all_of.1 h4, all_of.1 h5⟩
theorem fi_zero {l : Int} {t p : List (Nat × Nat)} (h : fiE l t p = 0) : ∃ k m : Nat, k < 8 ∧ l = (k : Int) ∧ p.length + m ≤ 16 ∧ t.length = 2 ^ (p.length + m) ∧ ofT k t ∧ ofT k p := by
  obtain ⟨⟨h1, h2⟩, h3, h4, h5⟩ := hnd_zero h
  obtain ⟨k, rfl⟩ := Int.eq_ofNat_of_zero_le h1
  have h6 := of_decide_eq_true h3
  rcases lgz_or t.length with e | ⟨n, hn, e1, e2⟩
  · omega
  · obtain ⟨m, rfl⟩ : ∃ m, n = p.length + m := ⟨n - p.length, by omega⟩
    exact ⟨k, m, by omega, rfl, hn, e1, all_of.1 h4, all_of.1 h5⟩
theorem at_mk {k : Nat} {t p : List (Nat × Nat)} (hk : k < 8) (hp : p.length ≤ 16) (hl : t.length = 2 ^ p.length) (ot : ofT k t) (op : ofT k p) : atE (k : Int) t p = 0 := by
  refine hnd_mk ⟨by omega, by omega⟩ (decide_eq_true ?_) (all_of.2 ot) (all_of.2 op)
  rw [hl, lgz_two _ hp]
theorem fi_mk {k m : Nat} {t p : List (Nat × Nat)} (hk : k < 8) (hp : p.length + m ≤ 16) (hl : t.length = 2 ^ (p.length + m)) (ot : ofT k t) (op : ofT k p) : fiE (k : Int) t p = 0 := by
  refine hnd_mk ⟨by omega, by omega⟩ (decide_eq_true ?_) (all_of.2 ot) (all_of.2 op)
  rw [hl, lgz_two _ hp]; omega
/-- A room for an element. -/
structure Rm (W w : World) : Prop where
  room : Ew w W.heap.size 0 0
  d : Below W.heap.size W w
theorem Rm.below {W w w' : World} (h : Rm W w) (hb : Below w.heap.size w w') : Rm W w' := ⟨h.room.below hb, h.d.trans (hb.mono h.d.size)⟩
theorem Rm.start (W : World) : Rm W (W.alloc (Obj.cells #[.int .u64 0, .int .u64 0] 26)) := ⟨⟨⟨by simp [go_sem], by simp [go_sem]⟩, by simp [go_sem], by simp [go_sem]⟩, by go_grown⟩
set_option maxHeartbeats 1000000 in
theorem at_err (l : Int) (a c : Option Addr) (cap cap2 : Nat) (t p : List (Nat × Nat)) (ht : ltE t) (hp : ltE p) (h1 : t.length ≤ 1000) (h2 : p.length ≤ 1000) (E : Int) (hE : atE l t p = E) (h0 : ¬ E = 0) (W : World) (ha : ERow W a t) (hc : ERow W c p) :
    Calls Try.prog 31 #[.int .i64 l, .slice a t.length cap, .slice c p.length cap2] W fun e w' => e = .returned (.tuple #[.agg #[.int .u64 0, .int .u64 0], .int .i64 E]) ∧ Below W.heap.size W w' := by
  have HL : Hid (Ret 56 #[.int .i64 (t.length : Int)] (.int .i64 (lgz t.length))) := clog_any t.length (by omega)
  have HH : Hid (∀ w, Below W.heap.size W w → Calls Try.prog 55 #[.int .i64 l, .bool (decide ((p.length : Int) = lgz t.length)), .slice a t.length cap, .slice c p.length cap2] w fun e w' => e = .returned (.int .i64 E) ∧ Below w.heap.size w w') := fun w hb => by
    rw [← hE]; exact hind_any l _ a c cap cap2 t p ht hp (by omega) (by omega) w (ha.below hb) (hc.below hb)
  clear hE ha hc ht hp h1 h2
  generalize lgz t.length = g at *
  by_cases hg : (p.length : Int) = g
  · rw [decide_eq_true hg] at HH
    rw [← hg] at HL
    clear hg
    go_enter Try.func31, Try.ntmps31
    go_wp2_with (first | (go_at_call 56; refine (HL.out.go _).mono ?_; rintro e w1 ⟨rfl, hb1⟩; have R1 : Hid (Rm W w1) := (Rm.start W).below hb1; clear hb1) | (go_at_call 55; refine (HH.out _ R1.out.d).mono ?_; rintro e w2 ⟨rfl, hb2⟩; have R2 : Hid (Rm W w2) := R1.out.below hb2; clear hb2; obtain ⟨⟨r1, r0⟩, t1, t0⟩ := R2.out.room))
    refine bodyPost_ret (v := .tuple #[.agg #[.int .u64 0, .int .u64 0], .int .i64 E]) (by simp [results, Try.results31, go_sem, *]) rfl ⟨rfl, ?_⟩
    exact below2 (p := W.heap.size) R2.out.d (Nat.le_refl _) _ _
  · rw [decide_eq_false hg] at HH
    have hg' : ((p.length : Int) == g) = false := by simp [hg]
    go_enter Try.func31, Try.ntmps31
    go_wp2_with (first | (go_at_call 56; refine (HL.out.go _).mono ?_; rintro e w1 ⟨rfl, hb1⟩; have R1 : Hid (Rm W w1) := (Rm.start W).below hb1; clear hb1) | (go_at_call 55; refine (HH.out _ R1.out.d).mono ?_; rintro e w2 ⟨rfl, hb2⟩; have R2 : Hid (Rm W w2) := R1.out.below hb2; clear hb2; obtain ⟨⟨r1, r0⟩, t1, t0⟩ := R2.out.room))
    refine bodyPost_ret (v := .tuple #[.agg #[.int .u64 0, .int .u64 0], .int .i64 E]) (by simp [results, Try.results31, go_sem, *]) rfl ⟨rfl, ?_⟩
    exact below2 (p := W.heap.size) R2.out.d (Nat.le_refl _) _ _
set_option maxHeartbeats 1000000 in
theorem at_ok (k : Nat) (hk : k < 8) (a c : Option Addr) (cap cap2 : Nat) (t p : List (Nat × Nat)) (ht : ltE t) (hp : ltE p) (h1 : t.length ≤ 1000) (h2 : p.length ≤ 16) (hl : t.length = 2 ^ p.length) (ot : ofT k t) (op : ofT k p) (v : Nat × Nat) (hv : firsts t p = [v]) (W : World) (ha : ERow W a t) (hc : ERow W c p) :
    Calls Try.prog 31 #[.int .i64 (k : Int), .slice a t.length cap, .slice c p.length cap2] W fun e w' => e = .returned (.tuple #[.agg #[.int .u64 (v.1 : Int), .int .u64 (v.2 : Int)], .int .i64 0]) ∧ Below W.heap.size W w' := by
  have hg : lgz t.length = (p.length : Int) := by rw [hl, lgz_two _ h2]
  have HL : Hid (Ret 56 #[.int .i64 (t.length : Int)] (.int .i64 (p.length : Int))) := by
    have := clog_any t.length (by omega)
    rw [hg] at this
    exact this
  have HH : Hid (∀ w, Below W.heap.size W w → Calls Try.prog 55 #[.int .i64 (k : Int), .bool true, .slice a t.length cap, .slice c p.length cap2] w fun e w' => e = .returned (.int .i64 0) ∧ Below w.heap.size w w') := fun w hb => by
    have := hind_any (k : Int) true a c cap cap2 t p ht hp (by omega) (by omega) w (ha.below hb) (hc.below hb)
    rw [hnd_mk ⟨by omega, by omega⟩ rfl (all_of.2 ot) (all_of.2 op)] at this
    exact this
  have HF : Hid (∀ w, Below W.heap.size W w → Calls Try.prog 57 #[.int .i64 (k : Int), .slice a t.length cap, .slice c p.length cap2] w fun e w' => ∃ g off cap', e = .returned (.slice (some ⟨g, off, none⟩) 1 cap') ∧ w'.cell? ⟨g, off, none⟩ = some (.int .u64 (v.1 : Int)) ∧ w'.cell? ⟨g, off + 1, none⟩ = some (.int .u64 (v.2 : Int)) ∧ Below w.heap.size w w') := fun w hb => by
    refine (first_ok k hk a c cap cap2 0 t p hl h1 ht hp ot op w (ha.below hb) (hc.below hb)).mono ?_
    rintro e w' ⟨a', cap', rfl, hE, hb'⟩
    rw [hv] at hE
    obtain ⟨g, off, rfl, _, c1, c0⟩ := hE.cells 0 (by simp)
    exact ⟨g, off, cap', rfl, by simpa using c1, by simpa using c0, hb'⟩
  clear ha hc ht hp h1 h2 hg ot op hl hv
  go_enter Try.func31, Try.ntmps31
  go_wp2_with (first | (go_at_call 56; refine (HL.out.go _).mono ?_; rintro e w1 ⟨rfl, hb1⟩; have R1 : Hid (Rm W w1) := (Rm.start W).below hb1; clear hb1) | (go_at_call 55; refine (HH.out _ R1.out.d).mono ?_; rintro e w2 ⟨rfl, hb2⟩; have R2 : Hid (Rm W w2) := R1.out.below hb2; clear hb2) | (go_at_call 57; refine (HF.out _ R2.out.d).mono ?_; rintro e w3 ⟨g, off, cap', rfl, d1, d0, hb3⟩; have R3 : Hid (Rm W w3) := R2.out.below hb3; clear hb3; obtain ⟨⟨r1, r0⟩, t1, t0⟩ := R3.out.room))
  refine bodyPost_ret (v := .tuple #[.agg #[.int .u64 (v.1 : Int), .int .u64 (v.2 : Int)], .int .i64 0]) (by simp [results, Try.results31, go_sem, *]) rfl ⟨rfl, ?_⟩
  exact below2 (p := W.heap.size) R3.out.d (Nat.le_refl _) _ _
end Go.Proofs.Ytejoombhcnldmaa

/- Contracts of expr.below, isLevel, formed, hindrance over the seat's translation; rows of steps. -/
namespace Go.Proofs.Ytejoombhcnldmaa
open Go.RowKit

/-- A step: its kind, its two numbers, its element. -/
structure Stp where
  k : Int
  a : Int
  b : Int
  v : Nat × Nat
/-- A step by value. -/
def Stp.val (o : Stp) : Value := .agg #[.int .i64 o.k, .int .i64 o.a, .int .i64 o.b, .int .u64 (o.v.1 : Int), .int .u64 (o.v.2 : Int)]
def Stp.ok (o : Stp) : Prop := o.v.1 < 2 ^ 64 ∧ o.v.2 < 2 ^ 64
def zst : Stp := ⟨0, 0, 0, (0, 0)⟩
/-- A row of steps. -/
structure ORow (w : World) (a : Option Addr) (l : List Stp) : Prop where
  cells : ∀ i, i < l.length → ∃ b off, a = some ⟨b, off, none⟩ ∧ b < w.heap.size ∧ w.cell? ⟨b, off + i * 5, none⟩ = some (.int .i64 (l.getD i zst).k) ∧ w.cell? ⟨b, off + i * 5 + 1, none⟩ = some (.int .i64 (l.getD i zst).a) ∧ w.cell? ⟨b, off + i * 5 + 2, none⟩ = some (.int .i64 (l.getD i zst).b) ∧ w.cell? ⟨b, off + i * 5 + 3, none⟩ = some (.int .u64 ((l.getD i zst).v.1 : Int)) ∧ w.cell? ⟨b, off + i * 5 + 4, none⟩ = some (.int .u64 ((l.getD i zst).v.2 : Int))
theorem ORow.below {w w' : World} {a : Option Addr} {l : List Stp} (h : ORow w a l) (hb : Below w.heap.size w w') : ORow w' a l := ⟨fun i hi => by
  obtain ⟨b, off, e, h0, h1, h2, h3, h4, h5⟩ := h.cells i hi
  exact ⟨b, off, e, Nat.lt_of_lt_of_le h0 hb.size, keepc hb h1, keepc hb h2, keepc hb h3, keepc hb h4, keepc hb h5⟩⟩
/-- Is a step of a kind, names it steps ahead alone, and has it nothing that its kind does not need? -/
def frm (o : Stp) (n : Int) : Bool :=
  if o.k = 1 then decide (o.a = 0 ∧ o.b = 0)
  else if o.k = 2 then decide (o.b = 0 ∧ o.v = (0, 0))
  else if o.k = 3 ∨ o.k = 4 then decide ((0 ≤ o.a ∧ o.a < n) ∧ (0 ≤ o.b ∧ o.b < n) ∧ o.v = (0, 0))
  else false
theorem val_zero {v : Nat × Nat} : (v = (0, 0)) ↔ ((v.1 : Int) = 0 ∧ (v.2 : Int) = 0) := by
  constructor
  · rintro rfl; exact ⟨rfl, rfl⟩
  · rintro ⟨h1, h2⟩; exact Prod.ext (by omega) (by omega)
end Go.Proofs.Ytejoombhcnldmaa

/- Contracts of turn.Fits and From over the seat's translation. -/
namespace Go.Proofs.Ytejoombhcnldmaa
open Go.RowKit

/-- How many bits a word of w has. -/
def pw (w : Int) : Int := ((2 ^ w.toNat : Nat) : Int)
/-- Is it a turn? -/
def ftB (k w s : Int) : Bool := decide ((0 ≤ w ∧ w ≤ 6) ∧ (0 ≤ s ∧ s < pw w) ∧ ((k = 0 ∧ s = 0) ∨ (1 ≤ k ∧ k ≤ 3)))
theorem ftB_true {k w s : Int} (h : ftB k w s = true) : (0 ≤ w ∧ w ≤ 6) ∧ (0 ≤ s ∧ s < pw w) ∧ ((k = 0 ∧ s = 0) ∨ (1 ≤ k ∧ k ≤ 3)) := of_decide_eq_true h
theorem pw_le {w : Int} (h : w ≤ 6) : 1 ≤ pw w ∧ pw w ≤ 64 := by
  unfold pw
  have h1 : 2 ^ w.toNat ≤ 2 ^ 6 := Nat.pow_le_pow_right (by decide) (by omega)
  have h2 : 0 < 2 ^ w.toNat := Nat.two_pow_pos _
  have h3 : (2 : Nat) ^ 6 = 64 := rfl
  omega
theorem pw_wrap {w : Int} (h : w ≤ 6) : wrap64 (2 ^ w.toNat) = pw w := by
  have e : ((2 : Int) ^ w.toNat) = pw w := by unfold pw; simp
  have := pw_le h
  rw [e]
  unfold wrap64
  omega
set_option maxHeartbeats 1000000 in
theorem tfits (k w s : Int) : Ret 40 #[.int .i64 k, .int .i64 w, .int .i64 s] (.bool (ftB k w s)) := by
  intro W
  obtain ⟨z, hz⟩ : ∃ z, z = ftB k w s := ⟨_, rfl⟩
  rw [← hz]
  by_cases h0 : 0 ≤ w ∧ w ≤ 6
  · have hp := pw_wrap h0.2
    have HZ : Hid (z = decide ((0 ≤ s ∧ s < pw w) ∧ ((k = 0 ∧ s = 0) ∨ (1 ≤ k ∧ k ≤ 3)))) := by show _ = _; rw [hz]; unfold ftB; simp [h0]
    obtain ⟨h1, h2⟩ := h0
    clear hz
    generalize pw w = n at *
    go_enter Try.func40, Try.ntmps40
    go_wp2
    all_goals
      go_ret
      refine ⟨?_, Below.refl _ _⟩
      rw [HZ.out]
      simp_all
      try (first | rfl | omega)
  · have HZ : Hid (z = false) := by show _ = _; rw [hz]; exact decide_eq_false (fun h => h0 h.1)
    clear hz
    rcases Int.lt_or_le w 0 with h1 | h1
    · clear h0
      go_enter Try.func40, Try.ntmps40
      go_wp2
      go_ret
      exact ⟨by rw [HZ.out]; rfl, Below.refl _ _⟩
    · have h2 : 6 < w := by omega
      clear h0
      go_enter Try.func40, Try.ntmps40
      go_wp2
      go_ret
      exact ⟨by rw [HZ.out]; rfl, Below.refl _ _⟩
/-- Which bit the bit i was. -/
def frI (k w s i : Int) : Int :=
  if ftB k w s = true ∧ 0 ≤ i ∧ i < pw w then
    (if k = 1 then (if 0 ≤ i - s then i - s else -1) else if k = 2 then (if i + s < pw w then i + s else -1) else if k = 3 then (if 0 ≤ i - s then i - s else i - s + pw w) else i)
  else -1
theorem frI_no {k w s i : Int} (h : ¬ (ftB k w s = true ∧ 0 ≤ i ∧ i < pw w)) : frI k w s i = -1 := by unfold frI; rw [if_neg h]
theorem frI_yes {k w s i : Int} (h : ftB k w s = true ∧ 0 ≤ i ∧ i < pw w) : frI k w s i = (if k = 1 then (if 0 ≤ i - s then i - s else -1) else if k = 2 then (if i + s < pw w then i + s else -1) else if k = 3 then (if 0 ≤ i - s then i - s else i - s + pw w) else i) := by unfold frI; rw [if_pos h]
end Go.Proofs.Ytejoombhcnldmaa
