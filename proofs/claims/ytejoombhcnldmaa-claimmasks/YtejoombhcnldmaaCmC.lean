/- Contracts of claim.hindrance, column and add over the seat's translation. -/
import Derived.Test.YtejoombhcnldmaaPRgC
namespace Go.Proofs.Ytejoombhcnldmaa
open Go.RowKit
open Cb
open Tw (pm)

/-- What hinders claims at a point from being mixed by b. -/
def chE (l c w : Int) (cl : List Stp) (z : List (Nat × Nat)) (b : Nat × Nat) : Int :=
  if 0 ≤ l ∧ l ≤ 7 then (if ckE c w cl = 0 then (if cfE l w z = 0 then (if ofB l (b.1 : Int) (b.2 : Int) = true then 0 else 5) else cfE l w z) else ckE c w cl) else 1
set_option maxHeartbeats 2000000 in
theorem cmhind (l c w : Int) (a a2 : Option Addr) (cap cap2 : Nat) (cl : List Stp) (z : List (Nat × Nat)) (b : Nat × Nat) (h10 : cl.length ≤ 100000) (h11 : z.length ≤ 100000) (lz : ltE z) (lb : lt2 b) (W : World) (hr : ORow W a cl) (hz : ERow W a2 z) :
    Calls Try.prog 42 #[.int .i64 l, .int .i64 c, .int .i64 w, .slice a cl.length cap, .slice a2 z.length cap2, .agg #[.int .u64 (b.1 : Int), .int .u64 (b.2 : Int)]] W fun e w' => e = .returned (.int .i64 (chE l c w cl z b)) ∧ Below W.heap.size W w' := by
  have HC := hidC (fun v (hb : Below W.heap.size W v) => cmchk c w a cap cl h10 v (hr.below hb))
  have HF := hidC (fun v (hb : Below W.heap.size W v) => cmfit l w a2 cap2 z lz h11 v (hz.below hb))
  have HO := hidC (of_ret l b.1 b.2 lb.2)
  unfold chE
  clear hr hz lz lb h10 h11
  generalize ckE c w cl = E1 at *
  generalize cfE l w z = E2 at *
  generalize ofB l (b.1 : Int) (b.2 : Int) = o at *
  by_cases hl : 0 ≤ l ∧ l ≤ 7
  · have HL := hidC (cmlev_yes l hl)
    rw [if_pos hl]
    by_cases h1 : E1 = 0
    · subst h1
      rw [if_pos rfl]
      by_cases h2 : E2 = 0
      · subst h2
        rw [if_pos rfl]
        cases o
        all_goals
          go_enter Try.func42, Try.ntmps42
          go_wp2_with (first
            | (go_at_call 33; refine (HL.out.go _).mono ?_; rintro e w1 ⟨rfl, hb1⟩; have K1 : Hid (Below W.heap.size W w1 ∧ El w1 W.heap.size b.1 b.2) := ⟨((Below.refl _ _).alloc (Nat.le_refl _) _).trans (hb1.mono (by simp)), (El.newR W b _).below hb1⟩; clear hb1)
            | (go_at_call 14; refine (HC.out _ K1.out.1).mono ?_; rintro e w2 ⟨rfl, hb2⟩; have K2 : Hid (Below W.heap.size W w2 ∧ El w2 W.heap.size b.1 b.2) := ⟨K1.out.1.trans (hb2.mono K1.out.1.size), K1.out.2.below hb2⟩; clear hb2 K1)
            | (go_at_call 46; refine (HF.out _ K2.out.1).mono ?_; rintro e w3 ⟨rfl, hb3⟩; have K3 : Hid (Below W.heap.size W w3 ∧ El w3 W.heap.size b.1 b.2) := ⟨K2.out.1.trans (hb3.mono K2.out.1.size), K2.out.2.below hb3⟩; clear hb3 K2; obtain ⟨b1, b0⟩ := K3.out.2)
            | (go_at_call 34; refine (HO.out.go _).mono ?_; rintro e w4 ⟨rfl, hb4⟩))
          go_ret
          exact ⟨rfl, K3.out.1.trans (hb4.mono K3.out.1.size)⟩
      · rw [if_neg h2]
        go_enter Try.func42, Try.ntmps42
        go_wp2_with (first
            | (go_at_call 33; refine (HL.out.go _).mono ?_; rintro e w1 ⟨rfl, hb1⟩; have K1 : Hid (Below W.heap.size W w1 ∧ El w1 W.heap.size b.1 b.2) := ⟨((Below.refl _ _).alloc (Nat.le_refl _) _).trans (hb1.mono (by simp)), (El.newR W b _).below hb1⟩; clear hb1)
            | (go_at_call 14; refine (HC.out _ K1.out.1).mono ?_; rintro e w2 ⟨rfl, hb2⟩; have K2 : Hid (Below W.heap.size W w2 ∧ El w2 W.heap.size b.1 b.2) := ⟨K1.out.1.trans (hb2.mono K1.out.1.size), K1.out.2.below hb2⟩; clear hb2 K1)
            | (go_at_call 46; refine (HF.out _ K2.out.1).mono ?_; rintro e w3 ⟨rfl, hb3⟩; have K3 : Hid (Below W.heap.size W w3 ∧ El w3 W.heap.size b.1 b.2) := ⟨K2.out.1.trans (hb3.mono K2.out.1.size), K2.out.2.below hb3⟩; clear hb3 K2; obtain ⟨b1, b0⟩ := K3.out.2)
            | (go_at_call 34; refine (HO.out.go _).mono ?_; rintro e w4 ⟨rfl, hb4⟩))
        go_ret
        exact ⟨rfl, K3.out.1⟩
    · rw [if_neg h1]
      go_enter Try.func42, Try.ntmps42
      go_wp2_with (first
            | (go_at_call 33; refine (HL.out.go _).mono ?_; rintro e w1 ⟨rfl, hb1⟩; have K1 : Hid (Below W.heap.size W w1 ∧ El w1 W.heap.size b.1 b.2) := ⟨((Below.refl _ _).alloc (Nat.le_refl _) _).trans (hb1.mono (by simp)), (El.newR W b _).below hb1⟩; clear hb1)
            | (go_at_call 14; refine (HC.out _ K1.out.1).mono ?_; rintro e w2 ⟨rfl, hb2⟩; have K2 : Hid (Below W.heap.size W w2 ∧ El w2 W.heap.size b.1 b.2) := ⟨K1.out.1.trans (hb2.mono K1.out.1.size), K1.out.2.below hb2⟩; clear hb2 K1)
            | (go_at_call 46; refine (HF.out _ K2.out.1).mono ?_; rintro e w3 ⟨rfl, hb3⟩; have K3 : Hid (Below W.heap.size W w3 ∧ El w3 W.heap.size b.1 b.2) := ⟨K2.out.1.trans (hb3.mono K2.out.1.size), K2.out.2.below hb3⟩; clear hb3 K2; obtain ⟨b1, b0⟩ := K3.out.2)
            | (go_at_call 34; refine (HO.out.go _).mono ?_; rintro e w4 ⟨rfl, hb4⟩))
      go_ret
      exact ⟨rfl, K2.out.1⟩
  · have HL := hidC (cmlev_no l hl)
    rw [if_neg hl]
    go_enter Try.func42, Try.ntmps42
    go_wp2_with (first
            | (go_at_call 33; refine (HL.out.go _).mono ?_; rintro e w1 ⟨rfl, hb1⟩; have K1 : Hid (Below W.heap.size W w1 ∧ El w1 W.heap.size b.1 b.2) := ⟨((Below.refl _ _).alloc (Nat.le_refl _) _).trans (hb1.mono (by simp)), (El.newR W b _).below hb1⟩; clear hb1)
            | (go_at_call 14; refine (HC.out _ K1.out.1).mono ?_; rintro e w2 ⟨rfl, hb2⟩; have K2 : Hid (Below W.heap.size W w2 ∧ El w2 W.heap.size b.1 b.2) := ⟨K1.out.1.trans (hb2.mono K1.out.1.size), K1.out.2.below hb2⟩; clear hb2 K1)
            | (go_at_call 46; refine (HF.out _ K2.out.1).mono ?_; rintro e w3 ⟨rfl, hb3⟩; have K3 : Hid (Below W.heap.size W w3 ∧ El w3 W.heap.size b.1 b.2) := ⟨K2.out.1.trans (hb3.mono K2.out.1.size), K2.out.2.below hb3⟩; clear hb3 K2; obtain ⟨b1, b0⟩ := K3.out.2)
            | (go_at_call 34; refine (HO.out.go _).mono ?_; rintro e w4 ⟨rfl, hb4⟩))
    go_ret
    exact ⟨rfl, K1.out.1⟩
set_option maxHeartbeats 2000000 in
set_option maxRecDepth 100000 in
/-- The column of which a claim speaks. -/
theorem cmcol (g off N cp w n o k : Nat) (ki s : Int) (v : Nat × Nat) (hw : w ≤ 6) (hn : n = 2 ^ w) (ho : o = k * n) (hN : o + n ≤ N) (hc : N ≤ cp) (hk : k ≤ 100) (W : World) :
    Calls Try.prog 45 #[.slice (some ⟨g, off, none⟩) N cp, .int .i64 (w : Int), .agg #[.int .i64 (k : Int), .int .i64 ki, .int .i64 s, .int .u64 (v.1 : Int), .int .u64 (v.2 : Int)]] W fun e w' => e = .returned (.slice (some ⟨g, off + o * 2, none⟩) n (cp - o)) ∧ Below W.heap.size W w' := by
  have hn1 : n ≤ 64 := by rw [hn]; exact Nat.le_trans (Nat.pow_le_pow_right (by decide) hw) (by decide)
  have hn0 : 0 < n := by rw [hn]; exact Nat.two_pow_pos _
  have ho1 : o ≤ 6400 := by rw [ho]; exact Nat.le_trans (Nat.mul_le_mul hk hn1) (by decide)
  have e1 : IntKind.i64.wrap ((k : Int) * 2 ^ w) = (o : Int) := by rw [IntKind.wrap_i64, show (2 : Int) ^ w = ((2 ^ w : Nat) : Int) by simp, ← hn, ← Int.natCast_mul, ← ho]; omega
  have e2 : IntKind.i64.wrap ((k : Int) + 1) = ((k + 1 : Nat) : Int) := by rw [IntKind.wrap_i64]; omega
  have e3 : IntKind.i64.wrap (((k + 1 : Nat) : Int) * 2 ^ w) = ((o + n : Nat) : Int) := by rw [IntKind.wrap_i64, show (2 : Int) ^ w = ((2 ^ w : Nat) : Int) by simp, ← hn, ← Int.natCast_mul, Nat.add_mul, Nat.one_mul, ← ho]; omega
  have e3' : IntKind.i64.wrap (((k : Int) + 1) * 2 ^ w) = ((o + n : Nat) : Int) := by rw [show ((k : Int) + 1) = ((k + 1 : Nat) : Int) by simp]; exact e3
  have hw0 : ¬ (w : Int) < 0 := by omega
  have h1 : (0 : Int) ≤ (o : Int) := by omega
  have h2 : (o : Int) ≤ ((o + n : Nat) : Int) := by omega
  have h3 : ((o + n : Nat) : Int) ≤ (cp : Int) := by omega
  have h2' : (o : Int) ≤ (o : Int) + (n : Int) := by omega
  have h3' : (o : Int) + (n : Int) ≤ (cp : Int) := by omega
  have h4 : ((o : Int) + (n : Int)).toNat = o + n := by omega
  have h5 : o + n - o = n := by omega
  have h6 : ¬ n = 0 := by omega
  have h7 : ¬ cp - o = 0 := by omega
  clear hn ho hN hk
  go_enter Try.func45, Try.ntmps45
  go_wp2_with fail
  have c0 : (W.alloc (Obj.cells #[.int .i64 (k : Int), .int .i64 ki, .int .i64 s, .int .u64 (v.1 : Int), .int .u64 (v.2 : Int)] 60)).cell? ⟨W.heap.size, 0, none⟩ = some (.int .i64 (k : Int)) := by simp [go_sem]
  go_quiet (fail)
  go_wp2
  go_ret
  exact ⟨by first | rfl | simp, below_drewC ((Below.refl _ _).alloc (Nat.le_refl _) _) _⟩
theorem grow_below {w w1 w2 : World} {r : Option Nat} (h : w.grownBy w1 r) (hb : Below w1.heap.size w1 w2) : w.grownBy w2 r := ⟨hb.os.trans h.os, hb.tape.trans h.tape, hb.output.trans h.output, Nat.le_trans h.size hb.size, fun k hk hn => (hb.block k (Nat.lt_of_lt_of_le hk h.size)).trans (h.block k hk hn)⟩
theorem grow_set {w w1 : World} {g : Nat} (h : w.grownBy w1 (some g)) (o : Nat) (u : Value) : w.grownBy (w1.setCell ⟨g, o, none⟩ u) (some g) := ⟨h.os, h.tape, h.output, by simpa [World.setCell] using h.size, fun k hk hn => by
  have hne : ¬ g = k := fun e => hn (by rw [e])
  rw [← h.block k hk hn]
  simp [World.setCell, Array.getElem?_modify, hne]⟩
theorem grow_refl (w : World) (r : Option Nat) : w.grownBy w r := ⟨rfl, rfl, rfl, Nat.le_refl _, fun _ _ _ => rfl⟩
theorem grow_el {w w1 : World} {r : Option Nat} (h : w.grownBy w1 r) {q a b : Nat} (e : El w q a b) (hn : r ≠ some q) : El w1 q a b := El.growR h e hn
theorem grow_row {w w1 : World} {r : Option Nat} (h : w.grownBy w1 r) {a : Option Addr} {es : List (Nat × Nat)} (e : ERow w a es) (hn : ∀ g off, a = some ⟨g, off, none⟩ → r ≠ some g) : ERow w1 a es := ⟨fun i hi => by
  obtain ⟨b, off, e1, hb, c1, c0⟩ := e.cells i hi
  have hk := h.block b hb (fun e2 => hn b off e1 e2.symm)
  exact ⟨b, off, e1, Nat.lt_of_lt_of_le hb h.size, by rw [← c1]; simp [World.cell?, hk], by rw [← c0]; simp [World.cell?, hk]⟩⟩
/-- A row, added to a part of one that is made; the element that it is taken by. -/
structure Ad (W0 w0 w : World) (N : Nat) (h : Nat → Nat × Nat) (qb : Nat) (b : Nat × Nat) : Prop where
  t : Tn W0 w N h
  b : El w qb b.1 b.2
  g : w0.grownBy w (some W0.heap.size)
  n : qb ≠ W0.heap.size
theorem Ad.below {W0 w0 w w' : World} {N : Nat} {h : Nat → Nat × Nat} {qb : Nat} {b : Nat × Nat} (k : Ad W0 w0 w N h qb b) (hb : Below w.heap.size w w') : Ad W0 w0 w' N h qb b := ⟨k.t.below hb, k.b.below hb, grow_below k.g hb, k.n⟩
theorem Ad.drew {W0 w0 w : World} {N : Nat} {h : Nat → Nat × Nat} {qb : Nat} {b : Nat × Nat} (k : Ad W0 w0 w N h qb b) : Ad W0 w0 w.drew N h qb b := k.below (Below.refl _ _).drew
theorem Ad.put {W0 w0 w : World} {N : Nat} {h : Nat → Nat × Nat} {qb : Nat} {b : Nat × Nat} (k : Ad W0 w0 w N h qb b) (j : Nat) (r : Nat × Nat) (h' : Nat → Nat × Nat) (e : ∀ c, c < N → h' c = if c = j then r else h c) :
    Ad W0 w0 ((w.setCell ⟨W0.heap.size, j * 2, none⟩ (.int .u64 (r.1 : Int))).setCell ⟨W0.heap.size, j * 2 + 1, none⟩ (.int .u64 (r.2 : Int))) N h' qb b :=
  ⟨k.t.put j r h' e, k.b.keepR (fun e => k.n e.symm) _ _ _ _, grow_set (grow_set k.g _ _) _ _, k.n⟩
/-- i of the n parts done. -/
def adv (h : Nat → Nat × Nat) (o : Nat) (b : Nat × Nat) (row : List (Nat × Nat)) (i c : Nat) : Nat × Nat := if o ≤ c ∧ c < o + i then xa (h c) (pm b (el row (c - o))) else h c
set_option maxHeartbeats 20000000 in
set_option maxRecDepth 100000 in
theorem cmadd (m : Nat) (W0 w0 : World) (N o n cap cap2 : Nat) (h : Nat → Nat × Nat) (b : Nat × Nat) (a2 : Option Addr) (row : List (Nat × Nat)) (hon : o + n ≤ N) (hN : N ≤ 10000) (hl : row.length = n) (lh : ∀ c, lt2 (h c)) (lb : lt2 b) (lr : ltE row) (ob : ofE m b) (hm : m < 8) (or : ofT m row) (K : Tn W0 w0 N h) (hr : ERow w0 a2 row) (hne : ∀ g off, a2 = some ⟨g, off, none⟩ → g ≠ W0.heap.size) :
    Calls Try.prog 44 #[.int .i64 (m : Int), .slice (some ⟨W0.heap.size, o * 2, none⟩) n cap, .agg #[.int .u64 (b.1 : Int), .int .u64 (b.2 : Int)], .slice a2 n cap2] w0 fun e w' => e = .returned (.tuple #[]) ∧ Tn W0 w' N (adv h o b row n) ∧ w0.grownBy w' (some W0.heap.size) := by
  have HIN : Hid (row.length = n ∧ ERow w0 a2 row ∧ (∀ g off, a2 = some ⟨g, off, none⟩ → g ≠ W0.heap.size) ∧ ltE row ∧ ofT m row) := ⟨hl, hr, hne, lr, or⟩
  have HLH : Hid (∀ c, lt2 (h c)) := lh
  have HB : Hid (lt2 b ∧ ofE m b) := ⟨lb, ob⟩
  have K0 : Hid (Ad W0 w0 (w0.alloc (Obj.cells #[.int .u64 (b.1 : Int), .int .u64 (b.2 : Int)] 26)) N (adv h o b row 0) w0.heap.size b) := ⟨(K.below ((Below.refl _ _).alloc (Nat.le_refl _) _)).like fun c _ => by unfold adv; rw [if_neg (by omega)], El.newR w0 b _, World.grownBy_alloc w0 _ _, by have := K.row.lt; omega⟩
  clear hl hr hne lr or lh lb ob K
  go_enter Try.func44, Try.ntmps44
  go_wp2_with fail
  generalize (w0.alloc (Obj.cells #[.int .u64 (b.1 : Int), .int .u64 (b.2 : Int)] 26)) = wa at *
  generalize w0.heap.size = qb at *
  go_loopw [11] (fun u wr => ∃ i : Nat, i ≤ n ∧ u = .int .i64 i ∧ Hid (Ad W0 w0 wr N (adv h o b row i) qb b)) (fun u _ => n - (intOf u).toNat)
  case atStart => exact ⟨0, Nat.zero_le _, rfl, K0⟩
  case round =>
    obtain ⟨i, hi, rfl, HK⟩ := hrel
    clear K0
    by_cases hlt : i < n
    · have i1 : (i : Int) < (n : Int) := by omega
      have i0 : (0 : Int) ≤ (i : Int) := by omega
      have hoi : o + i < N := by omega
      obtain ⟨b2, o2, rfl, hb2, c1, c0⟩ := HIN.out.2.1.cells i (by rw [HIN.out.1]; exact hlt)
      have hne2 : some b2 ≠ some W0.heap.size := fun e => HIN.out.2.2.1 b2 o2 rfl (by injection e)
      have HC : Hid (∀ w, w0.grownBy w (some W0.heap.size) → w.cell? ⟨b2, o2 + i * 2, none⟩ = some (.int .u64 ((el row i).1 : Int)) ∧ w.cell? ⟨b2, o2 + i * 2 + 1, none⟩ = some (.int .u64 ((el row i).2 : Int))) := fun w hw => by
        have hk := hw.block b2 hb2 hne2
        exact ⟨by rw [show some (Value.int .u64 ((el row i).1 : Int)) = w0.cell? ⟨b2, o2 + i * 2, none⟩ from c1.symm]; simp [World.cell?, hk], by rw [show some (Value.int .u64 ((el row i).2 : Int)) = w0.cell? ⟨b2, o2 + i * 2 + 1, none⟩ from c0.symm]; simp [World.cell?, hk]⟩
      have hx : lt2 (el row i) ∧ ofE m (el row i) := ⟨ltE_el HIN.out.2.2.2.1 i, HIN.out.2.2.2.2.el hm i⟩
      have HT : Hid (adv h o b row i (o + i) = h (o + i)) := by show _ = _; unfold adv; rw [if_neg (by omega)]
      have MU : Hid (Ret 37 #[.int .i64 (m : Int), .agg #[.int .u64 (b.1 : Int), .int .u64 (b.2 : Int)], .agg #[.int .u64 ((el row i).1 : Int), .int .u64 ((el row i).2 : Int)]] (.agg #[.int .u64 ((pm b (el row i)).1 : Int), .int .u64 ((pm b (el row i)).2 : Int)])) := by
        have := mul_any (m : Int) b (el row i) HB.out.1.1 HB.out.1.2 hx.1.1 hx.1.2
        rw [mulv_of HB.out.2 hx.2] at this
        exact this
      have hh := HLH.out (o + i)
      have AD : Hid (Ret 36 #[.agg #[.int .u64 ((h (o + i)).1 : Int), .int .u64 ((h (o + i)).2 : Int)], .agg #[.int .u64 ((pm b (el row i)).1 : Int), .int .u64 ((pm b (el row i)).2 : Int)]] (.agg #[.int .u64 ((xa (h (o + i)) (pm b (el row i))).1 : Int), .int .u64 ((xa (h (o + i)) (pm b (el row i))).2 : Int)])) := fun w => add_any _ _ _ _ hh.1 hh.2 (lt_pm _ _).1 (lt_pm _ _).2 w
      obtain ⟨z, hz⟩ : ∃ z, z = xa (h (o + i)) (pm b (el row i)) := ⟨_, rfl⟩
      rw [← hz] at AD
      have HZ : Hid (z = xa (h (o + i)) (pm b (el row i))) := hz
      have a1 : o * 2 + i * 2 = (o + i) * 2 := by omega
      have a0 : o * 2 + i * 2 + 1 = (o + i) * 2 + 1 := by omega
      have HW : Hid (z = xa (h (o + i)) (pm b (el row i))) := hz
      clear c1 c0 hb2 hne2 hx hh hz HZ
      obtain ⟨y, hy⟩ : ∃ y, y = pm b (el row i) := ⟨_, rfl⟩
      rw [← hy] at MU AD
      obtain ⟨x, hx⟩ : ∃ x, x = el row i := ⟨_, rfl⟩
      rw [← hx] at MU HC
      obtain ⟨u, hu⟩ : ∃ u, u = h (o + i) := ⟨_, rfl⟩
      rw [← hu] at AD HT
      clear hy hx hu
      go_upto_region 4 with fail
      have K := HK.out
      clear HK
      refine wp_region_noPanic ?_
      refine wp_region_peel (S := fun w => w.cell? ⟨W0.heap.size, (o + i) * 2, none⟩ = some (.int .u64 (u.1 : Int)) ∧ w.cell? ⟨W0.heap.size, (o + i) * 2 + 1, none⟩ = some (.int .u64 (u.2 : Int)) ∧ w.cell? ⟨qb, 0, none⟩ = some (.int .u64 (b.1 : Int)) ∧ w.cell? ⟨qb, 1, none⟩ = some (.int .u64 (b.2 : Int)) ∧ w.cell? ⟨b2, o2 + i * 2, none⟩ = some (.int .u64 (x.1 : Int)) ∧ w.cell? ⟨b2, o2 + i * 2 + 1, none⟩ = some (.int .u64 (x.2 : Int))) 15 (by kernel_rfl) rfl (by kernel_rfl) ?_ (fun hHeld => ?_)
      · exact by have f := K.t.facts (o + i) hoi; rw [HT.out] at f; exact ⟨f.1, f.2.1, K.b.hi, K.b.lo, HC.out _ (by first | exact K.g | exact K.drew.g)⟩
      refine wpAnyH_take (i := 0) (oi := _) (v := ?_) rfl (by kernel_rfl) (by kernel_rfl) (by kernel_rfl) (fun _ _ _ h => h) (Or.inl ⟨by rfl, ?_⟩) (by assumption) ?_
      rotate_left
      · ((intro w hSw; (try dsimp only at hSw); go_simp) <;> (try with_reducible rfl))
      try simp only [Act.put]
      refine wpAnyH_take (i := 1) (oi := _) (v := ?_) rfl (by kernel_rfl) (by kernel_rfl) (by kernel_rfl) (fun _ _ _ h => h) (Or.inl ⟨by rfl, ?_⟩) (by assumption) ?_
      rotate_left
      · ((intro w hSw; (try dsimp only at hSw); go_simp) <;> (try with_reducible rfl))
      try simp only [Act.put]
      refine wpAnyH_take (i := 2) (oi := _) (v := ?_) rfl (by kernel_rfl) (by kernel_rfl) (by kernel_rfl) (fun _ _ _ h => h) (Or.inl ⟨by rfl, ?_⟩) (by assumption) ?_
      rotate_left
      · ((intro w hSw; (try dsimp only at hSw); go_simp) <;> (try with_reducible rfl))
      try simp only [Act.put]
      refine wpAnyH_take (i := 3) (oi := _) (v := ?_) rfl (by kernel_rfl) (by kernel_rfl) (by kernel_rfl) (fun _ _ _ h => h) (Or.inl ⟨by rfl, ?_⟩) (by assumption) ?_
      rotate_left
      · ((intro w hSw; (try dsimp only at hSw); go_simp) <;> (try with_reducible rfl))
      try simp only [Act.put]
      refine wpAnyH_take (i := 4) (oi := _) (v := ?_) rfl (by kernel_rfl) (by kernel_rfl) (by kernel_rfl) (fun _ _ _ h => h) (Or.inl ⟨by rfl, ?_⟩) (by assumption) ?_
      rotate_left
      · ((intro w hSw; (try dsimp only at hSw); go_simp) <;> (try with_reducible rfl))
      try simp only [Act.put]
      refine wpAnyH_take (i := 5) (oi := _) (v := ?_) rfl (by kernel_rfl) (by kernel_rfl) (by kernel_rfl) (fun _ _ _ h => h) (Or.inl ⟨by rfl, ?_⟩) (by assumption) ?_
      rotate_left
      · ((intro w hSw; (try dsimp only at hSw); go_simp) <;> (try with_reducible rfl))
      try simp only [Act.put]
      refine wpAnyH_take (i := 6) (oi := _) (v := ?_) rfl (by kernel_rfl) (by kernel_rfl) (by kernel_rfl) (fun _ _ _ h => h) (Or.inl ⟨by rfl, ?_⟩) (by assumption) ?_
      rotate_left
      · ((intro w hSw; (try dsimp only at hSw); go_simp) <;> (try with_reducible rfl))
      try simp only [Act.put]
      refine wpAnyH_take (i := 7) (oi := _) (v := ?_) rfl (by kernel_rfl) (by kernel_rfl) (by kernel_rfl) (fun _ _ _ h => h) (Or.inl ⟨by rfl, ?_⟩) (by assumption) ?_
      rotate_left
      · ((intro w hSw; (try dsimp only at hSw); go_simp) <;> (try with_reducible rfl))
      try simp only [Act.put]
      refine wpAnyH_take (i := 8) (oi := _) (v := ?_) rfl (by kernel_rfl) (by kernel_rfl) (by kernel_rfl) (fun _ _ _ h => h) (Or.inl ⟨by rfl, ?_⟩) (by assumption) ?_
      rotate_left
      · ((intro w hSw; (try dsimp only at hSw); go_simp) <;> (try with_reducible rfl))
      try simp only [Act.put]
      refine wpAnyH_take (i := 9) (oi := _) (v := ?_) rfl (by kernel_rfl) (by kernel_rfl) (by kernel_rfl) (fun _ _ _ h => h) (Or.inl ⟨by rfl, ?_⟩) (by assumption) ?_
      rotate_left
      · ((intro w hSw; (try dsimp only at hSw); go_simp) <;> (try with_reducible rfl))
      try simp only [Act.put]
      refine wpAnyH_take (i := 10) (oi := _) (v := ?_) rfl (by kernel_rfl) (by kernel_rfl) (by kernel_rfl) (fun _ _ _ h => h) (Or.inl ⟨by rfl, ?_⟩) (by assumption) ?_
      rotate_left
      · ((intro w hSw; (try dsimp only at hSw); go_simp) <;> (try with_reducible rfl))
      try simp only [Act.put]
      refine wpAnyH_take (i := 11) (oi := _) (v := ?_) rfl (by kernel_rfl) (by kernel_rfl) (by kernel_rfl) (fun _ _ _ h => h) (Or.inl ⟨by rfl, ?_⟩) (by assumption) ?_
      rotate_left
      · ((intro w hSw; (try dsimp only at hSw); go_simp) <;> (try with_reducible rfl))
      try simp only [Act.put]
      refine wpAnyH_ready (rs := [12]) (by kernel_rfl) (by simp) ?_
      refine AllReadyH.cons (o := _) rfl (fun KK hKK => ?_) AllReadyH.nil
      go_simp
      (go_at_call 37; refine (MU.out.go _).mono ?_; rintro e w' ⟨rfl, hb'⟩)
      have K'' := Ad.below (w' := w') (by first | exact K | exact K.drew) hb'
      clear K hb'
      have K := K''
      clear K''
      (try simp only [World.size_drew] at K)
      refine hKK.out _ _ ?_ (fun hHeld => ?_)
      · exact by have f := K.t.facts (o + i) hoi; rw [HT.out] at f; exact ⟨f.1, f.2.1, K.b.hi, K.b.lo, HC.out _ (by first | exact K.g | exact K.drew.g)⟩
      clear hKK KK
      try simp only [Act.put]
      refine wpAnyH_ready (rs := [13]) (by kernel_rfl) (by simp) ?_
      refine AllReadyH.cons (o := _) rfl (fun KK hKK => ?_) AllReadyH.nil
      go_simp
      (go_at_call 36; refine (AD.out.go _).mono ?_; rintro e w' ⟨rfl, hb'⟩)
      have K'' := Ad.below (w' := w') (by first | exact K | exact K.drew) hb'
      clear K hb'
      have K := K''
      clear K''
      (try simp only [World.size_drew] at K)
      refine hKK.out _ _ ?_ (fun hHeld => ?_)
      · exact by have f := K.t.facts (o + i) hoi; rw [HT.out] at f; exact ⟨f.1, f.2.1, K.b.hi, K.b.lo, HC.out _ (by first | exact K.g | exact K.drew.g)⟩
      clear hKK KK
      try simp only [Act.put]
      refine wpAnyH_take (i := 14) (oi := _) (v := ?_) rfl (by kernel_rfl) (by kernel_rfl) (by kernel_rfl) (fun _ _ _ h => h) (Or.inl ⟨by rfl, ?_⟩) (by assumption) ?_
      rotate_left
      · ((intro w hSw; (try dsimp only at hSw); go_simp) <;> (try with_reducible rfl))
      try simp only [Act.put]
      refine wpAnyH_done (by kernel_rfl) ?_ _
      refine peel_last rfl (fun KK hKK => ?_)
      clear hHeld
      obtain ⟨r1, r0, f1, f0⟩ := K.t.facts (o + i) hoi
      rw [HT.out] at r1 r0
      go_simp
      refine hKK _ _ ?_
      refine NoPanic.normal ?_
      clear hKK KK
      have K2 : Hid (Ad W0 w0 ((w'.setCell ⟨W0.heap.size, (o + i) * 2, none⟩ (.int .u64 (z.1 : Int))).setCell ⟨W0.heap.size, (o + i) * 2 + 1, none⟩ (.int .u64 (z.2 : Int))) N (adv h o b row (i + 1)) qb b) := K.put (o + i) z _ fun c _ => by
        unfold adv
        by_cases h2 : c = o + i
        · rw [if_pos (by omega), if_pos h2, HW.out, h2, Nat.add_sub_cancel_left]
        · rw [if_neg h2]
          by_cases h1 : o ≤ c ∧ c < o + i
          · rw [if_pos h1, if_pos (by omega)]
          · rw [if_neg h1, if_neg (by omega)]
      clear K r1 r0 f1 f0
      go_wp2
      exact ⟨⟨i + 1, hlt, by simp, K2⟩, by simp [intOf]; omega⟩
    · obtain rfl : i = n := by omega
      have HF := hidC (And.intro HK.out.t HK.out.g)
      clear HK HIN HLH HB
      go_wp2
      go_end0
      exact ⟨rfl, HF.out.1, HF.out.2⟩
end Go.Proofs.Ytejoombhcnldmaa
