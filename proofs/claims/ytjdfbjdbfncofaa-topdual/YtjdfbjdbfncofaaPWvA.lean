/- The document's products and powers, over the seat's translation. -/
import Derived.Test.YtjdfbjdbfncofaaRfA
import Derived.Test.YtjdfbjdbfncofaaPTwT
import Derived.Test.YtjdfbjdbfncofaaTwBl
import Derived.Test.YtjdfbjdbfncofaaPCbF
import Derived.Test.YtjdfbjdbfncofaaPSlA
import Derived.Deep.OwnRows
import Derived.BigQuiet
namespace Go.Proofs.Ytjdfbjdbfncofaa
open Go.RowKit

theorem Below.set2 {B p : Nat} {W w : World} (h : Below B W w) (hp : B ≤ p) (u v : Value) : Below B W ((w.setCell ⟨p, 0, none⟩ u).setCell ⟨p, 1, none⟩ v) := (h.setCell hp _).setCell hp _
/-- What lies in memory while the product is reckoned. -/
structure Pst (W w : World) (ah al bh bl oh ol : Nat) : Prop where
  a : Ew w W.heap.size ah al
  b : Ew w (W.heap.size + 1) bh bl
  r : Ew w (W.heap.size + 1 + 1) 0 0
  o : Ew w (W.heap.size + 1 + 1 + 1) oh ol
  d : Below W.heap.size W w
theorem Pst.below {W w w' : World} {ah al bh bl oh ol : Nat} (h : Pst W w ah al bh bl oh ol) (hb : Below w.heap.size w w') : Pst W w' ah al bh bl oh ol :=
  ⟨h.a.below hb, h.b.below hb, h.r.below hb, h.o.below hb, h.d.trans (hb.mono h.d.size)⟩
theorem Pst.alloc {W w : World} {ah al bh bl oh ol : Nat} (h : Pst W w ah al bh bl oh ol) (o : Obj) : Pst W (w.alloc o) ah al bh bl oh ol := h.below ((Below.refl _ _).alloc (Nat.le_refl _) o)
theorem Pst.other {W w : World} {ah al bh bl oh ol p : Nat} (h : Pst W w ah al bh bl oh ol) (hp : W.heap.size + 1 + 1 + 1 < p) (u v : Value) : Pst W ((w.setCell ⟨p, 0, none⟩ u).setCell ⟨p, 1, none⟩ v) ah al bh bl oh ol :=
  ⟨h.a.other (by omega) _ _, h.b.other (by omega) _ _, h.r.other (by omega) _ _, h.o.other (by omega) _ _, Below.set2 h.d (by omega) _ _⟩
theorem Pst.put {W w : World} {ah al bh bl oh ol : Nat} (h : Pst W w ah al bh bl oh ol) (u v : Nat) : Pst W ((w.setCell ⟨W.heap.size + 1 + 1 + 1, 0, none⟩ (.int .u64 (u : Int))).setCell ⟨W.heap.size + 1 + 1 + 1, 1, none⟩ (.int .u64 (v : Int))) ah al bh bl u v :=
  ⟨h.a.other (by omega) _ _, h.b.other (by omega) _ _, h.r.other (by omega) _ _, h.o.set _ _, Below.set2 h.d (by omega) _ _⟩
theorem bit_i64 (n j : Nat) (hn : n < 128) : bits .and .i64 ((n : Int) / 2 ^ j) 1 = ((n / 2 ^ j % 2 : Nat) : Int) := by
  have h1 : n / 2 ^ j < 128 := Nat.lt_of_le_of_lt (Nat.div_le_self _ _) hn
  have h2 : (n : Int) / 2 ^ j = ((n / 2 ^ j : Nat) : Int) := by rw [Int.natCast_ediv, Int.natCast_pow]; rfl
  rw [h2]
  have H : ∀ m : Nat, m < 128 → bits .and .i64 (m : Int) 1 = ((m % 2 : Nat) : Int) := by decide +kernel
  exact H _ h1

set_option maxHeartbeats 4000000 in
set_option maxRecDepth 100000 in
theorem product_core (ah al bh bl : Nat) (hb : Nat → Bool) (ev : Nat → Nat → Nat × Nat) (ov : Nat → Nat × Nat)
    (HS : Hid (∀ n : Nat, n < 128 → Ret 11 #[.agg #[.int .u64 (bh : Int), .int .u64 (bl : Int)], .int .i64 (n : Int)] (.bool (hb n))))
    (E0 : Hid (∀ n, ev n 0 = (ah, al))) (O0 : Hid (ov 0 = (0, 0)))
    (TM : Hid (∀ n j : Nat, n < 128 → j < 7 → n / 2 ^ j % 2 = 1 → Ret 27 #[.int .i64 (j : Int), .agg #[.int .u64 ((ev n j).1 : Int), .int .u64 ((ev n j).2 : Int)]] (.agg #[.int .u64 ((ev n (j + 1)).1 : Int), .int .u64 ((ev n (j + 1)).2 : Int)])))
    (TZ : Hid (∀ n j : Nat, n / 2 ^ j % 2 = 0 → ev n (j + 1) = ev n j))
    (AD : Hid (∀ n : Nat, n < 128 → hb n = true → Ret 26 #[.agg #[.int .u64 ((ov n).1 : Int), .int .u64 ((ov n).2 : Int)], .agg #[.int .u64 ((ev n 7).1 : Int), .int .u64 ((ev n 7).2 : Int)]] (.agg #[.int .u64 ((ov (n + 1)).1 : Int), .int .u64 ((ov (n + 1)).2 : Int)])))
    (AZ : Hid (∀ n : Nat, hb n = false → ov (n + 1) = ov n)) :
    Ret 10 #[.agg #[.int .u64 (ah : Int), .int .u64 (al : Int)], .agg #[.int .u64 (bh : Int), .int .u64 (bl : Int)]] (.agg #[.int .u64 ((ov 128).1 : Int), .int .u64 ((ov 128).2 : Int)]) := by
  intro W
  go_enter Try.func10, Try.ntmps10
  go_wp2_with fail
  go_loopw [6] (fun u wr => ∃ n : Nat, n ≤ 128 ∧ u = .int .i64 n ∧ Pst W wr ah al bh bl (ov n).1 (ov n).2) (fun u _ => 128 - (intOf u).toNat)
  case atStart =>
    refine ⟨0, Nat.zero_le _, rfl, ?_⟩
    rw [O0.out]
    exact ⟨⟨⟨by simp [go_sem], by simp [go_sem]⟩, by simp [go_sem], by simp [go_sem]⟩, ⟨⟨by simp [go_sem], by simp [go_sem]⟩, by simp [go_sem], by simp [go_sem]⟩, ⟨⟨by simp [go_sem], by simp [go_sem]⟩, by simp [go_sem], by simp [go_sem]⟩, ⟨⟨by simp [go_sem], by simp [go_sem]⟩, by simp [go_sem], by simp [go_sem]⟩, by go_grown⟩
  case round =>
    obtain ⟨n, hn, rfl, hP⟩ := hrel
    by_cases hn2 : n < 128
    · have HP : Hid (Pst W wr ah al bh bl (ov n).1 (ov n).2) := hP
      have b1 := hP.b.hi
      have b0 := hP.b.lo
      have HH := HS.out n hn2
      clear hP
      cases hbn : hb n
      · rw [hbn] at HH
        go_wp2_with fail
        refine (HH.go _).mono ?_
        rintro e w4 ⟨rfl, hb4⟩
        have HP4 : Hid (Pst W w4 ah al bh bl (ov n).1 (ov n).2) := HP.out.below hb4
        clear hb4 b1 b0 HP
        have HZ : Hid (ov (n + 1) = ov n) := AZ.out n hbn
        go_wp2
        refine ⟨⟨n + 1, hn2, by simp, ?_⟩, by simp [intOf]; omega⟩
        rw [HZ.out]; exact HP4.out
      · rw [hbn] at HH
        go_wp2_with fail
        refine (HH.go _).mono ?_
        rintro e w4 ⟨rfl, hb4⟩
        have hP4 := HP.out.below hb4
        have HP4 : Hid (Pst W w4 ah al bh bl (ov n).1 (ov n).2) := hP4
        have a1 := hP4.a.hi
        have a0 := hP4.a.lo
        have hlt : W.heap.size + 1 + 1 + 1 < w4.heap.size := hP4.o.toEl.lt
        clear hb4 b1 b0 HP hP4
        go_wp2_with fail
        go_loopw [8] (fun u wi => ∃ j : Nat, j ≤ 7 ∧ u = .int .i64 j ∧ Ew wi w4.heap.size (ev n j).1 (ev n j).2 ∧ Pst W wi ah al bh bl (ov n).1 (ov n).2) (fun u _ => 7 - (intOf u).toNat)
        case atStart =>
          refine ⟨0, Nat.zero_le _, rfl, ?_, HP4.out.alloc _⟩
          rw [E0.out]; exact ⟨⟨by simp [go_sem], by simp [go_sem]⟩, by simp [go_sem], by simp [go_sem]⟩
        case round =>
          obtain ⟨j, hj, rfl, hE, hP⟩ := hrel
          have hle : W.heap.size ≤ w4.heap.size := by omega
          by_cases hj2 : j < 7
          · have HE : Hid (Ew wr w4.heap.size (ev n j).1 (ev n j).2) := hE
            have HP : Hid (Pst W wr ah al bh bl (ov n).1 (ov n).2) := hP
            have e1 := hE.hi
            have e0 := hE.lo
            clear hE hP HP4 a1 a0
            have fb := bit_i64 n j hn2
            have h64 : (j : Int) < 64 := by omega
            by_cases hbit : n / 2 ^ j % 2 = 1
            · rw [hbit] at fb
              have fb1 : bits .and .i64 ((n : Int) / 2 ^ j) 1 = 1 := fb
              have HT := TM.out n j hn2 hj2 hbit
              clear fb hbit
              go_wp2_with fail
              refine (HT.go _).mono ?_
              rintro e w6 ⟨rfl, hb6⟩
              have HE6 : Hid (Ew w6 w4.heap.size (ev n j).1 (ev n j).2) := HE.out.below hb6
              have HP6 : Hid (Pst W w6 ah al bh bl (ov n).1 (ov n).2) := HP.out.below hb6
              clear hb6 HE HP e1 e0
              obtain ⟨⟨e1, e0⟩, t1, t0⟩ := HE6.out
              go_wp2
              exact ⟨⟨j + 1, hj2, by simp, HE6.out.set _ _, HP6.out.other hlt _ _⟩, by simp [intOf]; omega⟩
            · have hbit0 : n / 2 ^ j % 2 = 0 := by omega
              rw [hbit0] at fb
              have fb1 : bits .and .i64 ((n : Int) / 2 ^ j) 1 = 0 := fb
              have HZ : Hid (ev n (j + 1) = ev n j) := TZ.out n j hbit0
              clear fb hbit hbit0
              go_wp2
              refine ⟨⟨j + 1, hj2, by simp, ?_, HP.out⟩, by simp [intOf]; omega⟩
              rw [HZ.out]; exact HE.out
          · obtain rfl : j = 7 := by omega
            have HP : Hid (Pst W wr ah al bh bl (ov n).1 (ov n).2) := hP
            have e1 := hE.hi
            have e0 := hE.lo
            have o1 := hP.o.hi
            have o0 := hP.o.lo
            have HA := AD.out n hn2 hbn
            clear hE hP HP4 a1 a0
            go_wp2_with fail
            refine (HA.go _).mono ?_
            rintro e w6 ⟨rfl, hb6⟩
            have HP6 : Hid (Pst W w6 ah al bh bl (ov n).1 (ov n).2) := HP.out.below hb6
            clear hb6 HP e1 e0 o1 o0
            obtain ⟨⟨e1, e0⟩, t1, t0⟩ := HP6.out.o
            go_wp2
            exact ⟨⟨n + 1, hn2, by simp, HP6.out.put _ _⟩, by simp [intOf]; omega⟩
    · obtain rfl : n = 128 := by omega
      have HD : Hid (Below W.heap.size W wr) := hP.d
      obtain ⟨⟨p1, p0⟩, _, _⟩ := hP.o
      obtain ⟨⟨r1, r0⟩, t1, t0⟩ := hP.r
      clear hP
      go_wp2
      refine bodyPost_ret (v := .agg #[.int .u64 ((ov 128).1 : Int), .int .u64 ((ov 128).2 : Int)]) (by simp [results, Try.results10, go_sem, *]) rfl ⟨rfl, ?_⟩
      exact Below.set2 HD.out (by omega) _ _


/-- The bit n of a pair, as a number. -/
def bitN (h l n : Nat) : Nat := if n < 64 then l / 2 ^ n % 2 else h / 2 ^ (n - 64) % 2
theorem bitN_has (h l n : Nat) : bitN h l n = 1 ↔ hasB h l n = true := by
  unfold bitN hasB
  by_cases h1 : n < 64
  · rw [if_pos h1, if_pos h1, Nat.testBit_eq_decide_div_mod_eq]; simp
  · rw [if_neg h1, if_neg h1, Nat.testBit_eq_decide_div_mod_eq]; simp
theorem of_bits (k h l : Nat) (hk : k < 8) (hh : h < 2 ^ 64) (hl : l < 2 ^ 64) : (∀ n : Nat, 2 ^ k ≤ n → n < 128 → bitN h l n ≠ 1) ↔ (k = 7 ∨ (h = 0 ∧ l < 2 ^ 2 ^ k)) := by
  constructor
  · intro H
    by_cases h7 : k = 7
    · exact .inl h7
    · have hp : 2 ^ k ≤ 64 := Nat.pow_le_pow_right (n := 2) (by decide) (show k ≤ 6 by omega)
      right
      have H' : ∀ n : Nat, 2 ^ k ≤ n → n < 128 → hasB h l n = false := fun n h1 h2 => by
        have := H n h1 h2
        rw [Ne, bitN_has] at this
        simpa using this
      refine ⟨Nat.eq_of_testBit_eq fun i => ?_, Nat.lt_pow_two_of_testBit _ fun i hi => ?_⟩
      · rw [Nat.zero_testBit]
        by_cases hi : i < 64
        · have := H' (64 + i) (by omega) (by omega)
          unfold hasB at this
          rw [if_neg (by omega), show 64 + i - 64 = i by omega] at this
          exact this
        · exact Nat.testBit_lt_two_pow (Nat.lt_of_lt_of_le hh (Nat.pow_le_pow_right (by decide) (by omega)))
      · by_cases hi2 : i < 64
        · have := H' i hi (by omega)
          unfold hasB at this
          rw [if_pos hi2] at this
          exact this
        · exact Nat.testBit_lt_two_pow (Nat.lt_of_lt_of_le hl (Nat.pow_le_pow_right (by decide) (by omega)))
  · rintro (rfl | ⟨rfl, h2⟩) n h3 h4
    · omega
    · unfold bitN
      by_cases h5 : n < 64
      · rw [if_pos h5, Nat.div_eq_of_lt (Nat.lt_of_lt_of_le h2 (Nat.pow_le_pow_right (by decide) h3))]; decide
      · rw [if_neg h5, Nat.zero_div]; decide
theorem rtimes_any (j : Nat) (hj : j < 7) (e : Nat × Nat) (h1 : e.1 < 2 ^ 64) (h2 : e.2 < 2 ^ 64) : Ret 27 #[.int .i64 (j : Int), .agg #[.int .u64 (e.1 : Int), .int .u64 (e.2 : Int)]] (.agg #[.int .u64 ((Tw.tms j e).1 : Int), .int .u64 ((Tw.tms j e).2 : Int)]) := by
  have : j = 0 ∨ j = 1 ∨ j = 2 ∨ j = 3 ∨ j = 4 ∨ j = 5 ∨ j = 6 := by omega
  rcases this with rfl | rfl | rfl | rfl | rfl | rfl | rfl
  · exact times_low 0 (by decide) e.1 e.2 _ _ (tw0 e.1 h1) (tw0 e.2 h2)
  · exact times_low 1 (by decide) e.1 e.2 _ _ (tw1 e.1 h1) (tw1 e.2 h2)
  · exact times_low 2 (by decide) e.1 e.2 _ _ (tw2 e.1 h1) (tw2 e.2 h2)
  · exact times_low 3 (by decide) e.1 e.2 _ _ (tw3 e.1 h1) (tw3 e.2 h2)
  · exact times_low 4 (by decide) e.1 e.2 _ _ (tw4 e.1 h1) (tw4 e.2 h2)
  · exact times_low 5 (by decide) e.1 e.2 _ _ (tw5 e.1 h1) (tw5 e.2 h2)
  · exact times_top e.1 e.2 _ _ (u64_xor_nat _ _ h2 (Tw.px_lt _ _)) (tw5 e.1 h1)
/-- The document's product is the tower's. -/
theorem rproduct_any (ah al bh bl : Nat) (h1 : ah < 2 ^ 64) (h2 : al < 2 ^ 64) (h3 : bh < 2 ^ 64) (h4 : bl < 2 ^ 64) : Ret 10 #[.agg #[.int .u64 (ah : Int), .int .u64 (al : Int)], .agg #[.int .u64 (bh : Int), .int .u64 (bl : Int)]] (.agg #[.int .u64 (Tw.pmh ah al bh bl : Nat), .int .u64 (Tw.pml ah al bh bl : Nat)]) := by
  have H := product_core ah al bh bl (hasB bh bl) (fun n j => Tw.pm (ah, al) (Tw.bitp (n % 2 ^ j))) (fun n => Tw.pm (ah, al) (Tw.lowp (bh, bl) n))
    (fun n hn => has_any bh bl n h3 h4 hn)
    (fun n => by
      show Tw.pm (ah, al) (Tw.bitp (n % 2 ^ 0)) = _
      rw [Nat.pow_zero, Nat.mod_one]
      exact Tw.pm_one' (ah, al) h1 h2)
    (by show Tw.pm _ (Tw.lowp _ 0) = _; rw [Tw.lowp_none, Tw.pm_none])
    (fun n j hn hj hbit => by
      have := rtimes_any j hj (Tw.pm (ah, al) (Tw.bitp (n % 2 ^ j))) (Tw.pm_lt _ _).1 (Tw.pm_lt _ _).2
      rw [Tw.inner_step _ n j hj hbit] at this
      exact this)
    (fun n j h => by show Tw.pm _ (Tw.bitp _) = _; rw [Tw.inner_skip n j h])
    (fun n hn hb => by
      have e7 : n % 2 ^ 7 = n := Nat.mod_eq_of_lt hn
      have hs := Tw.pm_set (ah, al) (bh, bl) n hb
      have := radd (Tw.pm (ah, al) (Tw.lowp (bh, bl) n)).1 (Tw.pm (ah, al) (Tw.lowp (bh, bl) n)).2 (Tw.pm (ah, al) (Tw.bitp n)).1 (Tw.pm (ah, al) (Tw.bitp n)).2 (Tw.pm_lt _ _).1 (Tw.pm_lt _ _).2 (Tw.pm_lt _ _).1 (Tw.pm_lt _ _).2
      simp only [e7, hs]
      exact this)
    (fun n hb => by show Tw.pm _ (Tw.lowp _ _) = _; rw [Tw.lowp_clear (bh, bl) n hb])
  simp only [Tw.lowp_all (bh, bl) h3 h4] at H
  exact H

end Go.Proofs.Ytjdfbjdbfncofaa

/- The document's side of layer 15 over the seat's translation: Log, one, Weight, Value. -/
namespace Go.Proofs.Ytjdfbjdbfncofaa
open Go.RowKit
open Cb
open Tw (pm)

theorem wtf_snoc : ∀ (p : List (Nat × Nat)) (o x : Nat × Nat) (n : Nat), wtf o (p ++ [x]) n = pm (wtf o p n) (fac x (n / 2 ^ p.length))
  | [], o, x, n => by simp [wtf]
  | y :: p, o, x, n => by
    show wtf (pm o (fac y n)) (p ++ [x]) (n / 2) = pm (wtf (pm o (fac y n)) p (n / 2)) (fac x (n / 2 ^ (p.length + 1)))
    rw [wtf_snoc p, Nat.div_div_eq_div_mul, Nat.pow_succ, Nat.mul_comm 2]
/-- A room, and an element that is worked on. -/
structure Wst (W w : World) (q : Nat) (o : Nat × Nat) : Prop where
  r : Ew w W.heap.size 0 0
  o : Ew w q o.1 o.2
  d : Below W.heap.size W w
theorem Wst.below {W w w' : World} {q : Nat} {o : Nat × Nat} (h : Wst W w q o) (hb : Below w.heap.size w w') : Wst W w' q o := ⟨h.r.below hb, h.o.below hb, h.d.trans (hb.mono h.d.size)⟩
theorem Wst.drew {W w : World} {q : Nat} {o : Nat × Nat} (h : Wst W w q o) : Wst W w.drew q o := ⟨h.r.drew, h.o.drew, h.d.drew⟩
theorem Wst.put {W w : World} {q : Nat} {o : Nat × Nat} (h : Wst W w q o) (hq : W.heap.size < q) (v : Nat × Nat) : Wst W ((w.setCell ⟨q, 0, none⟩ (.int .u64 (v.1 : Int))).setCell ⟨q, 1, none⟩ (.int .u64 (v.2 : Int))) q v :=
  ⟨h.r.other (by omega) _ _, h.o.set _ _, below2 (p := q) h.d (by omega) _ _⟩
theorem Wst.facts {W w : World} {q b i : Nat} {o x : Nat × Nat} (h : Wst W w q o) (A : b < W.heap.size ∧ W.cell? ⟨b, i, none⟩ = some (.int .u64 (x.1 : Int)) ∧ W.cell? ⟨b, i + 1, none⟩ = some (.int .u64 (x.2 : Int))) :
    w.cell? ⟨b, i, none⟩ = some (.int .u64 (x.1 : Int)) ∧ w.cell? ⟨b, i + 1, none⟩ = some (.int .u64 (x.2 : Int)) ∧ w.cell? ⟨q, 0, none⟩ = some (.int .u64 (o.1 : Int)) ∧ w.cell? ⟨q, 1, none⟩ = some (.int .u64 (o.2 : Int)) ∧ w.frozen? ⟨q, 0, none⟩ = false ∧ w.frozen? ⟨q, 1, none⟩ = false :=
  ⟨by rw [h.d.cell (p := ⟨b, i, none⟩) A.1]; exact A.2.1, by rw [h.d.cell (p := ⟨b, i + 1, none⟩) A.1]; exact A.2.2, h.o.hi, h.o.lo, h.o.fhi, h.o.flo⟩
theorem rprod (a b : Nat × Nat) (ha : lt2 a) (hb : lt2 b) : Ret 10 #[.agg #[.int .u64 (a.1 : Int), .int .u64 (a.2 : Int)], .agg #[.int .u64 (b.1 : Int), .int .u64 (b.2 : Int)]] (.agg #[.int .u64 ((pm a b).1 : Int), .int .u64 ((pm a b).2 : Int)]) := rproduct_any _ _ _ _ ha.1 ha.2 hb.1 hb.2
theorem rsum (a b : Nat × Nat) (ha : lt2 a) (hb : lt2 b) : Ret 26 #[.agg #[.int .u64 (a.1 : Int), .int .u64 (a.2 : Int)], .agg #[.int .u64 (b.1 : Int), .int .u64 (b.2 : Int)]] (.agg #[.int .u64 ((xa a b).1 : Int), .int .u64 ((xa a b).2 : Int)]) := radd _ _ _ _ ha.1 ha.2 hb.1 hb.2
end Go.Proofs.Ytjdfbjdbfncofaa

/- Contracts of weave.joined over the seat's translation: halves joined to one element. -/
namespace Go.Proofs.Ytjdfbjdbfncofaa
open Go.RowKit

/-- Two halves as one element of the level k. -/
def jn (k : Nat) (x y : Nat × Nat) : Nat × Nat := if k = 7 then (x.2, y.2) else (0, 2 ^ 2 ^ (k - 1) * x.2 + y.2)
def jnd : Nat → Nat → List (Nat × Nat) → Nat × Nat
  | 0, _, es => es.getD 0 (0, 0)
  | d + 1, k, es => jn k (jnd d (k - 1) (es.drop (2 ^ d))) (jnd d (k - 1) (es.take (2 ^ d)))
theorem ERow.drop {w : World} {b off n : Nat} {es : List (Nat × Nat)} (h : ERow w (some ⟨b, off, none⟩) es) : ERow w (some ⟨b, off + n * 2, none⟩) (es.drop n) := ⟨fun i hi => by
  have hi' : n + i < es.length := by simp at hi; omega
  obtain ⟨b', o', e, h1, h2, h3⟩ := h.cells (n + i) hi'
  simp only [Option.some.injEq, Addr.mk.injEq] at e
  obtain ⟨rfl, rfl, _⟩ := e
  have eg : (es.drop n).getD i (0, 0) = es.getD (n + i) (0, 0) := by simp [List.getD]
  refine ⟨_, _, rfl, h1, ?_, ?_⟩
  · rw [eg, ← h2]; congr 2; omega
  · rw [eg, ← h3]; congr 2; omega⟩
theorem ERow.take {w : World} {a : Option Addr} {n : Nat} {es : List (Nat × Nat)} (h : ERow w a es) : ERow w a (es.take n) := ⟨fun i hi => by
  have hi' : i < es.length ∧ i < n := by simp at hi; omega
  obtain ⟨b', o', e, h1, h2, h3⟩ := h.cells i hi'.1
  have eg : (es.take n).getD i (0, 0) = es.getD i (0, 0) := by simp [List.getD, hi'.2]
  exact ⟨_, _, e, h1, by rw [eg]; exact h2, by rw [eg]; exact h3⟩⟩
set_option maxHeartbeats 1000000 in
theorem joined_one (l : Int) (b off cap : Nat) (es : List (Nat × Nat)) (h1 : es.length = 1) (W : World) (hr : ERow W (some ⟨b, off, none⟩) es) :
    Calls Try.prog 67 #[.int .i64 l, .slice (some ⟨b, off, none⟩) 1 cap] W fun e w' => e = .returned (.agg #[.int .u64 ((es.getD 0 (0, 0)).1 : Nat), .int .u64 ((es.getD 0 (0, 0)).2 : Nat)]) ∧ Below W.heap.size W w' := by
  obtain ⟨b', o', e, hb, c1, c0⟩ := hr.cells 0 (by omega)
  simp only [Option.some.injEq, Addr.mk.injEq] at e
  obtain ⟨rfl, rfl, _⟩ := e
  rw [Nat.zero_mul, Nat.add_zero] at c1 c0
  clear hr
  generalize es.getD 0 (0, 0) = x at *
  go_enter Try.func67, Try.ntmps67
  go_wp2
  refine bodyPost_ret (v := .agg #[.int .u64 (x.1 : Nat), .int .u64 (x.2 : Nat)]) (by simp [results, Try.results67, go_sem, *]) rfl ⟨rfl, ?_⟩
  go_grown
set_option maxHeartbeats 1000000 in
theorem joined_step (l l1 : Int) (b off cap n h : Nat) (x y z : Nat × Nat) (hn : n = h + h) (h2 : 0 < h) (hm : n ≤ 1000) (hc : n ≤ cap) (hw : IntKind.i64.wrap (l - 1) = l1) (W : World)
    (HH : Hid (∀ w, Below W.heap.size W w → Calls Try.prog 67 #[.int .i64 l1, .slice (some ⟨b, off + h * 2, none⟩) h (cap - h)] w fun e w' => e = .returned (.agg #[.int .u64 (x.1 : Nat), .int .u64 (x.2 : Nat)]) ∧ Below w.heap.size w w'))
    (HL : Hid (∀ w, Below W.heap.size W w → Calls Try.prog 67 #[.int .i64 l1, .slice (some ⟨b, off, none⟩) h cap] w fun e w' => e = .returned (.agg #[.int .u64 (y.1 : Nat), .int .u64 (y.2 : Nat)]) ∧ Below w.heap.size w w'))
    (HJ : Hid (Ret 74 #[.int .i64 l, .agg #[.int .u64 (x.1 : Nat), .int .u64 (x.2 : Nat)], .agg #[.int .u64 (y.1 : Nat), .int .u64 (y.2 : Nat)]] (.agg #[.int .u64 (z.1 : Nat), .int .u64 (z.2 : Nat)]))) :
    Calls Try.prog 67 #[.int .i64 l, .slice (some ⟨b, off, none⟩) n cap] W fun e w' => e = .returned (.agg #[.int .u64 (z.1 : Nat), .int .u64 (z.2 : Nat)]) ∧ Below W.heap.size W w' := by
  have hne : ¬ (n : Int) = 1 := by omega
  have hne' : ¬ n = 1 := by omega
  have hq : (n : Int).tdiv 2 = (h : Int) := by rw [hn, Int.tdiv_eq_ediv_of_nonneg (by omega)]; omega
  have i1 : (0 : Int) ≤ (h : Int) := by omega
  have i2 : (h : Int) ≤ (n : Int) := by omega
  have i3 : (n : Int) ≤ (cap : Int) := by omega
  have i4 : (h : Int) ≤ (cap : Int) := by omega
  have i5 : n - h = h := by omega
  have i6 : ¬ cap = h := by omega
  have i7 : ¬ cap = 0 := by omega
  have HN : Hid (n = h + h) := hn
  clear hn
  go_enter Try.func67, Try.ntmps67
  go_wp2_with fail
  have B : Bl W (W.alloc (Obj.cells #[.int .u64 0, .int .u64 0] 24)) [] [W.heap.size] := ⟨trivial, ⟨⟨by simp [go_sem], by simp [go_sem], by simp [go_sem], by simp [go_sem]⟩, trivial⟩, by go_grown⟩
  generalize W.alloc (Obj.cells #[.int .u64 0, .int .u64 0] 24) = w3 at *
  have F := B.facts
  simp only [Els, Wrs, and_true] at F
  go_region_held3 (fun _ => True) (trivial) (first | (go_at_call_of 67 (#[.int .i64 l1, .slice (some ⟨b, off + h * 2, none⟩) h (cap - h)] : Array Value); refine (HH.out _ (by first | exact B.b | exact B.drew.b)).mono ?_; rintro e w' ⟨rfl, hb'⟩; have B'' := Bl.below (w' := w') (by first | exact B | exact B.drew) hb'; clear F B hb'; have B := B''; clear B''; (try simp only [World.size_drew] at B); have F := B.facts; simp only [Els, Wrs, and_true] at F) | (go_at_call_of 67 (#[.int .i64 l1, .slice (some ⟨b, off, none⟩) h cap] : Array Value); refine (HL.out _ (by first | exact B.b | exact B.drew.b)).mono ?_; rintro e w' ⟨rfl, hb'⟩; have B'' := Bl.below (w' := w') (by first | exact B | exact B.drew) hb'; clear F B hb'; have B := B''; clear B''; (try simp only [World.size_drew] at B); have F := B.facts; simp only [Els, Wrs, and_true] at F) | (go_at_call 74; refine (HJ.out.go _).mono ?_; rintro e w' ⟨rfl, hb'⟩; have B'' := Bl.below (w' := w') (by first | exact B | exact B.drew) hb'; clear F B hb'; have B := B''; clear B''; (try simp only [World.size_drew] at B); have F := B.facts; simp only [Els, Wrs, and_true] at F))
  all_goals
    go_wp2
    refine bodyPost_ret (v := .agg #[.int .u64 (z.1 : Nat), .int .u64 (z.2 : Nat)]) (by simp [results, Try.results67, go_sem, *]) rfl ⟨rfl, ?_⟩
    exact (B.b.setCell (Nat.le_refl _) _).setCell (Nat.le_refl _) _
end Go.Proofs.Ytjdfbjdbfncofaa
