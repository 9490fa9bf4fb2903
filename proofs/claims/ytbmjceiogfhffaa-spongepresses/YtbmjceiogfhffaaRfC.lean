/- Contract of steepleref02.Product over the seat's translation: the walk. -/
import Derived.Test.YtbmjceiogfhffaaRfB
namespace Go.Proofs.Ytbmjceiogfhffaa
open Go.RowKit

theorem Below.set2 {B p : Nat} {W w : World} (h : Below B W w) (hp : B ≤ p) (u v : Value) : Below B W ((w.setCell ⟨p, 0, none⟩ u).setCell ⟨p, 1, none⟩ v) := (h.setCell hp _).setCell hp _
/-- What lies in memory while the product is reckoned. -/
structure Pst (W w : World) (ah al bh bl oh ol : Nat) : Prop where
  a : Ew w W.heap.size ah al
  b : Ew w (W.heap.size + 1) bh bl
  r : Ew w (W.heap.size + 1 + 1) 0 0
  o : Ew w (W.heap.size + 1 + 1 + 1) oh ol
  d : Below W.heap.size W w
theorem Pst.below {W w w' : World} {ah al bh bl oh ol : Nat} (h : Pst W w ah al bh bl oh ol) (hb : Below w.heap.size w w') : Pst W w' ah al bh bl oh ol :=
  ⟨h.a.below hb, h.b.below hb, h.r.below hb, h.o.below hb, h.d.trans (hb.mono h.d.size)⟩
theorem Pst.alloc {W w : World} {ah al bh bl oh ol : Nat} (h : Pst W w ah al bh bl oh ol) (o : Obj) : Pst W (w.alloc o) ah al bh bl oh ol := h.below ((Below.refl _ _).alloc (Nat.le_refl _) o)
theorem Pst.other {W w : World} {ah al bh bl oh ol p : Nat} (h : Pst W w ah al bh bl oh ol) (hp : W.heap.size + 1 + 1 + 1 < p) (u v : Value) : Pst W ((w.setCell ⟨p, 0, none⟩ u).setCell ⟨p, 1, none⟩ v) ah al bh bl oh ol :=
  ⟨h.a.other (by omega) _ _, h.b.other (by omega) _ _, h.r.other (by omega) _ _, h.o.other (by omega) _ _, Below.set2 h.d (by omega) _ _⟩
theorem Pst.put {W w : World} {ah al bh bl oh ol : Nat} (h : Pst W w ah al bh bl oh ol) (u v : Nat) : Pst W ((w.setCell ⟨W.heap.size + 1 + 1 + 1, 0, none⟩ (.int .u64 (u : Int))).setCell ⟨W.heap.size + 1 + 1 + 1, 1, none⟩ (.int .u64 (v : Int))) ah al bh bl u v :=
  ⟨h.a.other (by omega) _ _, h.b.other (by omega) _ _, h.r.other (by omega) _ _, h.o.set _ _, Below.set2 h.d (by omega) _ _⟩
theorem bit_i64 (n j : Nat) (hn : n < 128) : bits .and .i64 ((n : Int) / 2 ^ j) 1 = ((n / 2 ^ j % 2 : Nat) : Int) := by
  have h1 : n / 2 ^ j < 128 := Nat.lt_of_le_of_lt (Nat.div_le_self _ _) hn
  have h2 : (n : Int) / 2 ^ j = ((n / 2 ^ j : Nat) : Int) := by rw [Int.natCast_ediv, Int.natCast_pow]; rfl
  rw [h2]
  have H : ∀ m : Nat, m < 128 → bits .and .i64 (m : Int) 1 = ((m % 2 : Nat) : Int) := by decide +kernel
  exact H _ h1

set_option maxHeartbeats 4000000 in
set_option maxRecDepth 100000 in
theorem product_core (ah al bh bl : Nat) (hb : Nat → Bool) (ev : Nat → Nat → Nat × Nat) (ov : Nat → Nat × Nat)
    (HS : Hid (∀ n : Nat, n < 128 → Ret 50 #[.agg #[.int .u64 (bh : Int), .int .u64 (bl : Int)], .int .i64 (n : Int)] (.bool (hb n))))
    (E0 : Hid (∀ n, ev n 0 = (ah, al))) (O0 : Hid (ov 0 = (0, 0)))
    (TM : Hid (∀ n j : Nat, n < 128 → j < 7 → n / 2 ^ j % 2 = 1 → Ret 51 #[.int .i64 (j : Int), .agg #[.int .u64 ((ev n j).1 : Int), .int .u64 ((ev n j).2 : Int)]] (.agg #[.int .u64 ((ev n (j + 1)).1 : Int), .int .u64 ((ev n (j + 1)).2 : Int)])))
    (TZ : Hid (∀ n j : Nat, n / 2 ^ j % 2 = 0 → ev n (j + 1) = ev n j))
    (AD : Hid (∀ n : Nat, n < 128 → hb n = true → Ret 52 #[.agg #[.int .u64 ((ov n).1 : Int), .int .u64 ((ov n).2 : Int)], .agg #[.int .u64 ((ev n 7).1 : Int), .int .u64 ((ev n 7).2 : Int)]] (.agg #[.int .u64 ((ov (n + 1)).1 : Int), .int .u64 ((ov (n + 1)).2 : Int)])))
    (AZ : Hid (∀ n : Nat, hb n = false → ov (n + 1) = ov n)) :
    Ret 31 #[.agg #[.int .u64 (ah : Int), .int .u64 (al : Int)], .agg #[.int .u64 (bh : Int), .int .u64 (bl : Int)]] (.agg #[.int .u64 ((ov 128).1 : Int), .int .u64 ((ov 128).2 : Int)]) := by
  intro W
  go_enter Try.func31, Try.ntmps31
  go_wp2_with fail
  go_loopw [6] (fun u wr => ∃ n : Nat, n ≤ 128 ∧ u = .int .i64 n ∧ Pst W wr ah al bh bl (ov n).1 (ov n).2) (fun u _ => 128 - (intOf u).toNat)
  case atStart =>
    refine ⟨0, Nat.zero_le _, rfl, ?_⟩
    rw [O0.out]
    exact ⟨⟨⟨by simp [go_sem], by simp [go_sem]⟩, by simp [go_sem], by simp [go_sem]⟩, ⟨⟨by simp [go_sem], by simp [go_sem]⟩, by simp [go_sem], by simp [go_sem]⟩, ⟨⟨by simp [go_sem], by simp [go_sem]⟩, by simp [go_sem], by simp [go_sem]⟩, ⟨⟨by simp [go_sem], by simp [go_sem]⟩, by simp [go_sem], by simp [go_sem]⟩, by go_grown⟩
  case round =>
    obtain ⟨n, hn, rfl, hP⟩ := hrel
    by_cases hn2 : n < 128
    · have HP : Hid (Pst W wr ah al bh bl (ov n).1 (ov n).2) := hP
      have b1 := hP.b.hi
      have b0 := hP.b.lo
      have HH := HS.out n hn2
      clear hP
      cases hbn : hb n
      · rw [hbn] at HH
        go_wp2_with fail
        refine (HH.go _).mono ?_
        rintro e w4 ⟨rfl, hb4⟩
        have HP4 : Hid (Pst W w4 ah al bh bl (ov n).1 (ov n).2) := HP.out.below hb4
        clear hb4 b1 b0 HP
        have HZ : Hid (ov (n + 1) = ov n) := AZ.out n hbn
        go_wp2
        refine ⟨⟨n + 1, hn2, by simp, ?_⟩, by simp [intOf]; omega⟩
        rw [HZ.out]; exact HP4.out
      · rw [hbn] at HH
        go_wp2_with fail
        refine (HH.go _).mono ?_
        rintro e w4 ⟨rfl, hb4⟩
        have hP4 := HP.out.below hb4
        have HP4 : Hid (Pst W w4 ah al bh bl (ov n).1 (ov n).2) := hP4
        have a1 := hP4.a.hi
        have a0 := hP4.a.lo
        have hlt : W.heap.size + 1 + 1 + 1 < w4.heap.size := hP4.o.toEl.lt
        clear hb4 b1 b0 HP hP4
        go_wp2_with fail
        go_loopw [8] (fun u wi => ∃ j : Nat, j ≤ 7 ∧ u = .int .i64 j ∧ Ew wi w4.heap.size (ev n j).1 (ev n j).2 ∧ Pst W wi ah al bh bl (ov n).1 (ov n).2) (fun u _ => 7 - (intOf u).toNat)
        case atStart =>
          refine ⟨0, Nat.zero_le _, rfl, ?_, HP4.out.alloc _⟩
          rw [E0.out]; exact ⟨⟨by simp [go_sem], by simp [go_sem]⟩, by simp [go_sem], by simp [go_sem]⟩
        case round =>
          obtain ⟨j, hj, rfl, hE, hP⟩ := hrel
          have hle : W.heap.size ≤ w4.heap.size := by omega
          by_cases hj2 : j < 7
          · have HE : Hid (Ew wr w4.heap.size (ev n j).1 (ev n j).2) := hE
            have HP : Hid (Pst W wr ah al bh bl (ov n).1 (ov n).2) := hP
            have e1 := hE.hi
            have e0 := hE.lo
            clear hE hP HP4 a1 a0
            have fb := bit_i64 n j hn2
            have h64 : (j : Int) < 64 := by omega
            by_cases hbit : n / 2 ^ j % 2 = 1
            · rw [hbit] at fb
              have fb1 : bits .and .i64 ((n : Int) / 2 ^ j) 1 = 1 := fb
              have HT := TM.out n j hn2 hj2 hbit
              clear fb hbit
              go_wp2_with fail
              refine (HT.go _).mono ?_
              rintro e w6 ⟨rfl, hb6⟩
              have HE6 : Hid (Ew w6 w4.heap.size (ev n j).1 (ev n j).2) := HE.out.below hb6
              have HP6 : Hid (Pst W w6 ah al bh bl (ov n).1 (ov n).2) := HP.out.below hb6
              clear hb6 HE HP e1 e0
              obtain ⟨⟨e1, e0⟩, t1, t0⟩ := HE6.out
              go_wp2
              exact ⟨⟨j + 1, hj2, by simp, HE6.out.set _ _, HP6.out.other hlt _ _⟩, by simp [intOf]; omega⟩
            · have hbit0 : n / 2 ^ j % 2 = 0 := by omega
              rw [hbit0] at fb
              have fb1 : bits .and .i64 ((n : Int) / 2 ^ j) 1 = 0 := fb
              have HZ : Hid (ev n (j + 1) = ev n j) := TZ.out n j hbit0
              clear fb hbit hbit0
              go_wp2
              refine ⟨⟨j + 1, hj2, by simp, ?_, HP.out⟩, by simp [intOf]; omega⟩
              rw [HZ.out]; exact HE.out
          · obtain rfl : j = 7 := by omega
            have HP : Hid (Pst W wr ah al bh bl (ov n).1 (ov n).2) := hP
            have e1 := hE.hi
            have e0 := hE.lo
            have o1 := hP.o.hi
            have o0 := hP.o.lo
            have HA := AD.out n hn2 hbn
            clear hE hP HP4 a1 a0
            go_wp2_with fail
            refine (HA.go _).mono ?_
            rintro e w6 ⟨rfl, hb6⟩
            have HP6 : Hid (Pst W w6 ah al bh bl (ov n).1 (ov n).2) := HP.out.below hb6
            clear hb6 HP e1 e0 o1 o0
            obtain ⟨⟨e1, e0⟩, t1, t0⟩ := HP6.out.o
            go_wp2
            exact ⟨⟨n + 1, hn2, by simp, HP6.out.put _ _⟩, by simp [intOf]; omega⟩
    · obtain rfl : n = 128 := by omega
      have HD : Hid (Below W.heap.size W wr) := hP.d
      obtain ⟨⟨p1, p0⟩, _, _⟩ := hP.o
      obtain ⟨⟨r1, r0⟩, t1, t0⟩ := hP.r
      clear hP
      go_wp2
      refine bodyPost_ret (v := .agg #[.int .u64 ((ov 128).1 : Int), .int .u64 ((ov 128).2 : Int)]) (by simp [results, Try.results31, go_sem, *]) rfl ⟨rfl, ?_⟩
      exact Below.set2 HD.out (by omega) _ _
end Go.Proofs.Ytbmjceiogfhffaa
