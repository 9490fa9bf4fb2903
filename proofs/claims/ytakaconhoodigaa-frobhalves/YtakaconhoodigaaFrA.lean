/- Contracts of frob.over, power, Power and Root over the seat's translation. -/
import Derived.Test.YtakaconhoodigaaPFrL
namespace Go.Proofs.Ytakaconhoodigaa
open Go.RowKit
open Cb
open Tw (pm sqp)

theorem hidF {a : Prop} (h : a) : Hid a := h
/-- Is it of the level, and the other one a level below? -/
def ovB (l t : Int) (a : Nat × Nat) : Bool := ofB l (a.1 : Int) (a.2 : Int) && (decide (0 ≤ t) && decide (t ≤ l))
set_option maxHeartbeats 2000000 in
theorem over_any (l t : Int) (a : Nat × Nat) (la : lt2 a) : Ret 40 #[.int .i64 l, .int .i64 t, .agg #[.int .u64 (a.1 : Int), .int .u64 (a.2 : Int)]] (.bool (ovB l t a)) := by
  have HO := hidF (of_ret l a.1 a.2 la.2)
  unfold ovB
  clear la
  generalize ofB l (a.1 : Int) (a.2 : Int) = o at *
  obtain ⟨r, hr⟩ : ∃ r, r = (o && (decide (0 ≤ t) && decide (t ≤ l))) := ⟨_, rfl⟩
  have HR := hidF hr
  rw [← hr]
  clear hr
  intro W
  have go : ∀ c1 c2 : Bool, (c1 = true ↔ 0 ≤ t) → (c2 = true ↔ t ≤ l) → Calls Try.prog 40 #[.int .i64 l, .int .i64 t, .agg #[.int .u64 (a.1 : Int), .int .u64 (a.2 : Int)]] W fun e w' => e = .returned (.bool (o && (c1 && c2))) ∧ Below W.heap.size W w' := by
    clear HR
    intro c1 c2 h1 h2
    cases o <;> cases c1 <;> cases c2
    all_goals (simp only [Bool.false_eq_true, false_iff, true_iff, Int.not_le] at h1 h2)
    all_goals (go_enter Try.func40, Try.ntmps40)
    all_goals (go_wp2_with (go_at_call 15; refine (HO.out.go _).mono ?_; rintro e w1 ⟨rfl, hb1⟩))
    all_goals (try omega)
    all_goals (go_ret; exact ⟨by first | rfl | (simp; omega), ((Below.refl _ _).alloc (Nat.le_refl _) _).trans (hb1.mono (by simp))⟩)
  rw [HR.out]
  exact go _ _ (by simp) (by simp)

/-- Squared n times. -/
def sqv (a : Nat × Nat) (n : Nat) : Nat × Nat := sqp a.1 a.2 n
theorem sqv_succ (a : Nat × Nat) (n : Nat) : sqv a (n + 1) = pm (sqv a n) (sqv a n) := rfl
theorem lt_sqv {a : Nat × Nat} (h : lt2 a) (n : Nat) : lt2 (sqv a n) := Tw.sqp_lt h.1 h.2 n
theorem of_sqv {k : Nat} (hk : k < 8) {a : Nat × Nat} (h : ofE k a) : ∀ n, ofE k (sqv a n)
  | 0 => h
  | n + 1 => of_pm hk (of_sqv hk h n) (of_sqv hk h n)
theorem d7_sqv (a : Nat × Nat) (n : Nat) : Tw.d7 (sqv a n).1 (sqv a n).2 = Tw.sqn 7 n (Tw.d7 a.1 a.2) := Tw.d7_sqp _ _ _
theorem d7_ext {a b : Nat × Nat} (ha : lt2 a) (hb : lt2 b) (h : Tw.d7 a.1 a.2 = Tw.d7 b.1 b.2) : a = b := Prod.ext (Tw.d7_inj ha.1 ha.2 hb.1 hb.2 h).1 (Tw.d7_inj ha.1 ha.2 hb.1 hb.2 h).2
theorem sqv_sqv {a : Nat × Nat} (h : lt2 a) (m n : Nat) : sqv (sqv a m) n = sqv a (m + n) :=
  d7_ext (lt_sqv (lt_sqv h m) n) (lt_sqv h _) (by rw [d7_sqv, d7_sqv, d7_sqv, Tw.sqn_sqn])
theorem sqv_back {k : Nat} (hk : k < 8) {a : Nat × Nat} (h : lt2 a) (o : ofE k a) : sqv a (2 ^ k) = a := Tw.sqp_back hk h.1 h.2 ((ofB_iff k a.1 a.2 hk).1 o)

set_option maxHeartbeats 4000000 in
set_option maxRecDepth 100000 in
theorem power_ok (k n : Nat) (hk : k < 8) (hn : n ≤ 1000) (a : Nat × Nat) (la : lt2 a) (oa : ofE k a) :
    Ret 33 #[.int .i64 (k : Int), .agg #[.int .u64 (a.1 : Int), .int .u64 (a.2 : Int)], .int .i64 (n : Int)] (.agg #[.int .u64 ((sqv a n).1 : Int), .int .u64 ((sqv a n).2 : Int)]) := by
  intro W
  have SQ : Hid (∀ j, Ret 43 #[.int .i64 (k : Int), .agg #[.int .u64 ((sqv a j).1 : Int), .int .u64 ((sqv a j).2 : Int)]] (.agg #[.int .u64 ((sqv a (j + 1)).1 : Int), .int .u64 ((sqv a (j + 1)).2 : Int)])) := fun j => by
    have := square_ret (k : Int) (sqv a j) (lt_sqv la j).1 (lt_sqv la j).2
    rw [mulv_of (of_sqv hk oa j) (of_sqv hk oa j)] at this
    exact this
  have hq0 : sqv a 0 = a := rfl
  clear la oa hk
  generalize sqv a = q at *
  go_enter Try.func33, Try.ntmps33
  go_wp2_with fail
  have E0 : Ew ((W.alloc (Obj.cells #[.int .u64 (a.1 : Int), .int .u64 (a.2 : Int)] 24)).alloc (Obj.cells #[.int .u64 0, .int .u64 0] 24)) W.heap.size (q 0).1 (q 0).2 := by rw [hq0]; exact ⟨⟨by simp [go_sem], by simp [go_sem]⟩, by simp [go_sem], by simp [go_sem]⟩
  have E1 : Ew ((W.alloc (Obj.cells #[.int .u64 (a.1 : Int), .int .u64 (a.2 : Int)] 24)).alloc (Obj.cells #[.int .u64 0, .int .u64 0] 24)) (W.heap.size + 1) 0 0 := ⟨⟨by simp [go_sem], by simp [go_sem]⟩, by simp [go_sem], by simp [go_sem]⟩
  have E2 : Below W.heap.size W ((W.alloc (Obj.cells #[.int .u64 (a.1 : Int), .int .u64 (a.2 : Int)] 24)).alloc (Obj.cells #[.int .u64 0, .int .u64 0] 24)) := ((Below.refl _ _).alloc (Nat.le_refl _) _).alloc (by simp) _
  clear hq0
  generalize ((W.alloc (Obj.cells #[.int .u64 (a.1 : Int), .int .u64 (a.2 : Int)] 24)).alloc (Obj.cells #[.int .u64 0, .int .u64 0] 24)) = w0 at *
  go_loopw [8] (fun u wr => ∃ j : Nat, j ≤ n ∧ u = .int .i64 j ∧ Ew wr W.heap.size (q j).1 (q j).2 ∧ Ew wr (W.heap.size + 1) 0 0 ∧ Below W.heap.size W wr) (fun u _ => n - (intOf u).toNat)
  case atStart => exact ⟨0, Nat.zero_le _, rfl, E0, E1, E2⟩
  case round =>
    obtain ⟨j, hj, rfl, hs, hx, hbw⟩ := hrel
    have HS := hidF hs
    have HX := hidF hx
    have HB := hidF hbw
    have s1 := hs.hi
    have s0 := hs.lo
    clear hs hx hbw E0 E1 E2
    by_cases hjl : j < n
    · go_wp2_with (go_at_call 43; refine ((SQ.out j).go _).mono ?_; rintro e w2 ⟨rfl, hb2⟩; have HS2 := hidF (HS.out.below hb2); have HX2 := hidF (HX.out.below hb2); have HB2 := hidF (HB.out.trans (hb2.mono HB.out.size)); have g1 := HS2.out.hi; have g0 := HS2.out.lo; have t1 := HS2.out.fhi; have t0 := HS2.out.flo; clear hb2 HS HX HB s1 s0)
      go_roundw
      case rel => exact ⟨j + 1, hjl, by go_num, HS2.out.set _ _, ⟨⟨by have := HX2.out.hi; simp [go_sem, *], by have := HX2.out.lo; simp [go_sem, *]⟩, by have := HX2.out.fhi; simp [go_sem, *], by have := HX2.out.flo; simp [go_sem, *]⟩, (HB2.out.setCell (Nat.le_refl _) _).setCell (Nat.le_refl _) _⟩
      case measure => simp [intOf]; omega
    · obtain rfl : j = n := by omega
      obtain ⟨⟨x1, x0⟩, f1, f0⟩ := HX.out
      have HB' := hidF HB.out
      clear HS HX HB
      go_wp2
      refine bodyPost_ret (v := .agg #[.int .u64 ((q j).1 : Int), .int .u64 ((q j).2 : Int)]) (by simp [results, Try.results33, go_sem, *]) rfl ⟨rfl, ?_⟩
      exact (HB'.out.setCell (by simp) _).setCell (by simp) _

/-- a to the power 2^n, as Power tells it. -/
def pwv (l : Int) (a : Nat × Nat) (n : Int) : Nat × Nat := if ofB l (a.1 : Int) (a.2 : Int) = true ∧ 0 ≤ n ∧ n < ((2 ^ l.toNat : Nat) : Int) then sqv a n.toNat else (0, 0)
def rtv (l : Int) (a : Nat × Nat) : Nat × Nat := if ofB l (a.1 : Int) (a.2 : Int) = true then sqv a (2 ^ l.toNat - 1) else (0, 0)
end Go.Proofs.Ytakaconhoodigaa
