/- The document's side of layer 15 over the seat's translation: Log, one, Weight, Value. -/
import Derived.Test.YtcejppibcemdeaaPCbF
import Derived.Test.YtcejppibcemdeaaRfE
namespace Go.Proofs.Ytcejppibcemdeaa
open Go.RowKit
open Cb
open Tw (pm)

theorem rone : Ret 62 #[] (.agg #[.int .u64 0, .int .u64 1]) := by
  intro W
  go_enter Try.func62, Try.ntmps62
  go_wp2
  refine bodyPost_ret (v := .agg #[.int .u64 0, .int .u64 1]) (by simp [results, Try.results62, go_sem]) rfl ⟨rfl, ?_⟩
  go_grown
theorem wtf_snoc : ∀ (p : List (Nat × Nat)) (o x : Nat × Nat) (n : Nat), wtf o (p ++ [x]) n = pm (wtf o p n) (fac x (n / 2 ^ p.length))
  | [], o, x, n => by simp [wtf]
  | y :: p, o, x, n => by
    show wtf (pm o (fac y n)) (p ++ [x]) (n / 2) = pm (wtf (pm o (fac y n)) p (n / 2)) (fac x (n / 2 ^ (p.length + 1)))
    rw [wtf_snoc p, Nat.div_div_eq_div_mul, Nat.pow_succ, Nat.mul_comm 2]
/-- A room, and an element that is worked on. -/
structure Wst (W w : World) (q : Nat) (o : Nat × Nat) : Prop where
  r : Ew w W.heap.size 0 0
  o : Ew w q o.1 o.2
  d : Below W.heap.size W w
theorem Wst.below {W w w' : World} {q : Nat} {o : Nat × Nat} (h : Wst W w q o) (hb : Below w.heap.size w w') : Wst W w' q o := ⟨h.r.below hb, h.o.below hb, h.d.trans (hb.mono h.d.size)⟩
theorem Wst.drew {W w : World} {q : Nat} {o : Nat × Nat} (h : Wst W w q o) : Wst W w.drew q o := ⟨h.r.drew, h.o.drew, h.d.drew⟩
theorem Wst.put {W w : World} {q : Nat} {o : Nat × Nat} (h : Wst W w q o) (hq : W.heap.size < q) (v : Nat × Nat) : Wst W ((w.setCell ⟨q, 0, none⟩ (.int .u64 (v.1 : Int))).setCell ⟨q, 1, none⟩ (.int .u64 (v.2 : Int))) q v :=
  ⟨h.r.other (by omega) _ _, h.o.set _ _, below2 (p := q) h.d (by omega) _ _⟩
theorem Wst.facts {W w : World} {q b i : Nat} {o x : Nat × Nat} (h : Wst W w q o) (A : b < W.heap.size ∧ W.cell? ⟨b, i, none⟩ = some (.int .u64 (x.1 : Int)) ∧ W.cell? ⟨b, i + 1, none⟩ = some (.int .u64 (x.2 : Int))) :
    w.cell? ⟨b, i, none⟩ = some (.int .u64 (x.1 : Int)) ∧ w.cell? ⟨b, i + 1, none⟩ = some (.int .u64 (x.2 : Int)) ∧ w.cell? ⟨q, 0, none⟩ = some (.int .u64 (o.1 : Int)) ∧ w.cell? ⟨q, 1, none⟩ = some (.int .u64 (o.2 : Int)) ∧ w.frozen? ⟨q, 0, none⟩ = false ∧ w.frozen? ⟨q, 1, none⟩ = false :=
  ⟨by rw [h.d.cell (p := ⟨b, i, none⟩) A.1]; exact A.2.1, by rw [h.d.cell (p := ⟨b, i + 1, none⟩) A.1]; exact A.2.2, h.o.hi, h.o.lo, h.o.fhi, h.o.flo⟩
theorem rprod (a b : Nat × Nat) (ha : lt2 a) (hb : lt2 b) : Ret 45 #[.agg #[.int .u64 (a.1 : Int), .int .u64 (a.2 : Int)], .agg #[.int .u64 (b.1 : Int), .int .u64 (b.2 : Int)]] (.agg #[.int .u64 ((pm a b).1 : Int), .int .u64 ((pm a b).2 : Int)]) := rproduct_any _ _ _ _ ha.1 ha.2 hb.1 hb.2
theorem rsum (a b : Nat × Nat) (ha : lt2 a) (hb : lt2 b) : Ret 44 #[.agg #[.int .u64 (a.1 : Int), .int .u64 (a.2 : Int)], .agg #[.int .u64 (b.1 : Int), .int .u64 (b.2 : Int)]] (.agg #[.int .u64 ((xa a b).1 : Int), .int .u64 ((xa a b).2 : Int)]) := radd _ _ _ _ ha.1 ha.2 hb.1 hb.2
set_option maxHeartbeats 4000000 in
set_option maxRecDepth 100000 in
theorem rweight_any (a : Option Addr) (cap c : Nat) (p : List (Nat × Nat)) (hp : ltE p) (h1 : p.length ≤ 1000) (hc : c ≤ 1000) (W : World) (ha : ERow W a p) :
    Calls Try.prog 52 #[.slice a p.length cap, .int .i64 (c : Int)] W fun e w' => e = .returned (.agg #[.int .u64 ((wt p c).1 : Int), .int .u64 ((wt p c).2 : Int)]) ∧ Below W.heap.size W w' := by
  have HA : Hid (ERow W a p) := ha
  have HP : Hid (ltE p) := hp
  have HO : Hid (Ret 62 #[] (.agg #[.int .u64 0, .int .u64 1])) := rone
  clear ha hp
  go_enter Try.func52, Try.ntmps52
  go_wp2_with (go_at_call 62; refine (HO.out.go _).mono ?_; rintro e w1 ⟨rfl, hb1⟩)
  have K0 : Wst W (w1.alloc (Obj.cells #[.int .u64 0, .int .u64 1] 28)) w1.heap.size (0, 1) := by
    have hr : Ew (W.alloc (Obj.cells #[.int .u64 0, .int .u64 0] 28)) W.heap.size 0 0 := ⟨⟨by simp [go_sem], by simp [go_sem]⟩, by simp [go_sem], by simp [go_sem]⟩
    have hd : Below W.heap.size W w1 := ((Below.refl _ _).alloc (Nat.le_refl _) _).trans (hb1.mono (by simp))
    exact ⟨(hr.below hb1).alloc _, ⟨⟨by simp [go_sem], by simp [go_sem]⟩, by simp [go_sem], by simp [go_sem]⟩, hd.alloc hd.size _⟩
  have hq : W.heap.size < w1.heap.size := by have := hb1.size; simp at this; omega
  clear hb1
  generalize (w1.alloc (Obj.cells #[.int .u64 0, .int .u64 1] 28)) = w2 at *
  generalize w1.heap.size = q at *
  go_loopw [6, 7] (fun v u wr => ∃ (j n : Nat) (o : Nat × Nat), j ≤ p.length ∧ u = .int .i64 j ∧ v = .int .i64 (n : Int) ∧ Hid (n = c / 2 ^ j ∧ o = wtf (0, 1) (p.take j) c ∧ lt2 o) ∧ n ≤ 1000 ∧ Wst W wr q o) (fun _ u _ => p.length - (intOf u).toNat)
  case atStart => exact ⟨0, c, (0, 1), Nat.zero_le _, rfl, rfl, ⟨by simp, by simp [wtf], lt_one⟩, hc, K0⟩
  case round =>
    obtain ⟨j, n, o, hj, rfl, rfl, HS, hn, K⟩ := hrel
    clear K0
    by_cases hlt : j < p.length
    · obtain ⟨b, off, rfl, hb, c1, c0⟩ := HA.out.cells j hlt
      have HC : Hid (b < W.heap.size ∧ W.cell? ⟨b, off + j * 2, none⟩ = some (.int .u64 ((p.getD j (0, 0)).1 : Int)) ∧ W.cell? ⟨b, off + j * 2 + 1, none⟩ = some (.int .u64 ((p.getD j (0, 0)).2 : Int))) := ⟨hb, c1, c0⟩
      have hx : lt2 (p.getD j (0, 0)) := HP.out.at j
      have HK : Hid (p.take (j + 1) = p.take j ++ [p.getD j (0, 0)] ∧ (p.take j).length = j) := ⟨take_sn p j hlt, by rw [List.length_take]; omega⟩
      clear c1 c0 hb HA HP
      generalize p.getD j (0, 0) = x at *
      have HN : Hid (n / 2 = c / 2 ^ (j + 1) ∧ pm o (fac x n) = wtf (0, 1) (p.take (j + 1)) c ∧ lt2 (pm o (fac x n))) := ⟨by rw [HS.out.1, Nat.div_div_eq_div_mul, Nat.pow_succ], by rw [HK.out.1, wtf_snoc, HK.out.2, ← HS.out.2.1, ← HS.out.1], lt_pm _ _⟩
      have ho : lt2 o := HS.out.2.2
      have hd2 : (n : Int).tdiv 2 = ((n / 2 : Nat) : Int) := by rw [Int.tdiv_eq_ediv_of_nonneg (by omega)]; omega
      have hm : n / 2 ≤ 1000 := by omega
      have hrm : (n : Int).tmod 2 = ((n % 2 : Nat) : Int) := by rw [Int.tmod_eq_emod_of_nonneg (by omega)]; omega
      clear HS HK
      obtain ⟨n2, hn2⟩ : ∃ n2, n / 2 = n2 := ⟨_, rfl⟩
      rw [hn2] at HN hd2 hm
      rcases Nat.mod_two_eq_zero_or_one n with h | h
      · rw [h] at hrm
        have hf : fac x n = xa (0, 1) x := by unfold fac; rw [if_neg (by omega)]
        rw [hf] at HN
        have H1 := rsum (0, 1) x lt_one hx
        have H2 := rprod o (xa (0, 1) x) ho (lt_xa lt_one hx)
        clear hf h hn2
        generalize pm o (xa (0, 1) x) = z at *
        generalize xa (0, 1) x = y at *
        clear ho hx hn
        go_upto_region 8 with fail
        obtain ⟨x1, x0, s1, s0, t1, t0⟩ := K.facts HC.out
        go_region_with (first | (go_at_call 62; refine (HO.out.go _).mono ?_; rintro e w' ⟨rfl, hb'⟩; have K'' := Wst.below (w' := w') (by first | exact K | exact K.drew) hb'; clear x1 x0 s1 s0 t1 t0 K hb'; have K := K''; clear K''; (try simp only [World.size_drew] at K); obtain ⟨x1, x0, s1, s0, t1, t0⟩ := K.facts HC.out) | (go_at_call 44; refine (H1.go _).mono ?_; rintro e w' ⟨rfl, hb'⟩; have K'' := Wst.below (w' := w') (by first | exact K | exact K.drew) hb'; clear x1 x0 s1 s0 t1 t0 K hb'; have K := K''; clear K''; (try simp only [World.size_drew] at K); obtain ⟨x1, x0, s1, s0, t1, t0⟩ := K.facts HC.out) | (go_at_call 45; refine (H2.go _).mono ?_; rintro e w' ⟨rfl, hb'⟩; have K'' := Wst.below (w' := w') (by first | exact K | exact K.drew) hb'; clear x1 x0 s1 s0 t1 t0 K hb'; have K := K''; clear K''; (try simp only [World.size_drew] at K); obtain ⟨x1, x0, s1, s0, t1, t0⟩ := K.facts HC.out))
        all_goals
          go_wp2
          exact ⟨⟨j + 1, n2, z, hlt, by simp, by simp, HN.out, hm, K.put hq z⟩, by simp [intOf]; omega⟩
      · rw [h] at hrm
        have hf : fac x n = x := by unfold fac; rw [if_pos h]
        rw [hf] at HN
        have H2 := rprod o x ho hx
        clear hf h hn2
        generalize pm o x = z at *
        clear ho hx hn
        go_upto_region 7 with fail
        obtain ⟨x1, x0, s1, s0, t1, t0⟩ := K.facts HC.out
        go_region_with (go_at_call 45; refine (H2.go _).mono ?_; rintro e w' ⟨rfl, hb'⟩; have K'' := Wst.below (w' := w') (by first | exact K | exact K.drew) hb'; clear x1 x0 s1 s0 t1 t0 K hb'; have K := K''; clear K''; (try simp only [World.size_drew] at K); obtain ⟨x1, x0, s1, s0, t1, t0⟩ := K.facts HC.out)
        all_goals
          go_wp2
          exact ⟨⟨j + 1, n2, z, hlt, by simp, by simp, HN.out, hm, K.put hq z⟩, by simp [intOf]; omega⟩
    · obtain rfl : j = p.length := by omega
      have e0 : o = wt p c := by have := HS.out.2.1; rw [List.take_of_length_le (Nat.le_refl _)] at this; exact this
      subst e0
      have HD : Hid (Below W.heap.size W wr) := K.d
      obtain ⟨⟨o1, o0⟩, _, _⟩ := K.o
      obtain ⟨⟨r1, r0⟩, t1, t0⟩ := K.r
      clear K HS HA HP
      go_wp2
      refine bodyPost_ret (v := .agg #[.int .u64 ((wt p c).1 : Int), .int .u64 ((wt p c).2 : Int)]) (by simp [results, Try.results52, go_sem, *]) rfl ⟨rfl, ?_⟩
      exact below2 (p := W.heap.size) HD.out (Nat.le_refl _) _ _
end Go.Proofs.Ytcejppibcemdeaa
