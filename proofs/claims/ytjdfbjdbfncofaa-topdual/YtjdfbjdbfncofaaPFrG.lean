/- The contract of frob.Dual where the level is none, over the seat's translation. -/
import Derived.Test.YtjdfbjdbfncofaaHgC
import Derived.Test.YtjdfbjdbfncofaaPHfA
import Derived.Maps.AppendAt
import Derived.Test.YtjdfbjdbfncofaaPFrM
import Derived.Test.YtjdfbjdbfncofaaPWvA
namespace Go.Proofs.Ytjdfbjdbfncofaa
open Go.RowKit
open Cb Rg Sq Fr Hf
open Tw (pm)

set_option maxHeartbeats 2000000 in
theorem dual_no (l : Int) (h : l < 0 ∨ 7 < l) : Ret 6 #[.int .i64 l] (.slice none 0 0) := by
  intro W
  have HON := hidT one_any
  have HO := hidT (of_ret l 0 1 (by decide))
  have e : ofB l ((0 : Nat) : Int) ((1 : Nat) : Int) = false := by
    cases q : ofB l ((0 : Nat) : Int) ((1 : Nat) : Int)
    · rfl
    · rcases level_cases l (levelB_of q) with rfl | rfl | rfl | rfl | rfl | rfl | rfl | rfl <;> omega
  rw [e] at HO
  clear h e
  go_enter Try.func6, Try.ntmps6
  go_wp2_with (first
    | (go_at_call 16; refine (HON.out _).mono ?_; rintro e w1 ⟨rfl, hb1⟩; have D1 := hidT hb1; clear hb1)
    | (go_at_call 20; refine (HO.out.go _).mono ?_; rintro e w2 ⟨rfl, hb2⟩; have D2 := hidT (D1.out.trans (hb2.mono D1.out.size)); clear hb2 D1))
  go_ret
  exact ⟨rfl, D2.out⟩
end Go.Proofs.Ytjdfbjdbfncofaa

/- The contract of frob.Conjugates over the seat's translation. -/
namespace Go.Proofs.Ytjdfbjdbfncofaa
open Go.RowKit Go.Shelf
open Cb
open Tw (pm)

attribute [local go_sem] Oper.semAt_some

theorem wpListIn_appF {F : Fence} {n : Nat} {P : Program} (w : World) {ops : Array Oper} {rest : List Oper} {o : Oper} {a : Act} {Q : Exit → Act → World → Prop}
    (hg : o.guard = none) (s x : Operand) (t : TypeId) (hop : o.op = Op.call { callee := Callee.builtin Builtin.append, args := #[s, x], argTypes := #[t, t] })
    (base : Nat) (e : TypeId) (i : TypeInfo) (z : Value) (size bytes : Nat) (h1 : P.underlying t = some (.slice e)) (h2 : P.info? e = some i) (h3 : i.zero = some z) (h4 : i.size = size) (h5 : i.bytes = bytes) (h6 : z.cells.size = size) (h7 : 0 < size)
    (v : Value) (k : Nat) (xs : List Value) (hs : a.eval s = v) (hown : w.ownsRow base e size v k xs) (ad : Addr) (m c : Nat) (news : List Value) (hx : a.eval x = .slice (some ad) m c) (hn : news.length = m * size)
    (hc : ∀ j u, news[j]? = some u → w.cell? (ad.add j) = some u) (h1c : ∀ u ∈ news, u.oneCell' = true) (b1 : k + m ≤ maxLen) (b2 : (k + m) * bytes ≤ 140737488355328) (b3 : base ≤ w.heap.size)
    (hK : ∀ v' w', w'.ownsRow base e size v' (k + m) (xs ++ news) → w.grownBy w' v.ownBlock → (v'.ownBlock = v.ownBlock ∨ v'.ownBlock = some w.heap.size) → wpListIn F n P ops Q rest (a.put o.dst v') w') :
    wpListIn F n P ops Q (o :: rest) a w := by
  refine wpListIn_plain hg fun K hK' => ?_
  obtain ⟨v', w', hrun, r1, r2, _, r4⟩ := run_append_own_at (P := P) w base t o.type e i z size bytes h1 h2 h3 h4 h5 h6 h7 v k xs hown ad m c news hn hc h1c b1 b2 b3
  unfold Oper.wpIn
  refine ⟨by simp [Oper.about, hop, resolve, Target.leads, Sem.run_pure], ?_⟩
  rw [Oper.semAt_plain F _ _ (by rw [hop]; intro c hc'; cases hc')]
  simp [execOp, hop, resolve, invoke, builtin, hs, hx, hrun, Result.andThen]
  exact hK' _ _ (hK v' w' r1 r2 r4)
theorem own_blkF {A B : World} {base : Nat} {e : TypeId} {size : Nat} {v : Value} {n : Nat} {xs : List Value} (h : A.ownsRow base e size v n xs) (hb : ∀ g, v.ownBlock = some g → B.heap[g]? = A.heap[g]?) : B.ownsRow base e size v n xs := by
  refine ⟨h.1, ?_⟩
  rcases h.2 with h0 | ⟨g, cap, cur, rfl, h1, h2, h3⟩
  · exact .inl h0
  · exact .inr ⟨g, cap, cur, rfl, h1, (hb g rfl).trans h2, h3⟩
theorem own_ltF {A : World} {base : Nat} {e : TypeId} {size : Nat} {v : Value} {n : Nat} {xs : List Value} (h : A.ownsRow base e size v n xs) {g : Nat} (hg : v.ownBlock = some g) : g < A.heap.size := by
  rcases h.2 with ⟨rfl, _⟩ | ⟨g', cap, cur, rfl, _, h2, _⟩
  · cases hg
  · injection hg with hg
    rw [← hg]; exact (Array.getElem?_eq_some_iff.1 h2).1
/-- The values of some elements. -/
def vls33 {k : Nat} (xs : List (Ek k)) : List (Nat × Nat) := xs.map fun x => x.1
theorem flat_snocF (es : List (Nat × Nat)) (x : Nat × Nat) : flat (es ++ [x]) = flat es ++ [.int .u64 (x.1 : Int), .int .u64 (x.2 : Int)] := by
  simp [flat]

end Go.Proofs.Ytjdfbjdbfncofaa

/- Contracts of frob.Power and Root, and of the document's Power and Two, over the seat's translation. -/
namespace Go.Proofs.Ytjdfbjdbfncofaa
open Go.RowKit
open Cb
open Tw (pm)

theorem rtwoF (n : Nat) (hn : n ≤ 16) : Ret 8 #[.int .i64 (n : Int)] (.int .i64 ((2 ^ n : Nat) : Int)) := by
  intro W
  go_enter Try.func8, Try.ntmps8
  go_wp2_with fail
  go_loopw [3, 4] (fun v u wr => ∃ j q : Nat, j ≤ n ∧ Hid (q = 2 ^ j) ∧ v = .int .i64 (q : Int) ∧ u = .int .i64 j ∧ W = wr) (fun _ u _ => n - (intOf u).toNat)
  case atStart => exact ⟨0, 1, Nat.zero_le _, (by rfl), rfl, rfl, rfl⟩
  case round =>
    obtain ⟨j, q, hj, HQ, rfl, rfl, rfl⟩ := hrel
    by_cases hlt : j < n
    · have hq : q ≤ 65536 := by rw [HQ.out]; exact Nat.pow_le_pow_right (by decide) (show j ≤ 16 by omega)
      have hw : IntKind.i64.wrap (2 * (q : Int)) = ((2 * q : Nat) : Int) := by rw [IntKind.wrap_i64]; omega
      go_wp2
      exact ⟨⟨j + 1, 2 * q, hlt, (by show _ = _; rw [HQ.out, Nat.pow_succ]; omega), by simp, by simp, by first | rfl | trivial⟩, by simp [intOf]; omega⟩
    · obtain rfl : j = n := by omega
      go_wp2
      go_ret
      exact ⟨by rw [← HQ.out]; rfl, Below.refl _ _⟩
set_option maxHeartbeats 4000000 in
set_option maxRecDepth 100000 in
theorem rpow33 (n : Nat) (hn : n ≤ 1000) (a : Nat × Nat) (la : lt2 a) :
    Ret 45 #[.agg #[.int .u64 (a.1 : Int), .int .u64 (a.2 : Int)], .int .i64 (n : Int)] (.agg #[.int .u64 ((sqv a n).1 : Int), .int .u64 ((sqv a n).2 : Int)]) := by
  intro W
  have SQ : Hid (∀ j, Ret 10 #[.agg #[.int .u64 ((sqv a j).1 : Int), .int .u64 ((sqv a j).2 : Int)], .agg #[.int .u64 ((sqv a j).1 : Int), .int .u64 ((sqv a j).2 : Int)]] (.agg #[.int .u64 ((sqv a (j + 1)).1 : Int), .int .u64 ((sqv a (j + 1)).2 : Int)])) := fun j => rproduct_any _ _ _ _ (lt_sqv la j).1 (lt_sqv la j).2 (lt_sqv la j).1 (lt_sqv la j).2
  have hq0 : sqv a 0 = a := rfl
  clear la
  generalize sqv a = q at *
  go_enter Try.func45, Try.ntmps45
  go_wp2_with fail
  obtain ⟨w0, hw0⟩ : ∃ w0, w0 = ((W.alloc (Obj.cells #[.int .u64 (a.1 : Int), .int .u64 (a.2 : Int)] 30)).alloc (Obj.cells #[.int .u64 0, .int .u64 0] 30)).alloc (Obj.cells #[.int .u64 (a.1 : Int), .int .u64 (a.2 : Int)] 30) := ⟨_, rfl⟩
  have E0 : Ew w0 (W.heap.size + 1 + 1) (q 0).1 (q 0).2 := by rw [hq0, hw0]; exact ⟨⟨by simp [go_sem], by simp [go_sem]⟩, by simp [go_sem], by simp [go_sem]⟩
  have E1 : Ew w0 (W.heap.size + 1) 0 0 := by rw [hw0]; exact ⟨⟨by simp [go_sem], by simp [go_sem]⟩, by simp [go_sem], by simp [go_sem]⟩
  have E2 : Below W.heap.size W w0 := by rw [hw0]; exact (((Below.refl _ _).alloc (Nat.le_refl _) _).alloc (by simp) _).alloc (by simp; omega) _
  rw [← hw0]
  clear hq0 hw0
  go_loopw [6] (fun u wr => ∃ j : Nat, j ≤ n ∧ u = .int .i64 j ∧ Ew wr (W.heap.size + 1 + 1) (q j).1 (q j).2 ∧ Ew wr (W.heap.size + 1) 0 0 ∧ Below W.heap.size W wr) (fun u _ => n - (intOf u).toNat)
  case atStart => exact ⟨0, Nat.zero_le _, rfl, E0, E1, E2⟩
  case round =>
    obtain ⟨j, hj, rfl, hs, hx, hbw⟩ := hrel
    have HS := hidF hs
    have HX := hidF hx
    have HB := hidF hbw
    have s1 := hs.hi
    have s0 := hs.lo
    clear hs hx hbw E0 E1 E2
    by_cases hjl : j < n
    · go_wp2_with (go_at_call 10; refine ((SQ.out j).go _).mono ?_; rintro e w2 ⟨rfl, hb2⟩; have HS2 := hidF (HS.out.below hb2); have HX2 := hidF (HX.out.below hb2); have HB2 := hidF (HB.out.trans (hb2.mono HB.out.size)); have g1 := HS2.out.hi; have g0 := HS2.out.lo; have t1 := HS2.out.fhi; have t0 := HS2.out.flo; clear hb2 HS HX HB s1 s0)
      go_roundw
      case rel => exact ⟨j + 1, hjl, by go_num, HS2.out.set _ _, HX2.out.offF (by omega) _ _ _ _, (HB2.out.setCell (by simp; omega) _).setCell (by simp; omega) _⟩
      case measure => simp [intOf]; omega
    · obtain rfl : j = n := by omega
      obtain ⟨⟨x1, x0⟩, f1, f0⟩ := HX.out
      have HB' := hidF HB.out
      clear HS HX HB
      go_wp2
      refine bodyPost_ret (v := .agg #[.int .u64 ((q j).1 : Int), .int .u64 ((q j).2 : Int)]) (by simp [results, Try.results45, go_sem, *]) rfl ⟨rfl, ?_⟩
      exact (HB'.out.setCell (by simp) _).setCell (by simp) _
theorem nlist8 {k : Nat} (hk : k < 8) : k = 0 ∨ k = 1 ∨ k = 2 ∨ k = 3 ∨ k = 4 ∨ k = 5 ∨ k = 6 ∨ k = 7 := by omega
theorem root_sq (k : Nat) (hk : k < 8) (a : Nat × Nat) (la : lt2 a) (h : ofE k a) : pm (sqv a (2 ^ k - 1)) (sqv a (2 ^ k - 1)) = a := by
  rw [← sqv_succ, show 2 ^ k - 1 + 1 = 2 ^ k from Nat.succ_pred_eq_of_pos (Nat.two_pow_pos k), sqv_back hk la h]
end Go.Proofs.Ytjdfbjdbfncofaa

/- Contracts of the document's Fits and Conjugates of layer 33 over the seat's translation. -/
namespace Go.Proofs.Ytjdfbjdbfncofaa
open Go.RowKit
open Cb
open Tw (pm)

theorem own_geF {A : World} {base : Nat} {e : TypeId} {size : Nat} {v : Value} {n : Nat} {xs : List Value} (h : A.ownsRow base e size v n xs) {g : Nat} (hg : v.ownBlock = some g) : base ≤ g := by
  rcases h.2 with ⟨rfl, _⟩ | ⟨g', cap, cur, rfl, h1, _, _⟩
  · cases hg
  · injection hg with hg
    rw [← hg]; exact h1
/-- The first so many conjugates, as pairs. -/
def rls (a : Nat × Nat) (M i : Nat) : List (Nat × Nat) := (List.range i).map fun j => sqv a (M * j)
set_option maxRecDepth 100000 in
set_option maxHeartbeats 8000000 in
theorem rconj33 (k j d M N : Nat) (hk : k < 8) (hj : j ≤ k) (hd : d = k - j) (hM : M = 2 ^ j) (hN : N = 2 ^ d) (a : Nat × Nat) (la : lt2 a) (W : World) :
    Calls Try.prog 25 #[.int .i64 (k : Int), .int .i64 (j : Int), .agg #[.int .u64 (a.1 : Int), .int .u64 (a.2 : Int)]] W fun e w' => ∃ v, e = .returned v ∧ w'.ownsRow W.heap.size 30 2 v N (flat (rls a M N)) ∧ Below W.heap.size W w' := by
  obtain ⟨i0, hi, hz0, hz1, hz2⟩ := info_relem
  have HIF := hidF (And.intro hi (And.intro hz0 (And.intro hz1 hz2)))
  have hM1 : M ≤ 128 := by rw [hM]; exact Nat.le_trans (Nat.pow_le_pow_right (by decide) (show j ≤ 7 by omega)) (by decide)
  have hN1 : N ≤ 128 := by rw [hN]; exact Nat.le_trans (Nat.pow_le_pow_right (by decide) (show d ≤ 7 by omega)) (by decide)
  have T1 := hidF (rtwoF d (by omega))
  rw [← hN] at T1
  have T2 := hidF (rtwoF j (by omega))
  rw [← hM] at T2
  obtain ⟨q, hq⟩ : ∃ q : Nat → Nat × Nat, ∀ i, q i = sqv a (M * i) := ⟨_, fun _ => rfl⟩
  have HP : Hid (∀ i, Ret 45 #[.agg #[.int .u64 ((q i).1 : Int), .int .u64 ((q i).2 : Int)], .int .i64 (M : Int)] (.agg #[.int .u64 ((q (i + 1)).1 : Int), .int .u64 ((q (i + 1)).2 : Int)])) := fun i => by
    have := rpow33 M (by omega) (sqv a (M * i)) (lt_sqv la _)
    rw [sqv_sqv la, ← Nat.mul_succ] at this
    rw [hq, hq]
    exact this
  have e1 : (k : Int) - (j : Int) = (d : Int) := by omega
  have k7 : (k : Int) ≤ 7 := by omega
  have j7 : (j : Int) ≤ 7 := by omega
  have d7 : (d : Int) ≤ 7 := by omega
  have q0 : q 0 = a := by rw [hq]; rfl
  obtain ⟨R, hR⟩ : ∃ R : Nat → List Value, ∀ i, R i = flat (rls a M i) := ⟨_, fun _ => rfl⟩
  have HR : Hid (∀ i, R (i + 1) = R i ++ [.int .u64 ((q i).1 : Int), .int .u64 ((q i).2 : Int)]) := fun i => by
    rw [hR, hR, hq]
    unfold rls
    rw [List.range_succ, List.map_append, List.map_cons, List.map_nil, flat_snocF]
  have HR0 : Hid (R 0 = []) := by show _ = _; rw [hR]; rfl
  rw [← hR N]
  clear hi hz0 hz1 hz2 hd hM hN hk hj la hq hR
  go_enter Try.func25, Try.ntmps25
  go_wp2_with fail
  obtain ⟨w0, hw0⟩ : ∃ w0, w0 = (W.alloc (Obj.cells #[.int .u64 (a.1 : Int), .int .u64 (a.2 : Int)] 30)).alloc (Obj.cells #[.int .u64 (a.1 : Int), .int .u64 (a.2 : Int)] 30) := ⟨_, rfl⟩
  have E0 : Ew w0 (W.heap.size + 1) (q 0).1 (q 0).2 := by rw [q0, hw0]; exact ⟨⟨by simp [go_sem], by simp [go_sem]⟩, by simp [go_sem], by simp [go_sem]⟩
  have E2 : Below W.heap.size W w0 := by rw [hw0]; exact ((Below.refl _ _).alloc (Nat.le_refl _) _).alloc (by simp) _
  have E3 : W.heap.size + 1 < w0.heap.size := E0.ltF
  rw [← hw0]
  clear hw0 q0
  go_loopw [7, 9] (fun v u wr => ∃ i : Nat, i ≤ N ∧ u = .int .i64 i ∧ Hid (wr.ownsRow (W.heap.size + 1 + 1) 30 2 v i (R i) ∧ Ew wr (W.heap.size + 1) (q i).1 (q i).2 ∧ Below W.heap.size W wr)) (fun _ u _ => N - (intOf u).toNat)
  case atStart => exact ⟨0, Nat.zero_le _, rfl, ⟨by rw [HR0.out]; rfl, .inl ⟨rfl, rfl⟩⟩, E0, E2⟩
  case round =>
    obtain ⟨i, hi', rfl, HK⟩ := hrel
    clear E0 E2
    by_cases hlt : i < N
    · have hi1 : (i : Int) < (N : Int) := by omega
      have PW := hidF (HP.out i)
      go_upto_region 7 with (first
        | (go_at_call 8; refine (T1.out.go _).mono ?_; rintro e w1 ⟨rfl, hb1⟩; have K1 := hidF (And.intro (own_blkF HK.out.1 fun g e => hb1.block g (own_ltF HK.out.1 e)) (And.intro (HK.out.2.1.below hb1) (HK.out.2.2.trans (hb1.mono HK.out.2.2.size)))); have s1 := K1.out.2.1.hi; have s0 := K1.out.2.1.lo; clear hb1)
        | (at_builtin; refine wpList_append_own _ rfl _ _ 44 rfl (W.heap.size + 1 + 1) 30 i0 (.agg #[.int .u64 0, .int .u64 0]) 2 16 Try.underlying44 HIF.out.1 HIF.out.2.1 HIF.out.2.2.1 HIF.out.2.2.2 rfl (by decide) _ i (R i) rfl (own_blkF K1.out.1 fun g e => Below.heap_alloc _ _ _ (own_ltF K1.out.1 e)) ⟨w1.heap.size, 0, none⟩ 1 1 [.int .u64 ((q i).1 : Int), .int .u64 ((q i).2 : Int)] rfl rfl (fun j u hj => by rcases j with _ | _ | j <;> simp at hj <;> subst hj <;> simp [go_sem, Addr.add]) (by simp [Value.oneCell']) (by simp only [maxLen]; omega) (by omega) (by have := K1.out.2.1.ltF; simp; omega) ?_; intro v' w2 hown' hgrow _; have K2 : Hid (w2.ownsRow (W.heap.size + 1 + 1) 30 2 v' (i + 1) (R (i + 1)) ∧ Ew w2 (W.heap.size + 1) (q i).1 (q i).2 ∧ Below W.heap.size W w2) := ⟨by rw [HR.out]; exact hown', K1.out.2.1.blkF ((hgrow.block _ (by have := K1.out.2.1.ltF; simp; omega) (fun e => by have := own_geF K1.out.1 e.symm; omega)).trans (Below.heap_alloc _ _ _ K1.out.2.1.ltF)), (K1.out.2.2.alloc K1.out.2.2.size _).grown hgrow (by have := K1.out.2.2.size; simp; omega) (fun g e => by have := own_geF K1.out.1 e; omega)⟩; clear hown' hgrow s1 s0))
      have s1 := K2.out.2.1.hi
      have s0 := K2.out.2.1.lo
      have t1 := K2.out.2.1.fhi
      have t0 := K2.out.2.1.flo
      clear K1 HK
      go_region_with (first
        | (go_at_call 8; refine (T2.out.go _).mono ?_; rintro e w3 ⟨rfl, hb3⟩; have K3 := hidF (And.intro (own_blkF K2.out.1 fun g e => (below_drewF hb3).block g (own_ltF K2.out.1 e)) (And.intro (K2.out.2.1.below (below_drewF hb3)) (K2.out.2.2.trans ((below_drewF hb3).mono K2.out.2.2.size)))); clear hb3 s1 s0 t1 t0; obtain ⟨⟨s1, s0⟩, t1, t0⟩ := K3.out.2.1)
        | (go_at_call 45; refine (PW.out.go _).mono ?_; rintro e w4 ⟨rfl, hb4⟩; have K4 := hidF (And.intro (own_blkF K3.out.1 fun g e => hb4.block g (own_ltF K3.out.1 e)) (And.intro (K3.out.2.1.below hb4) (K3.out.2.2.trans (hb4.mono K3.out.2.2.size)))); clear hb4 s1 s0 t1 t0; obtain ⟨⟨s1, s0⟩, t1, t0⟩ := K4.out.2.1))
      all_goals
        go_wp2
        refine ⟨⟨i + 1, hlt, by go_num, own_blkF K4.out.1 fun g e => ?_, K4.out.2.1.set _ _, (K4.out.2.2.setCell (by simp) _).setCell (by simp) _⟩, by simp [intOf]; omega⟩
        have := own_geF K4.out.1 e
        exact (Below.heap_setCell _ _ _ _ (by simp; omega)).trans (Below.heap_setCell _ _ _ _ (by simp; omega))
    · obtain rfl : i = N := by omega
      go_wp2_with (go_at_call 8; refine (T1.out.go _).mono ?_; rintro e w1 ⟨rfl, hb1⟩)
      go_ret
      refine ⟨_, rfl, ?_, HK.out.2.2.trans (hb1.mono HK.out.2.2.size)⟩
      have h := own_blkF HK.out.1 fun g e => hb1.block g (own_ltF HK.out.1 e)
      refine ⟨h.1, ?_⟩
      rcases h.2 with h0 | ⟨g, cap, cur, e, hb, rest⟩
      · exact .inl h0
      · exact .inr ⟨g, cap, cur, e, by omega, rest⟩
end Go.Proofs.Ytjdfbjdbfncofaa

/- Contracts of the document's Trace and Norm of layer 33 over the seat's translation. -/
namespace Go.Proofs.Ytjdfbjdbfncofaa
open Go.RowKit
open Cb
open Tw (pm)

/-- The result, what is reckoned, and the row. -/
structure Tq (W w : World) (t : Nat × Nat) (g : Nat) (es : List (Nat × Nat)) : Prop where
  r : Ew w (W.heap.size + 1) 0 0
  t : Ew w (W.heap.size + 1 + 1) t.1 t.2
  row : ERow w (some ⟨g, 0, none⟩) es
  far : W.heap.size + 1 + 1 < g
  d : Below W.heap.size W w
theorem Tq.below {W w w' : World} {t : Nat × Nat} {g : Nat} {es : List (Nat × Nat)} (h : Tq W w t g es) (hb : Below w.heap.size w w') : Tq W w' t g es := ⟨h.r.below hb, h.t.below hb, h.row.below hb, h.far, h.d.trans (hb.mono h.d.size)⟩
theorem Tq.drew {W w : World} {t : Nat × Nat} {g : Nat} {es : List (Nat × Nat)} (h : Tq W w t g es) : Tq W w.drew t g es := h.below (Below.refl _ _).drew
theorem Tq.put {W w : World} {t : Nat × Nat} {g : Nat} {es : List (Nat × Nat)} (h : Tq W w t g es) (z : Nat × Nat) : Tq W ((w.setCell ⟨W.heap.size + 1 + 1, 0, none⟩ (.int .u64 (z.1 : Int))).setCell ⟨W.heap.size + 1 + 1, 1, none⟩ (.int .u64 (z.2 : Int))) z g es :=
  ⟨h.r.other (by omega) _ _, h.t.set _ _, h.row.offE (fun g' off e => by have := h.far; injection e with e; injection e with e1 e2; omega) _ _ _ _, h.far, (h.d.setCell (by simp; omega) _).setCell (by simp; omega) _⟩
theorem rls_len (a : Nat × Nat) (M N : Nat) : (rls a M N).length = N := by simp [rls]
theorem rls_at (a : Nat × Nat) (M N i : Nat) (h : i < N) : (rls a M N).getD i (0, 0) = sqv a (M * i) := by simp [rls, h]
set_option maxRecDepth 100000 in
set_option maxHeartbeats 8000000 in
theorem rtrace33 (k j : Nat) (hk : k < 8) (hj : j ≤ k) (a : Nat × Nat) (la : lt2 a) :
    Ret 9 #[.int .i64 (k : Int), .int .i64 (j : Int), .agg #[.int .u64 (a.1 : Int), .int .u64 (a.2 : Int)]] (.agg #[.int .u64 ((Fr.tn xa (0, 0) k j a).1 : Int), .int .u64 ((Fr.tn xa (0, 0) k j a).2 : Int)]) := by
  intro W
  obtain ⟨d, hd⟩ : ∃ d, d = k - j := ⟨_, rfl⟩
  obtain ⟨M, hM⟩ : ∃ M, M = 2 ^ j := ⟨_, rfl⟩
  obtain ⟨N, hN⟩ : ∃ N, N = 2 ^ d := ⟨_, rfl⟩
  have HC := hidF (rconj33 k j d M N hk hj hd hM hN a la)
  have hN0 : 0 < N := by rw [hN]; exact Nat.two_pow_pos d
  have hN1 : N ≤ 128 := by rw [hN]; exact Nat.le_trans (Nat.pow_le_pow_right (by decide) (show d ≤ 7 by omega)) (by decide)
  unfold Fr.tn
  rw [← hM, ← hd, ← hN]
  obtain ⟨q, hq⟩ : ∃ q : Nat → Nat × Nat, ∀ i, q i = sqv a (M * i) := ⟨_, fun _ => rfl⟩
  have lq : ∀ i, lt2 (q i) := fun i => by rw [hq]; exact lt_sqv la _
  rw [show (fun i => sqv a (M * i)) = q from funext fun i => (hq i).symm]
  obtain ⟨s, hs⟩ : ∃ s : Nat → Nat × Nat, ∀ i, s i = Fr.fo xa (0, 0) i q := ⟨_, fun _ => rfl⟩
  have ls : ∀ i, lt2 (s i) := fun i => by rw [hs]; exact Fr.lt_fo Fr.mon_add lq i
  have HS : Hid (∀ i, Ret 26 #[.agg #[.int .u64 ((s i).1 : Int), .int .u64 ((s i).2 : Int)], .agg #[.int .u64 ((q i).1 : Int), .int .u64 ((q i).2 : Int)]] (.agg #[.int .u64 ((s (i + 1)).1 : Int), .int .u64 ((s (i + 1)).2 : Int)])) := fun i => by
    have := radd (s i).1 (s i).2 (q i).1 (q i).2 (ls i).1 (ls i).2 (lq i).1 (lq i).2
    rw [show s (i + 1) = xa (s i) (q i) by rw [hs, hs]; rfl]
    exact this
  have s0 : s 0 = (0, 0) := by rw [hs]; rfl
  rw [← hs N]
  have hes := rls_len a M N
  have HE : Hid (∀ i, i < N → (rls a M N).getD i (0, 0) = q i) := fun i hi => by rw [rls_at a M N i hi, hq]
  generalize rls a M N = es at *
  clear hd hM hN hk hj la hq lq hs ls
  go_enter Try.func9, Try.ntmps9
  go_wp2_with (go_at_call 25; refine (HC.out _).mono ?_; rintro e w1 ⟨v, rfl, hown, hb1⟩; obtain ⟨N', hN'⟩ : ∃ N', N = N' + 1 := ⟨N - 1, by omega⟩; have hown2 := hown; rw [hN'] at hown2; obtain ⟨g, cap, rfl⟩ := ownsRow_succ hown2; rw [← hN'] at hown; have K0 : Hid (Tq W w1 (s 0) g es) := (by
      have hg : W.heap.size + 1 + 1 < g := (by
        rcases hown.2 with ⟨h0, _⟩ | ⟨g', cap', cur, e', h1', _⟩
        · cases h0
        · injection e' with e' _ _; injection e' with e'; injection e' with e' _ _; subst e'; simp at h1'; omega)
      rw [← hes] at hown
      obtain ⟨a', cap', e', hrow⟩ := own_row hown
      injection e' with e' _ _
      subst e'
      rw [s0]
      exact ⟨(Ew.below ⟨⟨by simp [go_sem], by simp [go_sem]⟩, by simp [go_sem], by simp [go_sem]⟩ hb1), (Ew.below ⟨⟨by simp [go_sem], by simp [go_sem]⟩, by simp [go_sem], by simp [go_sem]⟩ hb1), hrow, hg, ((((Below.refl _ _).alloc (Nat.le_refl _) _).alloc (by simp) _).alloc (by simp; omega) _).trans (hb1.mono (by simp; omega))⟩); clear hown hown2 hb1 HC; rw [← hN'])
  go_loopw [9] (fun u wr => ∃ i : Nat, i ≤ N ∧ u = .int .i64 i ∧ Hid (Tq W wr (s i) g es)) (fun u _ => N - (intOf u).toNat)
  case atStart => exact ⟨0, Nat.zero_le _, rfl, K0⟩
  case round =>
    obtain ⟨i, hi, rfl, HK⟩ := hrel
    clear K0
    by_cases hlt : i < N
    · have i1 : (i : Int) < (N : Int) := by omega
      have PW := hidF (HS.out i)
      have F1 : ∀ w : World, Tq W w (s i) g es → w.cell? ⟨W.heap.size + 1 + 1, 0, none⟩ = some (.int .u64 ((s i).1 : Int)) ∧ w.cell? ⟨W.heap.size + 1 + 1, 1, none⟩ = some (.int .u64 ((s i).2 : Int)) ∧ w.cell? ⟨g, i * 2, none⟩ = some (.int .u64 ((q i).1 : Int)) ∧ w.cell? ⟨g, i * 2 + 1, none⟩ = some (.int .u64 ((q i).2 : Int)) ∧ w.frozen? ⟨W.heap.size + 1 + 1, 0, none⟩ = false ∧ w.frozen? ⟨W.heap.size + 1 + 1, 1, none⟩ = false := fun w h => by
        obtain ⟨b, off, e, _, c1, c0⟩ := h.row.cells i (by omega)
        injection e with e; injection e with e1 e2; subst e1; subst e2
        rw [HE.out i hlt, Nat.zero_add] at c1 c0
        exact ⟨h.t.hi, h.t.lo, c1, c0, h.t.fhi, h.t.flo⟩
      have HF1 := hidF F1
      clear F1
      go_upto_region 6 with fail
      obtain ⟨x1, x0, y1, y0, t1, t0⟩ := HF1.out _ HK.out
      go_region_with (go_at_call 26; refine (PW.out.go _).mono ?_; rintro e w5 ⟨rfl, hb5⟩; have K5 : Hid (Tq W w5 (s i) g es) := Tq.below (by first | exact HK.out | exact HK.out.drew) hb5; clear hb5 x1 x0 y1 y0 t1 t0; obtain ⟨x1, x0, y1, y0, t1, t0⟩ := HF1.out _ K5.out)
      all_goals
        go_wp2
        exact ⟨⟨i + 1, hlt, by go_num, K5.out.put _⟩, by simp [intOf]; omega⟩
    · obtain rfl : i = N := by omega
      obtain ⟨⟨x1, x0⟩, f1, f0⟩ := HK.out.r
      obtain ⟨⟨y1, y0⟩, _, _⟩ := HK.out.t
      have HB := hidF HK.out.d
      clear HK
      go_wp2
      refine bodyPost_ret (v := .agg #[.int .u64 ((s i).1 : Int), .int .u64 ((s i).2 : Int)]) (by simp [results, Try.results9, go_sem, *]) rfl ⟨rfl, ?_⟩
      exact (HB.out.setCell (by simp) _).setCell (by simp) _
end Go.Proofs.Ytjdfbjdbfncofaa

/- The contract of the law's awake over the seat's translation. -/
namespace Go.Proofs.Ytjdfbjdbfncofaa
open Go.RowKit
open Cb
open Tw (pm)

def two1 : Ek 1 := ⟨(0, 2), ⟨by decide, by decide⟩, (ofB_iff 1 0 2 (by decide)).2 (Or.inr ⟨rfl, by decide⟩)⟩
theorem pm22 : pm (0, 2) (0, 2) = (0, 3) := by decide +kernel
theorem pm23 : pm (0, 2) (0, 3) = (0, 1) := by decide +kernel
theorem cj0 : (cj 1 1 (by decide) two1 0).1 = (0, 2) := rfl
theorem cj1 : (cj 1 1 (by decide) two1 1).1 = (0, 3) := pm22
theorem cjs2 : (cjs 1 1 (by decide) two1 2) = [cj 1 1 (by decide) two1 0, cj 1 1 (by decide) two1 1] := rfl
theorem tr2 : trl (cjs 1 1 (by decide) two1 2) = (0, 1) := by
  rw [cjs2]; unfold trl; simp only [List.foldl_cons, List.foldl_nil, cj0, cj1]; rfl
theorem nr2 : nrl (cjs 1 1 (by decide) two1 2) = (0, 1) := by
  rw [cjs2]; unfold nrl; simp only [List.foldl_cons, List.foldl_nil, cj0, cj1]; rw [one_pm (show lt2 (0, 2) from ⟨by decide, by decide⟩), pm23]
theorem pm10 : pm (0, 1) (0, 2) = (0, 2) := one_pm ⟨by decide, by decide⟩
theorem pm13 : pm (0, 1) (0, 3) = (0, 3) := one_pm ⟨by decide, by decide⟩
theorem tms1 : tms [(0, 1)] (0, 2) = [(0, 2), (0, 1)] := by
  simp only [tms, tmE, pvE, el, List.length_cons, List.length_nil, List.range_succ, List.range_zero, List.nil_append, List.cons_append, List.map_cons, List.map_nil, List.getD_cons_zero, List.getD_cons_succ, List.getD_nil, pm10, zero_pm, Nat.zero_add, if_true, Nat.one_ne_zero, if_false, Nat.sub_self]
  rfl
theorem tms2 : tms [(0, 2), (0, 1)] (0, 3) = [(0, 1), (0, 1), (0, 1)] := by
  have h1 : el [((0 : Nat), 2), (0, 1)] 0 = (0, 2) := rfl
  have h2 : el [((0 : Nat), 2), (0, 1)] 1 = (0, 1) := rfl
  have h3 : el [((0 : Nat), 2), (0, 1)] 2 = (0, 0) := rfl
  show [tmE _ _ 0, tmE _ _ 1, tmE _ _ 2] = _
  unfold tmE
  rw [h1, h2, h3, pm23, pm13, zero_pm]
  rfl
theorem cfl2 : cfl (cjs 1 1 (by decide) two1 2) = List.replicate 3 (0, 1) := by
  rw [cjs2]; unfold cfl; simp only [List.foldl_cons, List.foldl_nil, cj0, cj1]; rw [tms1, tms2]; rfl
set_option maxRecDepth 100000 in
set_option maxHeartbeats 4000000 in
theorem awake33 : Ret 5 #[] (.bool true) := by
  intro W
  have HT := hidF (trace_ok 1 0 (by decide) (by decide) two1)
  rw [show (2 : Nat) ^ 0 = 1 from rfl, show (2 : Nat) ^ (1 - 0) = 2 from rfl, tr2] at HT
  have HN := hidF (norm_ok 1 0 (by decide) (by decide) two1)
  rw [show (2 : Nat) ^ 0 = 1 from rfl, show (2 : Nat) ^ (1 - 0) = 2 from rfl, nr2] at HN
  have hl : lvl 0 2 = 1 := by decide
  have HL := hidF (fun w => least_ones 1 (by decide) (0, 2) two1.2.1 two1.2.2 1 (fun x => x.2.2) (cjs 1 1 (by decide) two1 2) 3 rfl (by decide) cfl2 (fun v b1 b2 b3 h => conj1_ok (3 - 1) (by decide) b1 b2 b3 1 0 1 1 2 (by decide) (by decide) rfl rfl rfl two1 v (by rw [show lvl (0, 2).1 (0, 2).2 = ((1 : Nat) : Int) from hl] at h; exact h)) w)
  have HO := hidF one_any
  unfold two1 at HT HN
  dsimp only at HT HN HL
  clear hl
  go_enter Try.func5, Try.ntmps5
  go_wp2_with (first
    | (go_at_call 18; refine (HL.out _).mono ?_; rintro e w1 ⟨u, rfl, hu, hb1⟩; have K1 := hidF (And.intro hu hb1); clear hu hb1)
    | (go_at_call 14; refine (HT.out.go _).mono ?_; rintro e w2 ⟨rfl, hb2⟩; have K2 := hidF (And.intro (fun i hi => cellB hb2 (K1.out.1 i hi)) (K1.out.2.trans (hb2.mono K1.out.2.size))); clear hb2 K1 HT)
    | (go_at_call 19; refine (HN.out.go _).mono ?_; rintro e w4 ⟨rfl, hb4⟩; have K4 := hidF (And.intro (fun i hi => cellB hb4 (K3.out.1 i hi)) (K3.out.2.trans (hb4.mono K3.out.2.size))); clear hb4 K3 HN)
    | (go_at_call 16; refine (HO.out _).mono ?_; rintro e w3 ⟨rfl, hb3⟩; have K3 := hidF (And.intro (fun i hi => cellB hb3 (K2.out.1 i hi)) (K2.out.2.trans (hb3.mono K2.out.2.size))); clear hb3 K2)
    | (go_at_call 16; refine (HO.out _).mono ?_; rintro e w5 ⟨rfl, hb5⟩; have K5 := hidF (And.intro (fun i hi => cellB hb5 (K4.out.1 i hi)) (K4.out.2.trans (hb5.mono K4.out.2.size))); clear hb5 K4; have u0 := K5.out.1 0 (by decide); have u1 := K5.out.1 1 (by decide); have u2 := K5.out.1 2 (by decide)))
  go_ret
  exact ⟨rfl, K5.out.2⟩
end Go.Proofs.Ytjdfbjdbfncofaa
