/- The contract of a space's Points over the seat's translation. -/
import Derived.Test.YtnecjkdlmecgdaaLqC
import Derived.Test.YtnecjkdlmecgdaaPLqD
namespace Go.Proofs.Ytnecjkdlmecgdaa
open Go.RowKit
open Cb Rg Sq Lq
open Tw (pm)

/-- make([]T, 1, n). -/
theorem wpList_make_oneL {P : Program} (w : World) {ops : Array Oper} {rest : List Oper} {o : Oper} {a : Act} {Q : Exit → Act → World → Prop}
    (hg : o.guard = none) (l c : Operand) (t : TypeId) (hop : o.op = Op.makeSlice t l c)
    (base : Nat) (e : TypeId) (i : TypeInfo) (z : Value) (size : Nat) (h1 : P.underlying t = some (.slice e)) (h2 : P.info? e = some i) (h3 : i.zero = some z) (h4 : i.size = size)
    (kl kc : IntKind) (C : Int) (n : Nat) (hl : a.eval l = .int kl 1) (hc : a.eval c = .int kc C) (hC : C = (n : Int)) (h0 : 1 ≤ n) (b2 : i.bytes * n ≤ 281474976710656) (b3 : n ≤ maxLen) (b4 : base ≤ w.heap.size)
    (hK : ∀ w' xs, w'.ownsRow base e size (.slice (some ⟨w.heap.size, 0, none⟩) 1 n) 1 xs → w.grownBy w' none → wpList P ops Q rest (a.put o.dst (.slice (some ⟨w.heap.size, 0, none⟩) 1 n)) w') :
    wpList P ops Q (o :: rest) a w := by
  refine wpList_plain hg fun K hK' => ?_
  subst hC h4
  have h63' : (n : Int) ≤ 9223372036854775807 := by
    have h := b3
    simp [maxLen] at h
    omega
  have hb' : (i.bytes : Int) * (n : Int) ≤ 281474976710656 := by
    have h : ((i.bytes * n : Nat) : Int) ≤ 281474976710656 := by omega
    rwa [Int.natCast_mul] at h
  have hr := run_make (P := P) w t e i z h1 h2 h3 kl kc 1 n (by decide) (by omega) hb' h63'
  simp only [Int.toNat_natCast] at hr
  have hr2 : (Instr.makeSlice t (.int kl 1) (.int kc (n : Int))).run P w = .ok (.slice (some ⟨w.heap.size, 0, none⟩) 1 n) (w.alloc (.cells (madeCells z.cells (n * i.size)) e)) := hr
  unfold Oper.wp
  simp [execOp, hop, hl, hc, hr2, Result.andThen]
  refine hK' _ _ (hK _ ((madeCells z.cells (n * i.size)).toList.take (1 * i.size)) ⟨?_, .inr ⟨w.heap.size, n, madeCells z.cells (n * i.size), rfl, b4, heap_alloc_new w _, h0, b3, size_madeCells _ _, rfl⟩⟩ (World.grownBy_alloc w _ none))
  rw [List.length_take, Array.length_toList, size_madeCells]
  have : i.size ≤ n * i.size := Nat.le_mul_of_pos_left _ h0
  omega
theorem grow_snocE (L : List (Nat × Nat)) (f : Nat × Nat → Nat × Nat) {j : Nat} (h : j < L.length) : L ++ (L.take (j + 1)).map f = (L ++ (L.take j).map f) ++ [f (el L j)] := by
  rw [List.append_assoc, take_el h, List.map_append]
  rfl
/-- The row of points, and a box beside it. -/
structure Pq (W w : World) (g q n M : Nat) (R : List (Nat × Nat)) (y : Nat × Nat) : Prop where
  own : w.ownsRow (W.heap.size + 1) 27 2 (.slice (some ⟨g, 0, none⟩) n M) n (flat R)
  e : El w q y.1 y.2
  ne : g ≠ q
  d : Below W.heap.size W w
theorem Pq.below {W w w' : World} {g q n M : Nat} {R : List (Nat × Nat)} {y : Nat × Nat} (h : Pq W w g q n M R y) (hb : Below w.heap.size w w') : Pq W w' g q n M R y := ⟨own_below h.own hb, h.e.below hb, h.ne, h.d.trans (hb.mono h.d.size)⟩
theorem Pq.more {W w w' : World} {g q n n' M : Nat} {R R' : List (Nat × Nat)} {y : Nat × Nat} (h : Pq W w g q n M R y) (ho : w'.ownsRow (W.heap.size + 1) 27 2 (.slice (some ⟨g, 0, none⟩) n' M) n' (flat R')) (hg : w.grownBy w' (some g)) : Pq W w' g q n' M R' y :=
  ⟨ho, ⟨(hg.cell_far ⟨q, 0, none⟩ (cell_lt h.e.hi) (fun e => h.ne (by injection e with e; exact e.symm))).trans h.e.hi, (hg.cell_far ⟨q, 1, none⟩ (cell_lt h.e.hi) (fun e => h.ne (by injection e with e; exact e.symm))).trans h.e.lo⟩, h.ne, h.d.grown hg h.d.size fun k hk => by injection hk with hk; subst hk; have := (h.own.lt g rfl).1; omega⟩
set_option maxHeartbeats 8000000 in
set_option maxRecDepth 100000 in
theorem spts_ok {W : World} {p k : Nat} {es ts : List (Nat × Nat)} {a aT aB : Option Addr} {c cT cB : Nat} (hS : Spa W p k es ts a aT aB c cT cB) (hu : Spu k es ts c cT) (n : Nat) (hn : n ≤ es.length) (s : Nat × Nat) (ls : lt2 s) (os : ofE k s) :
    Calls Try.prog 15 #[.pointer (some ⟨p, 0, none⟩), .int .i64 (n : Int), .agg #[.int .u64 (s.1 : Int), .int .u64 (s.2 : Int)]] W fun e w' => ∃ g, e = .returned (.slice (some ⟨g, 0, none⟩) (2 ^ n) (2 ^ n)) ∧ W.heap.size ≤ g ∧ ERow w' (some ⟨g, 0, none⟩) (pts es s n) ∧ Below W.heap.size W w' := by
  have HH := hidT (fun w (hb : Below W.heap.size W w) => has_all (hS.below hb) (n : Int) s ls)
  rw [hsv_yes hn os] at HH
  have HR := hidT hS.r1
  have c1 := hS.c1
  have HC1 := hidT hS.c1
  have hc := hu.hc
  have h10 := hu.h10
  have hes := hu.lt
  obtain ⟨i0, hi, hz0, hz1, hz2⟩ := info_elem
  have HI : Hid (Try.prog.info? 27 = some i0 ∧ i0.zero = some (.agg #[.int .u64 0, .int .u64 0]) ∧ i0.size = 2 ∧ i0.bytes = 16) := ⟨hi, hz0, hz1, hz2⟩
  have HLp : Hid (∀ i, ltE (pts es s i)) := fun i => lt_pts hes ls i
  have HAd : Hid (∀ x : Nat × Nat, lt2 x → ∀ i, Ret 20 #[.agg #[.int .u64 (x.1 : Int), .int .u64 (x.2 : Int)], .agg #[.int .u64 ((el es i).1 : Int), .int .u64 ((el es i).2 : Int)]] (.agg #[.int .u64 ((xa x (el es i)).1 : Int), .int .u64 ((xa x (el es i)).2 : Int)])) := fun x lx i => add_any _ _ _ _ lx.1 lx.2 (ltE_el hes i).1 (ltE_el hes i).2
  obtain ⟨M, hM⟩ : ∃ M, M = 2 ^ n := ⟨_, rfl⟩
  have M1 : M ≤ 1024 := by rw [hM]; exact Nat.pow_le_pow_right (by decide) (show n ≤ 10 by omega)
  have M0 : 1 ≤ M := by rw [hM]; exact Nat.two_pow_pos n
  have hw : IntKind.i64.wrap (2 ^ n) = (M : Int) := by
    rw [IntKind.wrap_i64, show (2 : Int) ^ n = ((2 ^ n : Nat) : Int) by simp, ← hM]
    omega
  have HM : Hid (∀ i, i ≤ n → 2 ^ i ≤ M) := fun i h => by rw [hM]; exact Nat.pow_le_pow_right (by decide) h
  rw [← hM]
  have HMe := hidT hM
  have hs : (n : Int) < 64 := by omega
  have hnc : (n : Int) ≤ (c : Int) := by omega
  clear hS hu hi hz0 hz1 hz2 hes ls os hM
  go_enter Try.func15, Try.ntmps15
  go_wp2_with fail
  have D0 : Below W.heap.size W (W.alloc (Obj.cells #[.int .u64 (s.1 : Int), .int .u64 (s.2 : Int)] 27)) := (Below.refl _ _).alloc (Nat.le_refl _) _
  refine (HH.out _ D0).mono ?_
  rintro e w1 ⟨rfl, hb1⟩
  have D1 : Below W.heap.size W w1 := D0.trans (hb1.mono (by simp))
  obtain ⟨s1, s0⟩ : El w1 W.heap.size s.1 s.2 := El.below ⟨by simp [go_sem], by simp [go_sem]⟩ hb1
  have hz1 : W.heap.size + 1 ≤ w1.heap.size := by have := hb1.size; simpa using this
  have HD1 := hidT D1
  replace c1 := keepc D1 c1
  clear hb1 D0 D1 HH
  go_upto_region 4 with (at_make; refine wpList_make_oneL _ rfl _ _ 22 rfl (W.heap.size + 1) 27 i0 (.agg #[.int .u64 0, .int .u64 0]) 2 Try.underlying22 HI.out.1 HI.out.2.1 HI.out.2.2.1 .i64 .i64 _ M rfl rfl rfl M0 (by rw [HI.out.2.2.2]; omega) (by simp only [maxLen]; omega) hz1 ?_; intro w2 xs2 own2 hgr2)
  have hb2 : Below w1.heap.size w1 w2 := (Below.refl _ _).grown hgr2 (Nat.le_refl _) (fun g hg => by cases hg)
  generalize hg : w1.heap.size = g at *
  obtain ⟨v0, v1, rfl⟩ : ∃ v0 v1, xs2 = [v0, v1] := by
    have := own2.1
    match xs2, this with
    | [v0, v1], _ => exact ⟨v0, v1, rfl⟩
  obtain ⟨k0, f0⟩ := own_cellR own2 0 (by decide)
  obtain ⟨k1, f1⟩ := own_cellR own2 1 (by decide)
  replace k0 : w2.cell? ⟨g, 0, none⟩ = some v0 := k0
  replace k1 : w2.cell? ⟨g, 1, none⟩ = some v1 := k1
  have hb2' : Below w1.heap.size w1 w2 := hg ▸ hb2
  replace s1 := keepc hb2' s1
  replace s0 := keepc hb2' s0
  replace c1 := keepc hb2' c1
  have HD2 : Hid (Below W.heap.size W w2) := HD1.out.trans (hb2'.mono HD1.out.size)
  clear hb2 hb2' hgr2 HD1 hg
  go_upto_region 5 with fail
  have O3 : ((w2.setCell ⟨g, 0, none⟩ (.int .u64 (s.1 : Int))).setCell ⟨g, 1, none⟩ (.int .u64 (s.2 : Int))).ownsRow (W.heap.size + 1) 27 2 (.slice (some ⟨g, 0, none⟩) 1 M) 1 (flat [s]) := own_setR (own_setR own2 0 _) 1 _
  have D3 : Below W.heap.size W ((w2.setCell ⟨g, 0, none⟩ (.int .u64 (s.1 : Int))).setCell ⟨g, 1, none⟩ (.int .u64 (s.2 : Int))) := (HD2.out.setCell (by show W.heap.size ≤ g; omega) _).setCell (by show W.heap.size ≤ g; omega) _
  have c3 := keepc D3 HC1.out
  have K3 : Hid (((w2.setCell ⟨g, 0, none⟩ (.int .u64 (s.1 : Int))).setCell ⟨g, 1, none⟩ (.int .u64 (s.2 : Int))).ownsRow (W.heap.size + 1) 27 2 (.slice (some ⟨g, 0, none⟩) 1 M) 1 (flat [s]) ∧ Below W.heap.size W ((w2.setCell ⟨g, 0, none⟩ (.int .u64 (s.1 : Int))).setCell ⟨g, 1, none⟩ (.int .u64 (s.2 : Int)))) := ⟨O3, D3⟩
  clear O3 D3 own2 k0 k1 f0 f1 s1 s0 HD2 c1 hw hs
  generalize (w2.setCell ⟨g, 0, none⟩ (.int .u64 (s.1 : Int))).setCell ⟨g, 1, none⟩ (.int .u64 (s.2 : Int)) = w3 at *
  go_wp2_with fail
  go_loopw [7, 30] (fun v u wr => ∃ i : Nat, i ≤ n ∧ u = .int .i64 i ∧ ∃ N, Hid (N = 2 ^ i) ∧ v = .slice (some ⟨g, 0, none⟩) N M ∧ Hid (wr.ownsRow (W.heap.size + 1) 27 2 (.slice (some ⟨g, 0, none⟩) N M) N (flat (pts es s i)) ∧ Below W.heap.size W wr)) (fun _ u _ => n - (intOf u).toNat)
  case atStart => exact ⟨0, Nat.zero_le _, rfl, 1, rfl, rfl, K3⟩
  case round =>
    clear K3 c3
    obtain ⟨i, hin, rfl, N, hN, rfl, K4⟩ := hrel
    by_cases hlt : i < n
    · obtain ⟨b, off, rfl, hb, x1, x0⟩ := HR.out.cells i (by omega)
      have y1 := keepc K4.out.2 x1
      have y0 := keepc K4.out.2 x0
      have i1 : (i : Int) < (n : Int) := by omega
      have i0' : (0 : Int) ≤ (i : Int) := by omega
      have HL := hidT (HLp.out i)
      have HA' : Hid (∀ x : Nat × Nat, lt2 x → Ret 20 #[.agg #[.int .u64 (x.1 : Int), .int .u64 (x.2 : Int)], .agg #[.int .u64 ((el es i).1 : Int), .int .u64 ((el es i).2 : Int)]] (.agg #[.int .u64 ((xa x (el es i)).1 : Int), .int .u64 ((xa x (el es i)).2 : Int)])) := fun x lx => HAd.out x lx i
      have hl : Hid ((pts es s i).length = N) := by show _ = _; rw [pts_len, hN.out]
      have HP : Hid (pts es s (i + 1) = pts es s i ++ (pts es s i).map fun p => xa p (el es i)) := by show _ = _; rfl
      have HN2 : Hid (N + N = 2 ^ (i + 1)) := by show _ = _; rw [hN.out, Nat.pow_succ]; omega
      have NM : N + N ≤ M := by have := HM.out (i + 1) (by omega); have := HN2.out; omega
      clear HR hb x1 x0 HLp HAd hN HM HC1
      obtain ⟨L2, hL2'⟩ : ∃ L2, L2 = pts es s (i + 1) := ⟨_, rfl⟩
      have HL2 := hidT hL2'
      rw [← hL2'] at HP
      clear hL2'
      generalize pts es s i = L at *
      generalize hyy : el es i = y at *
      replace y1 : wr.cell? ⟨b, off + i * 2, none⟩ = some (.int .u64 (y.1 : Int)) := hyy ▸ y1
      replace y0 : wr.cell? ⟨b, off + i * 2 + 1, none⟩ = some (.int .u64 (y.2 : Int)) := hyy ▸ y0
      clear hyy
      go_wp2_with fail
      have P5 : Hid (Pq W (wr.alloc (Obj.cells #[.int .u64 (y.1 : Int), .int .u64 (y.2 : Int)] 27)) g wr.heap.size N M L y) := ⟨K4.out.1.alloc _, ⟨by simp [go_sem], by simp [go_sem]⟩, Nat.ne_of_lt (K4.out.1.lt g rfl).2, K4.out.2.alloc K4.out.2.size _⟩
      clear K4 y1 y0
      generalize wr.alloc (Obj.cells #[.int .u64 (y.1 : Int), .int .u64 (y.2 : Int)] 27) = w5 at *
      generalize wr.heap.size = q at *
      go_loopw [7, 36] (fun v u wq => ∃ j : Nat, j ≤ N ∧ u = .int .i64 j ∧ v = .slice (some ⟨g, 0, none⟩) (N + j) M ∧ Hid (Pq W wq g q (N + j) M (L ++ (L.take j).map fun p => xa p y) y)) (fun _ u _ => N - (intOf u).toNat)
      case atStart => exact ⟨0, Nat.zero_le _, rfl, rfl, by simpa using P5⟩
      case round =>
        clear P5
        obtain ⟨j, hjN, rfl, rfl, P6⟩ := hrel
        by_cases hjl : j < N
        · have hjL : j < L.length := by have := hl.out; omega
          have HN : Hid (L ++ (L.take (j + 1)).map (fun p => xa p y) = (L ++ (L.take j).map fun p => xa p y) ++ [xa (el L j) y]) := grow_snocE L _ hjL
          have HA := hidT (HA'.out _ (ltE_el HL.out j))
          obtain ⟨d1, d0⟩ := own_el P6.out.own (show (L ++ (L.take j).map fun p => xa p y).length = N + j by have := hl.out; simp; omega) (show j < N + j by omega)
          rw [el_app1 hjL] at d1 d0
          obtain ⟨e1, e0⟩ := P6.out.e
          have e1' : ∀ o, (wr.alloc o).cell? ⟨q, 0, none⟩ = some (.int .u64 (y.1 : Int)) := fun o => keepc ((Below.refl _ _).alloc (Nat.le_refl _) _) e1
          have e0' : ∀ o, (wr.alloc o).cell? ⟨q, 1, none⟩ = some (.int .u64 (y.2 : Int)) := fun o => keepc ((Below.refl _ _).alloc (Nat.le_refl _) _) e0
          have j1 : (j : Int) < (N : Int) := by omega
          have j0 : (0 : Int) ≤ (j : Int) := by omega
          clear HA' HL hjL
          generalize xa (el L j) y = z at *
          generalize el L j = x at *
          generalize (L ++ (L.take j).map fun p => xa p y) = R at *
          go_wp2_with (first
            | (go_at_call 20; refine (HA.out.go _).mono ?_; rintro e w9 ⟨rfl, hb9⟩; have P9 := hidT ((P6.out.below ((Below.refl _ _).alloc (Nat.le_refl _) _)).below hb9); clear hb9 P6 d1 d0 e1 e0 e1' e0')
            | (at_builtin; refine wpList_append_own_spare _ rfl _ _ 22 rfl (W.heap.size + 1) 27 i0 2 Try.underlying22 HI.out.1 HI.out.2.2.1 g (N + j) M _ rfl (own_below P9.out.own (by go_grown)) ⟨w9.heap.size, 0, none⟩ 1 1 [.int .u64 (z.1 : Int), .int .u64 (z.2 : Int)] rfl rfl (fun p u hu => by rcases p with _ | _ | p <;> simp at hu <;> subst hu <;> simp [go_sem]) (by intro u hu; simp at hu; rcases hu with rfl | rfl <;> rfl) (by omega) ?_; intro w10 hown10 hgr10; have P10 : Hid (Pq W w10 g q (N + j + 1) M (R ++ [z]) y) := Pq.more (P9.out.below ((Below.refl _ _).alloc (Nat.le_refl _) _)) (by rw [flat_snoc]; exact hown10) hgr10; clear hown10 hgr10 P9))
          refine ⟨⟨j + 1, hjl, by simp, rfl, ?_⟩, by simp [intOf]; omega⟩
          show Pq _ _ _ _ _ _ _ _
          rw [HN.out]
          exact P10.out
        · obtain rfl : N = j := by omega
          have K7 : Hid (wr.ownsRow (W.heap.size + 1) 27 2 (.slice (some ⟨g, 0, none⟩) (N + N) M) (N + N) (flat L2) ∧ Below W.heap.size W wr) := by
            have := P6.out
            rw [List.take_of_length_le (by have := hl.out; omega), ← HP.out] at this
            exact ⟨this.own, this.d⟩
          clear P6
          go_wp2
          exact ⟨⟨i + 1, hlt, by simp, N + N, HN2, rfl, HL2.out ▸ K7⟩, by simp [intOf]; omega⟩
    · obtain rfl : n = i := by omega
      obtain rfl : M = N := HMe.out.trans hN.out.symm
      have K8 : Hid (ERow wr (some ⟨g, 0, none⟩) (pts es s n) ∧ Below W.heap.size W wr) := ⟨by
        have := K4.out.1
        rw [show M = (pts es s n).length by rw [pts_len]; exact HMe.out] at this
        exact own_erow this, K4.out.2⟩
      have hg : W.heap.size ≤ g := by have := (K4.out.1.lt g rfl).1; omega
      clear K4 HR HLp HAd HM HC1
      go_wp2
      go_ret
      exact ⟨g, rfl, hg, K8.out.1, K8.out.2⟩
end Go.Proofs.Ytnecjkdlmecgdaa

/- Contracts of a space's Point, Level and Dim, for a space of any basis, over the seat's translation. -/
namespace Go.Proofs.Ytnecjkdlmecgdaa
open Go.RowKit
open Cb Rg Sq Lq
open Tw (pm)

set_option maxHeartbeats 4000000 in
set_option maxRecDepth 100000 in
theorem point_coreL (j n c : Nat) (a : Option Addr) (es : List (Nat × Nat)) (sv : Nat → Nat × Nat) (b : Nat → Bool) (W : World) (hr : ERow W a es) (hn : es.length = n) (h10 : n ≤ 10)
    (S0 : sv 0 = (0, 0)) (BI : Hid (∀ m : Nat, m < n → bits .and .i64 ((j : Int) / 2 ^ m) 1 = if b m = true then 1 else 0))
    (AD : Hid (∀ m : Nat, m < n → b m = true → Ret 20 #[.agg #[.int .u64 ((sv m).1 : Int), .int .u64 ((sv m).2 : Int)], .agg #[.int .u64 ((es.getD m (0, 0)).1 : Int), .int .u64 ((es.getD m (0, 0)).2 : Int)]] (.agg #[.int .u64 ((sv (m + 1)).1 : Int), .int .u64 ((sv (m + 1)).2 : Int)])))
    (SK : Hid (∀ m : Nat, m < n → b m = false → sv (m + 1) = sv m)) :
    Calls Try.prog 48 #[.slice a n c, .int .i64 (j : Int)] W fun e w' => e = .returned (.agg #[.int .u64 ((sv n).1 : Int), .int .u64 ((sv n).2 : Int)]) ∧ Below W.heap.size W w' := by
  have HR : Hid (ERow W a es) := hr
  clear hr
  have hm : min (n : Int) 62 = (n : Int) := by omega
  go_enter Try.func48, Try.ntmps48
  go_wp2_with fail
  go_loopw [13] (fun u wr => ∃ m : Nat, m ≤ n ∧ u = .int .i64 m ∧ Ew wr (W.heap.size + 1) (sv m).1 (sv m).2 ∧ Ew wr W.heap.size 0 0 ∧ Below W.heap.size W wr) (fun u _ => n - (intOf u).toNat)
  case atStart => exact ⟨0, Nat.zero_le _, rfl, by rw [S0]; exact ⟨⟨by simp [go_sem], by simp [go_sem]⟩, by simp [go_sem], by simp [go_sem]⟩, ⟨⟨by simp [go_sem], by simp [go_sem]⟩, by simp [go_sem], by simp [go_sem]⟩, by go_grown⟩
  case round =>
    obtain ⟨m, hmn, rfl, hS, hO, hD⟩ := hrel
    have HS : Hid (Ew wr (W.heap.size + 1) (sv m).1 (sv m).2) := hS
    have HO : Hid (Ew wr W.heap.size 0 0) := hO
    have HD : Hid (Below W.heap.size W wr) := hD
    clear hS hO hD
    by_cases hlt : m < n
    · have hs : (m : Int) < 64 := by omega
      rcases hbm : b m with _ | _
      · have fb : bits .and .i64 ((j : Int) / 2 ^ m) 1 = 0 := by have := BI.out m hlt; rw [hbm] at this; exact this
        have hE := SK.out m hlt hbm
        clear BI AD SK HR
        go_wp2
        exact ⟨⟨m + 1, hlt, by simp, by rw [hE]; exact HS.out, HO.out, HD.out⟩, by simp [intOf]; omega⟩
      have fb : bits .and .i64 ((j : Int) / 2 ^ m) 1 = 1 := by have := BI.out m hlt; rw [hbm] at this; exact this
      have HA := AD.out m hlt hbm
      obtain ⟨g, off, rfl, hb, d1, d0⟩ := HR.out.cells m (by omega)
      have b1 : wr.cell? ⟨g, off + m * 2, none⟩ = some (.int .u64 ((es.getD m (0, 0)).1 : Nat)) := by rw [HD.out.cell (p := ⟨g, off + m * 2, none⟩) hb]; exact d1
      have b0 : wr.cell? ⟨g, off + m * 2 + 1, none⟩ = some (.int .u64 ((es.getD m (0, 0)).2 : Nat)) := by rw [HD.out.cell (p := ⟨g, off + m * 2 + 1, none⟩) hb]; exact d0
      have s1 := HS.out.hi
      have s0 := HS.out.lo
      clear d1 d0 BI AD SK HR
      generalize es.getD m (0, 0) = x at *
      go_upto_region 8 with fail
      refine wp_region_noPanic ?_
      refine wp_region_peel (S := fun w => w.cell? ⟨W.heap.size + 1, 0, none⟩ = some (.int .u64 ((sv m).1 : Nat)) ∧ w.cell? ⟨W.heap.size + 1, 1, none⟩ = some (.int .u64 ((sv m).2 : Nat)) ∧ w.cell? ⟨g, off + m * 2, none⟩ = some (.int .u64 (x.1 : Nat)) ∧ w.cell? ⟨g, off + m * 2 + 1, none⟩ = some (.int .u64 (x.2 : Nat))) 6 (by kernel_rfl) rfl (by kernel_rfl) ?_ (fun hHeld => ?_)
      · exact ⟨s1, s0, b1, b0⟩
      refine wpAnyH_take (i := 0) (oi := _) (v := ?_) rfl (by kernel_rfl) (by kernel_rfl) (by kernel_rfl) (fun _ _ _ h => h) (Or.inl ⟨by rfl, ?_⟩) (by assumption) ?_
      rotate_left
      · ((intro w hSw; (try dsimp only at hSw); go_simp) <;> (try with_reducible rfl))
      try simp only [Act.put]
      refine wpAnyH_take (i := 1) (oi := _) (v := ?_) rfl (by kernel_rfl) (by kernel_rfl) (by kernel_rfl) (fun _ _ _ h => h) (Or.inl ⟨by rfl, ?_⟩) (by assumption) ?_
      rotate_left
      · ((intro w hSw; (try dsimp only at hSw); go_simp) <;> (try with_reducible rfl))
      try simp only [Act.put]
      refine wpAnyH_take (i := 2) (oi := _) (v := ?_) rfl (by kernel_rfl) (by kernel_rfl) (by kernel_rfl) (fun _ _ _ h => h) (Or.inl ⟨by rfl, ?_⟩) (by assumption) ?_
      rotate_left
      · ((intro w hSw; (try dsimp only at hSw); go_simp) <;> (try with_reducible rfl))
      try simp only [Act.put]
      refine wpAnyH_take (i := 3) (oi := _) (v := ?_) rfl (by kernel_rfl) (by kernel_rfl) (by kernel_rfl) (fun _ _ _ h => h) (Or.inl ⟨by rfl, ?_⟩) (by assumption) ?_
      rotate_left
      · ((intro w hSw; (try dsimp only at hSw); go_simp) <;> (try with_reducible rfl))
      try simp only [Act.put]
      refine wpAnyH_take (i := 4) (oi := _) (v := ?_) rfl (by kernel_rfl) (by kernel_rfl) (by kernel_rfl) (fun _ _ _ h => h) (Or.inl ⟨by rfl, ?_⟩) (by assumption) ?_
      rotate_left
      · ((intro w hSw; (try dsimp only at hSw); go_simp) <;> (try with_reducible rfl))
      try simp only [Act.put]
      refine wpAnyH_ready (rs := [5]) (by kernel_rfl) (by simp) ?_
      refine AllReadyH.cons (o := _) rfl (fun KK hKK => ?_) AllReadyH.nil
      go_simp
      (go_at_call 20; refine (HA.go _).mono ?_; rintro e w6 ⟨rfl, hb6⟩)
      have hb6' : Below wr.heap.size wr w6 := (Below.refl _ _).drew.trans hb6
      have S6 : Hid (Ew w6 (W.heap.size + 1) (sv m).1 (sv m).2) := HS.out.below hb6'
      have O6 : Hid (Ew w6 W.heap.size 0 0) := HO.out.below hb6'
      have D6 : Hid (Below W.heap.size W w6) := HD.out.trans (hb6'.mono HD.out.size)
      refine hKK.out _ _ ?_ (fun hHeld => ?_)
      · exact ⟨S6.out.hi, S6.out.lo, keepc hb6' b1, keepc hb6' b0⟩
      clear hKK KK
      try simp only [Act.put]
      refine wpAnyH_done (by kernel_rfl) ?_ _
      refine peel_last rfl (fun KK hKK => ?_)
      clear hHeld b1 b0 s1 s0 hb6 hb6' HS HO HD
      have s1 := S6.out.hi
      have s0 := S6.out.lo
      have f1 := S6.out.fhi
      have f0 := S6.out.flo
      go_simp
      refine hKK _ _ ?_
      refine NoPanic.normal ?_
      clear hKK KK
      have S7 : Hid (Ew ((w6.setCell ⟨W.heap.size + 1, 0, none⟩ (.int .u64 ((sv (m + 1)).1 : Int))).setCell ⟨W.heap.size + 1, 1, none⟩ (.int .u64 ((sv (m + 1)).2 : Int))) (W.heap.size + 1) (sv (m + 1)).1 (sv (m + 1)).2) := S6.out.set _ _
      have O7 : Hid (Ew ((w6.setCell ⟨W.heap.size + 1, 0, none⟩ (.int .u64 ((sv (m + 1)).1 : Int))).setCell ⟨W.heap.size + 1, 1, none⟩ (.int .u64 ((sv (m + 1)).2 : Int))) W.heap.size 0 0) := O6.out.other (by omega) _ _
      have D7 : Hid (Below W.heap.size W ((w6.setCell ⟨W.heap.size + 1, 0, none⟩ (.int .u64 ((sv (m + 1)).1 : Int))).setCell ⟨W.heap.size + 1, 1, none⟩ (.int .u64 ((sv (m + 1)).2 : Int)))) := (D6.out.setCell (by show W.heap.size ≤ W.heap.size + 1; omega) _).setCell (by show W.heap.size ≤ W.heap.size + 1; omega) _
      clear S6 O6 D6 s1 s0 f1 f0
      generalize (w6.setCell ⟨W.heap.size + 1, 0, none⟩ (.int .u64 ((sv (m + 1)).1 : Int))).setCell ⟨W.heap.size + 1, 1, none⟩ (.int .u64 ((sv (m + 1)).2 : Int)) = w7 at *
      go_wp2
      exact ⟨⟨m + 1, hlt, by simp, S7.out, O7.out, D7.out⟩, by simp [intOf]; omega⟩
    · obtain rfl : m = n := by omega
      have s1 := HS.out.hi
      have s0 := HS.out.lo
      have o1 := HO.out.hi
      have o0 := HO.out.lo
      have f1 := HO.out.fhi
      have f0 := HO.out.flo
      clear BI AD SK HR
      go_wp2
      refine bodyPost_ret (v := .agg #[.int .u64 ((sv m).1 : Int), .int .u64 ((sv m).2 : Int)]) (by simp [results, Try.results48, go_sem, *]) rfl ⟨rfl, ?_⟩
      exact (HD.out.setCell (Nat.le_refl _) _).setCell (Nat.le_refl _) _
theorem point_anyL (j n c : Nat) (a : Option Addr) (es : List (Nat × Nat)) (W : World) (hr : ERow W a es) (hn : es.length = n) (h10 : n ≤ 10) (hj : j < 2 ^ 10) (ht : ltE es) :
    Calls Try.prog 48 #[.slice a n c, .int .i64 (j : Int)] W fun e w' => e = .returned (.agg #[.int .u64 ((ptv es j n).1 : Int), .int .u64 ((ptv es j n).2 : Int)]) ∧ Below W.heap.size W w' := by
  refine point_coreL j n c a es (ptv es j) (fun m => j / 2 ^ m % 2 == 1) W hr hn h10 rfl (fun m _ => ?_) (fun m _ hb W => ?_) (fun m _ hb => ?_)
  · rw [bit_int j m hj]
    by_cases h : j / 2 ^ m % 2 = 1
    · simp [h]
    · have h0 : j / 2 ^ m % 2 = 0 := by omega
      simp [h0]
  · rw [show ptv es j (m + 1) = ((ptv es j m).1 ^^^ (es.getD m (0, 0)).1, (ptv es j m).2 ^^^ (es.getD m (0, 0)).2) from if_pos hb]
    exact add_any _ _ _ _ (ptv_lt ht j m).1 (ptv_lt ht j m).2 (ht.at m).1 (ht.at m).2 W
  · exact if_neg (by rw [hb]; decide)
set_option maxHeartbeats 4000000 in
set_option maxRecDepth 100000 in
theorem spoint_ok {W : World} {p k : Nat} {es ts : List (Nat × Nat)} {a aT aB : Option Addr} {c cT cB : Nat} (hS : Spa W p k es ts a aT aB c cT cB) (hu : Spu k es ts c cT) (j : Nat) (hj : j < 2 ^ es.length) :
    Calls Try.prog 17 #[.pointer (some ⟨p, 0, none⟩), .int .i64 (j : Int)] W fun e w' => e = .returned (.agg #[.int .u64 ((ptv es j es.length).1 : Int), .int .u64 ((ptv es j es.length).2 : Int)]) ∧ Below W.heap.size W w' := by
  have h10 := hu.h10
  have h3 : 2 ^ es.length ≤ 2 ^ 10 := Nat.pow_le_pow_right (by decide) h10
  have HP : Hid (∀ w : World, Below W.heap.size W w → Calls Try.prog 48 #[.slice a es.length c, .int .i64 (j : Int)] w fun e w' => e = .returned (.agg #[.int .u64 ((ptv es j es.length).1 : Int), .int .u64 ((ptv es j es.length).2 : Int)]) ∧ Below w.heap.size w w') := fun w hw => point_anyL j es.length c a es w (hS.r1.below hw) rfl h10 (by omega) hu.lt
  have c1 := hS.c1
  have hp := cell_lt hS.c1
  generalize ptv es j es.length = v at *
  generalize es.length = n at *
  have hw : IntKind.i64.wrap (2 ^ n) = (2 : Int) ^ n := by
    rw [IntKind.wrap_i64, show (2 : Int) ^ n = ((2 ^ n : Nat) : Int) by simp]
    generalize 2 ^ n = p at *
    omega
  have h2' : (j : Int) < (2 : Int) ^ n := by
    rw [show (2 : Int) ^ n = ((2 ^ n : Nat) : Int) by simp]
    omega
  have hs : (n : Int) < 64 := by omega
  clear hS hu h3 hj
  go_enter Try.func17, Try.ntmps17
  go_wp2_with fail
  have B0 : Below W.heap.size W (W.alloc (Obj.cells #[.int .u64 0, .int .u64 0] 27)) := (Below.refl _ _).alloc (Nat.le_refl _) _
  refine (HP.out _ B0).mono ?_
  rintro e w1 ⟨rfl, hb1⟩
  have R : Ew w1 W.heap.size 0 0 := Ew.below ⟨⟨by simp [go_sem], by simp [go_sem]⟩, by simp [go_sem], by simp [go_sem]⟩ hb1
  have D : Hid (Below W.heap.size W w1) := B0.trans (hb1.mono B0.size)
  obtain ⟨⟨r1, r0⟩, f1, f0⟩ := R
  clear hb1 B0 HP
  go_wp2
  refine bodyPost_ret (v := .agg #[.int .u64 (v.1 : Int), .int .u64 (v.2 : Int)]) (by simp [results, Try.results17, go_sem, *]) rfl ⟨rfl, ?_⟩
  exact (D.out.setCell (Nat.le_refl _) _).setCell (Nat.le_refl _) _
set_option maxHeartbeats 4000000 in
set_option maxRecDepth 100000 in
theorem spoint_no {W : World} {p k : Nat} {es ts : List (Nat × Nat)} {a aT aB : Option Addr} {c cT cB : Nat} (hS : Spa W p k es ts a aT aB c cT cB) (h10 : es.length ≤ 10) (j : Int) (hj : j < 0 ∨ (2 : Int) ^ es.length ≤ j) :
    Calls Try.prog 17 #[.pointer (some ⟨p, 0, none⟩), .int .i64 j] W fun e w' => e = .returned (.agg #[.int .u64 0, .int .u64 0]) ∧ Below W.heap.size W w' := by
  have c1 := hS.c1
  have hp := cell_lt hS.c1
  have h3 : 2 ^ es.length ≤ 2 ^ 10 := Nat.pow_le_pow_right (by decide) h10
  generalize es.length = n at *
  have hw : IntKind.i64.wrap (2 ^ n) = (2 : Int) ^ n := by
    rw [IntKind.wrap_i64, show (2 : Int) ^ n = ((2 ^ n : Nat) : Int) by simp]
    generalize 2 ^ n = p at *
    omega
  have hs : (n : Int) < 64 := by omega
  clear hS h3
  by_cases h0 : j < 0
  · clear hj
    go_enter Try.func17, Try.ntmps17
    go_wp2
    refine bodyPost_ret (v := .agg #[.int .u64 0, .int .u64 0]) (by simp [results, Try.results17, go_sem, *]) rfl ⟨rfl, ?_⟩
    go_grown
  · have h1 : (2 : Int) ^ n ≤ j := hj.resolve_left h0
    clear hj
    go_enter Try.func17, Try.ntmps17
    go_wp2
    refine bodyPost_ret (v := .agg #[.int .u64 0, .int .u64 0]) (by simp [results, Try.results17, go_sem, *]) rfl ⟨rfl, ?_⟩
    go_grown
set_option maxHeartbeats 400000 in
theorem sdimL {W : World} {p k : Nat} {es ts : List (Nat × Nat)} {a aT aB : Option Addr} {c cT cB : Nat} (hS : Spa W p k es ts a aT aB c cT cB) :
    Calls Try.prog 14 #[.pointer (some ⟨p, 0, none⟩)] W fun e w' => e = .returned (.int .i64 (es.length : Int)) ∧ Below W.heap.size W w' := by
  have c1 := hS.c1
  clear hS
  go_enter Try.func14, Try.ntmps14
  go_wp2
  go_ret
  exact ⟨rfl, by first | exact Below.refl _ _ | go_grown⟩
end Go.Proofs.Ytnecjkdlmecgdaa
