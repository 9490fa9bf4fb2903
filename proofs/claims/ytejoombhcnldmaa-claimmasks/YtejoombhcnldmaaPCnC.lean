/- The contract of steepleref22.May over the seat's translation. -/
import Derived.Test.YtejoombhcnldmaaCmK
import Derived.Test.YtejoombhcnldmaaPTuL
import Derived.Test.YtejoombhcnldmaaPCmE
import Derived.Test.YtejoombhcnldmaaPCmG
namespace Go.Proofs.Ytejoombhcnldmaa
open Go.RowKit
open Cb
open Tw (pm)

theorem ofB_zero {l : Int} (h : 0 ≤ l ∧ l ≤ 7) : ofB l ((0 : Nat) : Int) ((0 : Nat) : Int) = true := by
  obtain ⟨h0, h7⟩ := h
  obtain ⟨k, rfl⟩ : ∃ k : Nat, l = (k : Int) := ⟨l.toNat, by omega⟩
  exact (ofB_iff k 0 0 (by omega)).2 (Or.inr ⟨rfl, Nat.two_pow_pos _⟩)
set_option maxHeartbeats 8000000 in
set_option maxRecDepth 100000 in
theorem rmay22 (l c w : Int) (a a2 : Option Addr) (cap cap2 : Nat) (cl : List Stp) (z : List (Nat × Nat)) (h10 : cl.length ≤ 100000) (h11 : z.length ≤ 100000) (lz : ltE z) (W : World) (hr : ORow W a cl) (hz : ERow W a2 z) :
    Calls Try.prog 19 #[.int .i64 l, .int .i64 c, .int .i64 w, .slice a cl.length cap, .slice a2 z.length cap2] W fun e w' => e = .returned (.int .i64 (chE l c w cl z (0, 0))) ∧ Below W.heap.size W w' := by
  have HK := hidC (fun (v : World) (hb : Below W.heap.size W v) => rchk22 c w a cap cl h10 v (hr.below hb))
  have HA := hidC (fun (v : World) (hb : Below W.heap.size W v) => trall l a2 cap2 z lz v (hz.below hb) h11)
  by_cases hl : 0 ≤ l ∧ l ≤ 7
  · have hz0 := ofB_zero hl
    have e0 : chE l c w cl z (0, 0) = if ckE c w cl = 0 then cfE l w z else ckE c w cl := by
      unfold chE
      rw [if_pos hl]
      by_cases h1 : ckE c w cl = 0
      · rw [if_pos h1, if_pos h1]
        by_cases h2 : cfE l w z = 0
        · rw [if_pos h2, h2, if_pos hz0]
        · rw [if_neg h2]
      · rw [if_neg h1, if_neg h1]
    rw [e0]
    clear e0 hz0 hr hz lz
    obtain ⟨l0, l7⟩ := hl
    have l0' : ¬ l < 0 := by omega
    have l7' : ¬ 7 < l := by omega
    by_cases hk : ckE c w cl = 0
    · rw [if_pos hk]
      rw [hk] at HK
      clear hk
      unfold cfE
      by_cases hw : (z.length : Int) = w
      · rw [if_pos hw]
        have hw' : ((z.length : Int) == w) = true := by rw [beq_iff_eq]; exact hw
        have HW : Hid ((z.length : Int) = w) := hw
        clear hw
        generalize (z.all fun e => ofB l (e.1 : Int) (e.2 : Int)) = t at *
        generalize cl.length = L at *
        generalize z.length = Z at *
        cases t
        · rw [if_neg (by decide)]
          go_enter Try.func19, Try.ntmps19
          go_wp2_with (first | (go_at_call 15; refine (HK.out _ (Below.refl _ _)).mono ?_; rintro e w1 ⟨rfl, hb1⟩; have D1 : Hid (Below W.heap.size W w1) := hb1; clear hb1) | (go_at_call 23; refine (HA.out _ D1.out).mono ?_; rintro e w2 ⟨rfl, hb2⟩; have D2 : Hid (Below W.heap.size W w2) := D1.out.trans (hb2.mono D1.out.size); clear hb2))
          go_ret
          exact ⟨rfl, D2.out⟩
        · rw [if_pos rfl]
          go_enter Try.func19, Try.ntmps19
          go_wp2_with (first | (go_at_call 15; refine (HK.out _ (Below.refl _ _)).mono ?_; rintro e w1 ⟨rfl, hb1⟩; have D1 : Hid (Below W.heap.size W w1) := hb1; clear hb1) | (go_at_call 23; refine (HA.out _ D1.out).mono ?_; rintro e w2 ⟨rfl, hb2⟩; have D2 : Hid (Below W.heap.size W w2) := D1.out.trans (hb2.mono D1.out.size); clear hb2))
          go_ret
          exact ⟨rfl, D2.out⟩
      · rw [if_neg hw]
        have hw' : ((z.length : Int) == w) = false := by rw [beq_eq_false_iff_ne]; exact hw
        clear HA
        generalize cl.length = L at *
        generalize z.length = Z at *
        go_enter Try.func19, Try.ntmps19
        go_wp2_with (first | (go_at_call 15; refine (HK.out _ (Below.refl _ _)).mono ?_; rintro e w1 ⟨rfl, hb1⟩; have D1 : Hid (Below W.heap.size W w1) := hb1; clear hb1))
        go_ret
        exact ⟨rfl, D1.out⟩
    · rw [if_neg hk]
      clear HA
      generalize ckE c w cl = ke at *
      have hk' : (ke == 0) = false := by rw [beq_eq_false_iff_ne]; exact hk
      generalize cl.length = L at *
      generalize z.length = Z at *
      go_enter Try.func19, Try.ntmps19
      go_upto_region 4 with (go_at_call 15; refine (HK.out _ (Below.refl _ _)).mono ?_; rintro e w1 ⟨rfl, hb1⟩; have D1 : Hid (Below W.heap.size W w1) := hb1; clear hb1)
      go_wp2_with (go_at_call 15; refine (HK.out _ D1.out).mono ?_; rintro e w2 ⟨rfl, hb2⟩; have D2 : Hid (Below W.heap.size W w2) := D1.out.trans (hb2.mono D1.out.size); clear hb2)
      go_ret
      exact ⟨rfl, D2.out⟩
  · have e0 : chE l c w cl z (0, 0) = 1 := by unfold chE; rw [if_neg hl]
    rw [e0]
    clear e0 HK HA hr hz lz
    rcases Int.lt_or_le l 0 with h1 | h1
    · clear hl
      go_enter Try.func19, Try.ntmps19
      go_wp2
      go_ret
      exact ⟨rfl, Below.refl _ _⟩
    · have h2 : 7 < l := by omega
      clear hl
      go_enter Try.func19, Try.ntmps19
      go_wp2
      go_ret
      exact ⟨rfl, Below.refl _ _⟩
end Go.Proofs.Ytejoombhcnldmaa

/- The contract of steepleref22.True over the seat's translation. -/
namespace Go.Proofs.Ytejoombhcnldmaa
open Go.RowKit
open Cb
open Tw (pm)

/-- The element that the bit x of a turned column was, among the first so many. -/
def truE (k : Int) (n s : Nat) (cs : List (Nat × Nat)) (c x : Nat) : Nat → Nat × Nat
  | 0 => (0, 0)
  | y + 1 => if wsB k n s x y = true then cs.getD (n * c + y) (0, 0) else truE k n s cs c x y
/-- A column, turned. -/
def tru (k : Int) (n s : Nat) (cs : List (Nat × Nat)) (c : Nat) : List (Nat × Nat) := (List.range n).map fun x => truE k n s cs c x n
theorem tru_len (k : Int) (n s : Nat) (cs : List (Nat × Nat)) (c : Nat) : (tru k n s cs c).length = n := by simp [tru]
theorem tru_at (k : Int) (n s : Nat) (cs : List (Nat × Nat)) (c : Nat) {x : Nat} (h : x < n) : (tru k n s cs c).getD x (0, 0) = truE k n s cs c x n := by simp [tru, List.getD, h]
theorem lt_truE (k : Int) (n s : Nat) {cs : List (Nat × Nat)} (lc : ltE cs) (c x : Nat) : ∀ y, lt2 (truE k n s cs c x y)
  | 0 => lt_zero
  | y + 1 => by
    unfold truE
    split
    · exact lc.at _
    · exact lt_truE k n s lc c x y
theorem lt_tru (k : Int) (n s : Nat) {cs : List (Nat × Nat)} (lc : ltE cs) (c : Nat) : ltE (tru k n s cs c) := fun e he => by
  obtain ⟨x, _, rfl⟩ := List.mem_map.1 he
  exact lt_truE k n s lc c x n
/-- The row that grows, and the element in its box. -/
structure Pt (W w : World) (s : Value) (j : Nat) (L : List (Nat × Nat)) (q : Nat) (e : Nat × Nat) : Prop where
  own : w.ownsRow W.heap.size 34 2 s j (flat L)
  e : Ew w q e.1 e.2
  n : s.ownBlock ≠ some q
  lo : W.heap.size ≤ q
  d : Below W.heap.size W w
theorem Pt.below {W w w' : World} {s : Value} {j : Nat} {L : List (Nat × Nat)} {q : Nat} {e : Nat × Nat} (h : Pt W w s j L q e) (hb : Below w.heap.size w w') : Pt W w' s j L q e := ⟨own_below h.own hb, h.e.below hb, h.n, h.lo, h.d.trans (hb.mono h.d.size)⟩
theorem own_offT {w : World} {base : Nat} {T : TypeId} {s : Value} {j q : Nat} {xs : List Value} (h : w.ownsRow base T 2 s j xs) (hn : s.ownBlock ≠ some q) (u v : Value) : ((w.setCell ⟨q, 0, none⟩ u).setCell ⟨q, 1, none⟩ v).ownsRow base T 2 s j xs := by
  obtain ⟨h1, h2⟩ := h
  refine ⟨h1, ?_⟩
  rcases h2 with h3 | ⟨g, cap, cur, rfl, hb, hg, hrest⟩
  · exact .inl h3
  · have hne : ¬ q = g := fun e => hn (by rw [e]; rfl)
    exact .inr ⟨g, cap, cur, rfl, hb, by simp [World.setCell, Array.getElem?_modify, hne, hg], hrest⟩
theorem Pt.put {W w : World} {s : Value} {j : Nat} {L : List (Nat × Nat)} {q : Nat} {e : Nat × Nat} (h : Pt W w s j L q e) (t : Nat × Nat) : Pt W ((w.setCell ⟨q, 0, none⟩ (.int .u64 (t.1 : Int))).setCell ⟨q, 1, none⟩ (.int .u64 (t.2 : Int))) s j L q t :=
  ⟨own_offT h.own h.n _ _, h.e.set _ _, h.n, h.lo, below2 (p := q) h.d h.lo _ _⟩
theorem Pt.new {W w : World} {s : Value} {j : Nat} {L : List (Nat × Nat)} (h : w.ownsRow W.heap.size 34 2 s j (flat L)) (d : Below W.heap.size W w) (T : TypeId) : Pt W (w.alloc (Obj.cells #[.int .u64 0, .int .u64 0] T)) s j L w.heap.size (0, 0) :=
  ⟨own_below h ((Below.refl _ _).alloc (Nat.le_refl _) _), Ew.roomR w T, fun e => Nat.lt_irrefl _ (h.lt _ e).2, d.size, d.alloc d.size _⟩
/-- The claim in its box, the result's room, and what lay there. -/
structure Kt (W w : World) (c k s : Int) : Prop where
  c0 : w.cell? ⟨W.heap.size, 0, none⟩ = some (.int .i64 c)
  c1 : w.cell? ⟨W.heap.size, 1, none⟩ = some (.int .i64 k)
  c2 : w.cell? ⟨W.heap.size, 2, none⟩ = some (.int .i64 s)
  r : Ew w (W.heap.size + 1) 0 0
  d : Below W.heap.size W w
theorem Kt.below {W w w' : World} {c k s : Int} (h : Kt W w c k s) (hb : Below w.heap.size w w') : Kt W w' c k s := ⟨keepc hb h.c0, keepc hb h.c1, keepc hb h.c2, h.r.below hb, h.d.trans (hb.mono h.d.size)⟩
set_option maxHeartbeats 20000000 in
set_option maxRecDepth 100000 in
theorem rtrue22 (wn n c s N : Nat) (kk : Int) (v : Nat × Nat) (a2 a3 : Option Addr) (cap2 cap3 : Nat) (z cs : List (Nat × Nat)) (hw : wn ≤ 6) (hn : n = 2 ^ wn) (hN : cs.length = N) (hc : n * c + n ≤ N) (hs : s < n) (lz : ltE z) (lc : ltE cs) (h2 : z.length ≤ 1000) (h3 : N ≤ 100000) (W : World) (hz : ERow W a2 z) (hcs : ERow W a3 cs) :
    Calls Try.prog 27 #[.int .i64 (wn : Int), .agg #[.int .i64 (c : Int), .int .i64 kk, .int .i64 (s : Int), .int .u64 (v.1 : Int), .int .u64 (v.2 : Int)], .slice a2 z.length cap2, .slice a3 N cap3] W fun e w' => e = .returned (.agg #[.int .u64 ((vl (tru kk n s cs c) z).1 : Int), .int .u64 ((vl (tru kk n s cs c) z).2 : Int)]) ∧ Below W.heap.size W w' := by
  have hn0 : 0 < n := by rw [hn]; exact Nat.two_pow_pos _
  have hn1 : n ≤ 64 := by rw [hn]; exact Nat.le_trans (Nat.pow_le_pow_right (by decide) hw) (by decide)
  have hpw : pw (wn : Int) = (n : Int) := by rw [hn]; rfl
  have HT := hidC (rtwoS wn (by omega))
  rw [← hn] at HT
  have HWs := hidC (fun (x y : Nat) (hx : x ≤ 1000) (hy : y ≤ 1000) => rwas kk wn n s x y hw hpw hx hy (by omega))
  have HV := hidC (fun (u : World) (ta : Option Addr) (tc : Nat) (hd : Below W.heap.size W u) (hO : ERow u ta (tru kk n s cs c)) => rvalue_any ta a2 tc cap2 (tru kk n s cs c) z (lt_tru kk n s lc c) lz (by rw [tru_len]; omega) h2 u hO (hz.below hd))
  rw [tru_len] at HV
  have HF : Hid ((tru kk n s cs c).length = n ∧ ∀ j, j < n → (tru kk n s cs c).getD j (0, 0) = truE kk n s cs c j n) := ⟨tru_len kk n s cs c, fun j hj => tru_at kk n s cs c hj⟩
  have HP : Hid (ERow W a3 cs ∧ cs.length = N) := ⟨hcs, hN⟩
  obtain ⟨i0, hi0, hz0, hz1, hz2⟩ := info_relem
  have HI : Hid (Try.prog.info? 34 = some i0 ∧ i0.zero = some (.agg #[.int .u64 0, .int .u64 0]) ∧ i0.size = 2 ∧ i0.bytes = 16) := ⟨hi0, hz0, hz1, hz2⟩
  have K0 : Hid (Kt W ((W.alloc (Obj.cells #[.int .i64 (c : Int), .int .i64 kk, .int .i64 (s : Int), .int .u64 (v.1 : Int), .int .u64 (v.2 : Int)] 58)).alloc (Obj.cells #[.int .u64 0, .int .u64 0] 34)) (c : Int) kk (s : Int)) := ⟨by simp [go_sem], by simp [go_sem], by simp [go_sem], by have h := Ew.roomR (W.alloc (Obj.cells #[.int .i64 (c : Int), .int .i64 kk, .int .i64 (s : Int), .int .u64 (v.1 : Int), .int .u64 (v.2 : Int)] 58)) 34; simpa using h, ((Below.refl W.heap.size W).alloc (Nat.le_refl _) _).alloc (by simp) _⟩
  clear hi0 hz0 hz1 hz2 hz hcs hN hn hpw lz
  generalize z.length = Z at *
  generalize vl (tru kk n s cs c) z = R at *
  go_enter Try.func27, Try.ntmps27
  go_wp2_with (go_at_call 26; refine (HT.out _).mono ?_; rintro e w1 ⟨rfl, rfl⟩)
  generalize ((W.alloc (Obj.cells #[.int .i64 (c : Int), .int .i64 kk, .int .i64 (s : Int), .int .u64 (v.1 : Int), .int .u64 (v.2 : Int)] 58)).alloc (Obj.cells #[.int .u64 0, .int .u64 0] 34)) = wb at *
  clear HT
  go_loopw [10, 11] (fun t u wr => ∃ j : Nat, j ≤ n ∧ u = .int .i64 j ∧ Hid (wr.ownsRow wb.heap.size 34 2 t j (flat ((tru kk n s cs c).take j)) ∧ Below wb.heap.size wb wr)) (fun _ u _ => n - (intOf u).toNat)
  case atStart => exact ⟨0, Nat.zero_le _, rfl, ⟨⟨by simp [flat], .inl ⟨rfl, rfl⟩⟩, Below.refl _ _⟩⟩
  case round =>
    obtain ⟨j, hj, rfl, HO⟩ := hrel
    by_cases hlt : j < n
    · have j1 : (j : Int) < (n : Int) := by omega
      have j0 : (0 : Int) ≤ (j : Int) := by omega
      have K1 : Hid (Pt wb (wr.alloc (Obj.cells #[.int .u64 0, .int .u64 0] 34)) u10 j ((tru kk n s cs c).take j) wr.heap.size (truE kk n s cs c j 0)) := Pt.new HO.out.1 HO.out.2 _
      have HTK : Hid ((tru kk n s cs c).take (j + 1) = (tru kk n s cs c).take j ++ [truE kk n s cs c j n]) := by
        show _ = _
        rw [take_sn _ j (by rw [HF.out.1]; exact hlt), HF.out.2 j hlt]
      clear HO
      generalize (tru kk n s cs c).take j = L at *
      obtain ⟨L', hL'⟩ : ∃ L', L' = (tru kk n s cs c).take (j + 1) := ⟨_, rfl⟩
      rw [← hL'] at HTK
      have HLL : Hid ((tru kk n s cs c).take (j + 1) = L') := hL'.symm
      clear hL'
      go_wp2_with fail
      generalize (wr.alloc (Obj.cells #[.int .u64 0, .int .u64 0] 34)) = wa at *
      generalize wr.heap.size = q8 at *
      go_loopw [13] (fun u wr => ∃ i : Nat, i ≤ n ∧ u = .int .i64 i ∧ Hid (Pt wb wr u10 j L q8 (truE kk n s cs c j i))) (fun u _ => n - (intOf u).toNat)
      case atStart => exact ⟨0, Nat.zero_le _, rfl, K1⟩
      case round =>
        obtain ⟨i, hi', rfl, HJ⟩ := hrel
        clear K1
        by_cases hiN : i < n
        · have i1 : (i : Int) < (n : Int) := by omega
          have i0' : (0 : Int) ≤ (i : Int) := by omega
          obtain ⟨p, hp⟩ : ∃ p, p = n * c := ⟨_, rfl⟩
          obtain ⟨y, hy⟩ : ∃ y, y = p + i := ⟨_, rfl⟩
          have hyN : y < N := by omega
          have e1 : IntKind.i64.wrap ((n : Int) * (c : Int)) = (p : Int) := by rw [IntKind.wrap_i64, ← Int.natCast_mul, ← hp]; omega
          have e2 : IntKind.i64.wrap ((p : Int) + (i : Int)) = (y : Int) := by rw [IntKind.wrap_i64]; omega
          have y1 : (y : Int) < (N : Int) := by omega
          have y0 : (0 : Int) ≤ (y : Int) := by omega
          have H2 : Hid (truE kk n s cs c j (i + 1) = if wsB kk n s j i = true then cs.getD y (0, 0) else truE kk n s cs c j i) := by
            show (if wsB kk n s j i = true then cs.getD (n * c + i) (0, 0) else truE kk n s cs c j i) = _
            rw [hy, hp]
          obtain ⟨b0, o0, rfl, hb0, cb1, cb0⟩ := HP.out.1.cells y (by rw [HP.out.2]; exact hyN)
          have K := K0.out.below HJ.out.d
          have dW : Below W.heap.size W wr := K.d
          have B1 := keepc dW cb1
          have B0 := keepc dW cb0
          have W1 := hidC (HWs.out j i (by omega) (by omega))
          obtain ⟨k0, k1, k2, _, _⟩ := K
          clear cb1 cb0 hb0 hy hp dW
          obtain ⟨t', ht'⟩ : ∃ t', t' = truE kk n s cs c j (i + 1) := ⟨_, rfl⟩
          rw [← ht'] at H2
          have HT' : Hid (t' = truE kk n s cs c j (i + 1)) := ht'
          clear ht'
          generalize truE kk n s cs c j i = t at *
          generalize cs.getD y (0, 0) = x at *
          rcases hB : wsB kk n s j i with _ | _
          · rw [hB] at W1
            have H3 : t' = t := by have := H2.out; rw [hB] at this; exact this
            clear hB H2
            go_wp2_with (go_at_call 32; refine (W1.out.go _).mono ?_; rintro e w2 ⟨rfl, hb2⟩; have HJ2 : Hid (Pt wb w2 u10 j L q8 t) := HJ.out.below hb2; clear hb2)
            refine ⟨⟨i + 1, hiN, by simp, ?_⟩, by simp [intOf]; omega⟩
            rw [← HT'.out, H3]
            exact HJ2
          · rw [hB] at W1
            have H3 : t' = x := by have := H2.out; rw [hB] at this; exact this
            subst H3
            clear hB H2
            go_wp2_with (go_at_call 32; refine (W1.out.go _).mono ?_; rintro e w2 ⟨rfl, hb2⟩; have HJ2 : Hid (Pt wb w2 u10 j L q8 t) := HJ.out.below hb2; have B1' := keepc hb2 B1; have B0' := keepc hb2 B0; have k0' := keepc hb2 k0; obtain ⟨⟨r1, r0⟩, f1, f0⟩ := HJ2.out.e; clear hb2 B1 B0 k0 k1 k2 HJ)
            refine ⟨⟨i + 1, hiN, by simp, ?_⟩, by simp [intOf]; omega⟩
            rw [← HT'.out]
            exact HJ2.out.put t'
        · obtain rfl : i = n := by omega
          have c1 := HJ.out.e.hi
          have c0 := HJ.out.e.lo
          obtain ⟨t, ht⟩ : ∃ t, t = truE kk i s cs c j i := ⟨_, rfl⟩
          rw [← ht] at c1 c0 HTK HJ
          clear ht
          have hBq : wb.heap.size ≤ wr.heap.size := HJ.out.d.size
          go_wp2_with (at_builtin; refine wpList_append_own _ rfl _ _ 42 rfl wb.heap.size 34 i0 (.agg #[.int .u64 0, .int .u64 0]) 2 16 Try.underlying42 HI.out.1 HI.out.2.1 HI.out.2.2.1 HI.out.2.2.2 rfl (by decide) _ _ _ rfl (own_below HJ.out.own ((Below.refl _ _).alloc (Nat.le_refl _) _)) ⟨wr.heap.size, 0, none⟩ 1 1 [.int .u64 (t.1 : Nat), .int .u64 (t.2 : Nat)] rfl rfl (fun p u hu => by rcases p with _ | _ | p <;> simp at hu <;> subst hu <;> simp [go_sem]) (by intro u hu; simp at hu; rcases hu with rfl | rfl <;> rfl) (by simp only [maxLen]; omega) (by omega) (by simp; omega) ?_; intro v' w7 hown7 hgr7 _)
          refine ⟨⟨j + 1, hlt, by simp, ⟨?_, ?_⟩⟩, by simp [intOf]; omega⟩
          · rw [HLL.out, HTK.out, flat_end]; exact hown7
          · exact (HJ.out.d.alloc hBq _).grown hgr7 (by simp; omega) fun g hg => (HJ.out.own.lt g hg).1
    · obtain rfl : j = n := by omega
      have h := HO.out.1
      rw [List.take_of_length_le (by rw [HF.out.1]; exact Nat.le_refl _)] at h
      obtain ⟨a', cap', e', hE⟩ := own_row (es := tru kk j s cs c) (by rw [HF.out.1]; exact h)
      rw [HF.out.1] at e'
      subst e'
      have HEr := hidC hE
      have HK := hidC (K0.out.below HO.out.2)
      clear HO HF h hE HWs HP HI
      obtain ⟨⟨r1, r0⟩, f1, f0⟩ := HK.out.r
      go_wp2_with (go_at_call 24; refine (HV.out _ _ _ HK.out.d HEr.out).mono ?_; rintro e w3 ⟨rfl, hb3⟩; have HK3 := hidC (HK.out.below hb3); clear hb3 HK r1 r0 f1 f0; obtain ⟨⟨r1, r0⟩, f1, f0⟩ := HK3.out.r)
      refine bodyPost_ret (v := .agg #[.int .u64 (R.1 : Int), .int .u64 (R.2 : Int)]) (by simp [results, Try.results27, go_sem, *]) rfl ⟨rfl, below2 (p := W.heap.size + 1) HK3.out.d (by omega) _ _⟩
end Go.Proofs.Ytejoombhcnldmaa

/- ClaimTrue, without the program: a column's value turned is the sum of signs times its elements; the sum of mask times columns is the total of the true claims. -/
namespace Go.Proofs.Ytejoombhcnldmaa
open Go.RowKit
open Cb
open Tw (pm)

theorem mod_two {a n : Nat} (h : a < 2 * n) : a % n = if a < n then a else a - n := by
  split
  · rename_i h1
    exact Nat.mod_eq_of_lt h1
  · rename_i h1
    rw [Nat.mod_eq_sub_mod (by omega), Nat.mod_eq_of_lt (by omega)]
theorem ws_one {k : Int} {n s x i j : Nat} (hs : s < n) (hi : i < n) (hj : j < n) (h1 : wsB k n s x i = true) (h2 : wsB k n s x j = true) : i = j := by
  unfold wsB at h1 h2
  split at h1
  · rename_i hk
    rw [if_pos hk] at h2
    simp at h1 h2
    omega
  · rename_i hk
    rw [if_neg hk] at h2
    split at h1
    · rename_i hk3
      rw [if_pos hk3] at h2
      simp at h1 h2
      rw [mod_two (by omega)] at h1 h2
      split at h1 <;> split at h2 <;> omega
    · rename_i hk3
      rw [if_neg hk3] at h2
      simp at h1 h2
      omega
theorem truE_xs (k : Int) {n s : Nat} (hs : s < n) (cs : List (Nat × Nat)) (c x : Nat) : ∀ y, y ≤ n → truE k n s cs c x y = xs y fun i => if wsB k n s x i = true then el cs (n * c + i) else (0, 0)
  | 0, _ => rfl
  | y + 1, hy => by
    show (if wsB k n s x y = true then cs.getD (n * c + y) (0, 0) else truE k n s cs c x y) = xa (xs y fun i => if wsB k n s x i = true then el cs (n * c + i) else (0, 0)) (if wsB k n s x y = true then el cs (n * c + y) else (0, 0))
    by_cases h : wsB k n s x y = true
    · rw [if_pos h, if_pos h, xs_none y (fun i hi => if_neg fun h2 => by have := ws_one hs (by omega) (by omega) h h2; omega), zero_xa]
      rfl
    · rw [if_neg h, if_neg h, xa_zero]
      exact truE_xs k hs cs c x y (by omega)
theorem tvv_xs {m : Nat} (hm : m < 8) {n : Nat} {z cs : List (Nat × Nat)} (oz : ofT m z) (oc : ofT m cs) (o : Stp) (hk : o.k.toNat * n + n ≤ cs.length) :
    tvv m n z cs o = xs n fun i => pm (sgn o.a z o.b.toNat i) (el cs (o.k.toNat * n + i)) := by
  unfold tvv
  have hl := ccol_len hk
  have oo : ofT m (ccol cs n o.k.toNat) := fun e he => oc e (List.mem_of_mem_drop (List.mem_of_mem_take he))
  have orow := of_crw hm n oz o
  rw [dotv_rt (by rw [hl, crw_len]) (fun j _ => ⟨orow.el hm j, oo.el hm j⟩), dots_xsC, crw_len]
  refine xs_congr n fun i hi => ?_
  rw [crw_at n _ _ hi]
  congr 1
  exact ccol_at hi
theorem tvv_tru {m : Nat} (hm : m < 8) {n : Nat} {z cs : List (Nat × Nat)} (hn : n = 2 ^ z.length) (oz : ofT m z) (oc : ofT m cs) (o : Stp) (hs : o.b.toNat < n) (hk : o.k.toNat * n + n ≤ cs.length) :
    tvv m n z cs o = vl (tru o.a n o.b.toNat cs o.k.toNat) z := by
  rw [tvv_xs hm oz oc o hk]
  unfold vl
  rw [tru_len]
  have h1 : (xs n fun i => pm (el (tru o.a n o.b.toNat cs o.k.toNat) i) (wt z i)) = xs n fun i => xs n fun y => pm (if wsB o.a n o.b.toNat i y = true then el cs (n * o.k.toNat + y) else (0, 0)) (wt z i) := by
    refine xs_congr n fun i hi => ?_
    have e : el (tru o.a n o.b.toNat cs o.k.toNat) i = truE o.a n o.b.toNat cs o.k.toNat i n := tru_at _ _ _ _ _ hi
    rw [e, truE_xs o.a hs cs o.k.toNat i n (Nat.le_refl _), xs_pm]
  rw [h1, xs_swap]
  refine xs_congr n fun y hy => ?_
  rw [sgn_ws o.a z o.b.toNat y (by rw [← hn]; exact hs) (by rw [← hn]; exact hy), ← hn, xs_pm]
  refine xs_congr n fun x hx => ?_
  rw [Nat.mul_comm n]
  split
  · exact Tw.pm_comm' _ _
  · rw [zero_pm, zero_pm]
theorem xs_window (g : Nat → Nat × Nat) (o n r : Nat) : xs (o + n + r) (fun c => if o ≤ c ∧ c < o + n then g c else (0, 0)) = xs n fun y => g (o + y) := by
  rw [xs_add, xs_add, xs_none o (fun i hi => if_neg (by omega)), zero_xa, xs_none r (fun i hi => if_neg (by omega)), xa_zero]
  exact xs_congr n fun i hi => if_pos (by omega)
theorem of_mkI {m : Nat} (hm : m < 8) (n : Nat) {z : List (Nat × Nat)} (oz : ofT m z) {b : Nat × Nat} (ob : ofE m b) (cl : List Stp) : ∀ i c, ofE m (mkI n z b cl i c)
  | 0, _ => (ofB_iff m 0 0 hm).2 (Or.inr ⟨rfl, Nat.two_pow_pos _⟩)
  | i + 1, c => by
    unfold mkI adv
    split
    · exact of_xor hm (of_mkI hm n oz ob cl i c) (of_pm hm (of_bpow hm ob i) ((of_crw hm n oz _).el hm _))
    · exact of_mkI hm n oz ob cl i c
/-- The claims' true values. -/
def tvs (m n : Nat) (z cs : List (Nat × Nat)) (cl : List Stp) : List (Nat × Nat) := cl.map (tvv m n z cs)
theorem tvs_at (m n : Nat) (z cs : List (Nat × Nat)) (cl : List Stp) {i : Nat} (h : i < cl.length) : (tvs m n z cs cl).getD i (0, 0) = tvv m n z cs (cl.getD i zst) := by simp [tvs, List.getD, h]
theorem of_tvs {m : Nat} (hm : m < 8) {n N : Nat} {z cs : List (Nat × Nat)} (hN : cs.length = N) (oz : ofT m z) (oc : ofT m cs) (cl : List Stp) (hk : ∀ i, i < cl.length → (cl.getD i zst).k.toNat * n + n ≤ N) : ofT m (tvs m n z cs cl) := fun e he => by
  obtain ⟨o, ho, rfl⟩ := List.mem_map.1 he
  obtain ⟨i, hi, rfl⟩ := List.getElem_of_mem ho
  have h := hk i hi
  have hg : cl.getD i zst = cl[i] := by simp [List.getD, hi]
  rw [hg] at h
  rw [tvv_xs hm oz oc _ (by rw [hN]; exact h)]
  exact of_xs hm (f := fun j => pm (sgn cl[i].a z cl[i].b.toNat j) (el cs (cl[i].k.toNat * n + j))) (fun j => of_pm hm (of_sgn hm _ oz _ _) (oc.el hm _)) n
theorem lt_tvs (m n : Nat) (z cs : List (Nat × Nat)) (cl : List Stp) : ltE (tvs m n z cs cl) := fun e he => by
  obtain ⟨o, _, rfl⟩ := List.mem_map.1 he
  unfold tvv dotv
  split
  · split
    · rw [dots_xsC]; exact lt_xs (fun _ => lt_pm _ _) _
    · exact lt_zero
  · exact lt_zero
theorem mask_sum {m : Nat} (hm : m < 8) {n N : Nat} {z cs : List (Nat × Nat)} (hN : cs.length = N) (oz : ofT m z) (oc : ofT m cs) (b : Nat × Nat) (cl : List Stp) (hk : ∀ i, i < cl.length → (cl.getD i zst).k.toNat * n + n ≤ N) :
    ∀ i, i ≤ cl.length → (xs N fun c => pm (mkI n z b cl i c) (el cs c)) = xs i fun j => pm (bpow b j) (tvv m n z cs (cl.getD j zst))
  | 0, _ => xs_none N fun c _ => zero_pm _
  | i + 1, hi => by
    have ih := mask_sum hm hN oz oc b cl hk i (by omega)
    have hki := hk i (by omega)
    show _ = xa (xs i fun j => pm (bpow b j) (tvv m n z cs (cl.getD j zst))) (pm (bpow b i) (tvv m n z cs (cl.getD i zst)))
    rw [← ih, tvv_xs hm oz oc _ (by rw [hN]; exact hki)]
    obtain ⟨r, hr⟩ : ∃ r, N = (cl.getD i zst).k.toNat * n + n + r := ⟨N - ((cl.getD i zst).k.toNat * n + n), by omega⟩
    have h1 : (xs N fun c => pm (mkI n z b cl (i + 1) c) (el cs c)) = xs N fun c => xa (pm (mkI n z b cl i c) (el cs c)) (if (cl.getD i zst).k.toNat * n ≤ c ∧ c < (cl.getD i zst).k.toNat * n + n then pm (pm (bpow b i) (el (crw n z (cl.getD i zst)) (c - (cl.getD i zst).k.toNat * n))) (el cs c) else (0, 0)) := by
      refine xs_congr N fun c _ => ?_
      show pm (adv (mkI n z b cl i) _ _ _ n c) _ = _
      unfold adv
      split
      · rw [xa_pm]
      · rw [xa_zero]
    rw [h1, xs_two]
    congr 1
    rw [hr, xs_window (fun c => pm (pm (bpow b i) (el (crw n z (cl.getD i zst)) (c - (cl.getD i zst).k.toNat * n))) (el cs c)), Rg.pm_xs]
    refine xs_congr n fun y hy => ?_
    rw [Nat.add_sub_cancel_left, crw_at n _ _ hy, Tw.pm_assoc']
theorem mask_total {m : Nat} (hm : m < 8) {n N : Nat} {z cs : List (Nat × Nat)} (hN : cs.length = N) (oz : ofT m z) (oc : ofT m cs) {b : Nat × Nat} (ob : ofE m b) (cl : List Stp) (hk : ∀ i, i < cl.length → (cl.getD i zst).k.toNat * n + n ≤ N) :
    dotv (m : Int) ((List.range N).map (mkI n z b cl cl.length)) cs = tts (otl cl (tvs m n z cs cl)) b cl.length := by
  have hl : ((List.range N).map (mkI n z b cl cl.length)).length = N := by simp
  have he : ∀ c, c < N → ((List.range N).map (mkI n z b cl cl.length)).getD c (0, 0) = mkI n z b cl cl.length c := fun c hc => by simp [List.getD, hc]
  rw [dotv_rt (by rw [hN, hl]) (fun j hj => ?_), dots_xsC, hl]
  · have h1 : (xs N fun i => pm (el ((List.range N).map (mkI n z b cl cl.length)) i) (el cs i)) = xs N fun c => pm (mkI n z b cl cl.length c) (el cs c) := xs_congr N fun c hc => by
      show pm (((List.range N).map (mkI n z b cl cl.length)).getD c (0, 0)) _ = _
      rw [he c hc]
    rw [h1, mask_sum hm hN oz oc b cl hk cl.length (Nat.le_refl _)]
    refine xs_congr _ fun j hj => ?_
    show _ = pm (bpow b j) ((otl cl (tvs m n z cs cl)).getD j zst).v
    rw [otl_at cl _ hj]
    show _ = pm (bpow b j) ((tvs m n z cs cl).getD j (0, 0))
    rw [tvs_at m n z cs cl hj]
  · rw [hl] at hj
    have h := of_mkI hm n oz ob cl cl.length j
    have h2 := oc.el hm j
    rw [he j hj]
    exact ⟨h, h2⟩
end Go.Proofs.Ytejoombhcnldmaa
