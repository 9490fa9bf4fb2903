/- The contract of the document's Least of layer 33 over the seat's translation. -/
import Derived.Test.YtakaconhoodigaaFyC
import Derived.Test.YtakaconhoodigaaFrT
namespace Go.Proofs.Ytakaconhoodigaa
open Go.RowKit
open Cb
open Tw (pm)
open Fr

/-- Rows in memory: the conjugates, the polynomial; what lay there before. -/
structure Lq (W w : World) (g0 g : Nat) (q p : List (Nat × Nat)) : Prop where
  l : ERow w (some ⟨g0, 0, none⟩) q
  p : ERow w (some ⟨g, 0, none⟩) p
  d : Below W.heap.size W w
theorem Lq.below {W w w' : World} {g0 g : Nat} {q p : List (Nat × Nat)} (h : Lq W w g0 g q p) (hb : Below w.heap.size w w') : Lq W w' g0 g q p := ⟨h.l.below hb, h.p.below hb, h.d.trans (hb.mono h.d.size)⟩
theorem Lq.drew {W w : World} {g0 g : Nat} {q p : List (Nat × Nat)} (h : Lq W w g0 g q p) : Lq W w.drew g0 g q p := h.below (Below.refl _ _).drew
theorem Lq.lcell {W w : World} {g0 g : Nat} {q p : List (Nat × Nat)} (h : Lq W w g0 g q p) {i : Nat} (hi : i < q.length) : w.cell? ⟨g0, i * 2, none⟩ = some (.int .u64 ((q.getD i (0, 0)).1 : Int)) ∧ w.cell? ⟨g0, i * 2 + 1, none⟩ = some (.int .u64 ((q.getD i (0, 0)).2 : Int)) := by
  obtain ⟨b, off, e, _, c1, c0⟩ := h.l.cells i hi
  injection e with e; injection e with e1 e2; subst e1; subst e2
  rw [Nat.zero_add] at c1 c0
  exact ⟨c1, c0⟩
theorem Lq.pcell {W w : World} {g0 g : Nat} {q p : List (Nat × Nat)} (h : Lq W w g0 g q p) {i : Nat} (hi : i < p.length) : w.cell? ⟨g, i * 2, none⟩ = some (.int .u64 ((p.getD i (0, 0)).1 : Int)) ∧ w.cell? ⟨g, i * 2 + 1, none⟩ = some (.int .u64 ((p.getD i (0, 0)).2 : Int)) := by
  obtain ⟨b, off, e, _, c1, c0⟩ := h.p.cells i hi
  injection e with e; injection e with e1 e2; subst e1; subst e2
  rw [Nat.zero_add] at c1 c0
  exact ⟨c1, c0⟩
theorem Lq.far {W w : World} {g0 g : Nat} {q p : List (Nat × Nat)} (h : Lq W w g0 g q p) {b : Nat} (hb : W.heap.size ≤ b) (h0 : g0 ≠ b) (h1 : g ≠ b) (o o' : Nat) (u v : Value) : Lq W ((w.setCell ⟨b, o, none⟩ u).setCell ⟨b, o', none⟩ v) g0 g q p :=
  ⟨h.l.offE (fun g' off e => by injection e with e; injection e with e1 e2; omega) _ _ _ _, h.p.offE (fun g' off e => by injection e with e; injection e with e1 e2; omega) _ _ _ _, (h.d.setCell hb _).setCell hb _⟩
theorem ERow.lt0 {w : World} {g : Nat} {es : List (Nat × Nat)} (h : ERow w (some ⟨g, 0, none⟩) es) (h0 : 0 < es.length) : g < w.heap.size := by
  obtain ⟨b, off, e, hb, _⟩ := h.cells 0 h0
  injection e with e; injection e with e1 e2; subst e1; exact hb
theorem Lq.grown {W w w' : World} {g0 g : Nat} {q p : List (Nat × Nat)} (h : Lq W w g0 g q p) (hq : 0 < q.length) (hp : 0 < p.length) {r : Option Nat} (k : w.grownBy w' r) (h0 : r ≠ some g0) (h1 : r ≠ some g) (hr : ∀ i, r = some i → W.heap.size ≤ i) : Lq W w' g0 g q p :=
  ⟨h.l.blkF (k.block g0 (h.l.lt0 hq) (fun e => h0 e.symm)) (Nat.lt_of_lt_of_le (h.l.lt0 hq) k.size), h.p.blkF (k.block g (h.p.lt0 hp) (fun e => h1 e.symm)) (Nat.lt_of_lt_of_le (h.p.lt0 hp) k.size), h.d.grown k h.d.size hr⟩
theorem ERow.takeY {w : World} {a : Option Addr} {es fs : List (Nat × Nat)} (h : ERow w a es) (hl : fs.length ≤ es.length) (he : ∀ i, i < fs.length → fs.getD i (0, 0) = es.getD i (0, 0)) : ERow w a fs := ⟨fun i hi => by
  rw [he i hi]
  exact h.cells i (by omega)⟩
theorem cl_len (a : Nat × Nat) (n : Nat) : (cl a n).length = n := by simp [cl]
theorem cl_at (a : Nat × Nat) (n i : Nat) (h : i < n) : (cl a n).getD i (0, 0) = sqv a i := by simp [cl, h]
theorem rls_cl (a : Nat × Nat) (N : Nat) : rls a 1 N = cl a N := by simp [rls, cl]
/-- The first terms of the next polynomial. -/
def tmN (p : List (Nat × Nat)) (c : Nat × Nat) (j : Nat) : List (Nat × Nat) := (List.range j).map (tmE p c)
theorem tmN_succ (p : List (Nat × Nat)) (c : Nat × Nat) (j : Nat) : tmN p c (j + 1) = tmN p c j ++ [tmE p c j] := by simp [tmN, List.range_succ]
theorem tmN_all (p : List (Nat × Nat)) (c : Nat × Nat) : tmN p c (p.length + 1) = tms p c := rfl
set_option maxRecDepth 100000 in
set_option maxHeartbeats 20000000 in
theorem rleast33 (k m N M : Nat) (hk : k < 8) (hm : m ≤ k) (hN : N = 2 ^ k) (hM : M = 2 ^ m) (a : Nat × Nat) (la : lt2 a) (oa : ofE m a) (hno : ∀ j, j < m → ¬ ofE j a) (W : World) :
    Calls Try.prog 31 #[.int .i64 (k : Int), .agg #[.int .u64 (a.1 : Int), .int .u64 (a.2 : Int)]] W fun e w' => ∃ g cap, e = .returned (.slice (some ⟨g, 0, none⟩) (M + 1) cap) ∧ ERow w' (some ⟨g, 0, none⟩) (lst a M) ∧ Below W.heap.size W w' := by
  have hMN : M ≤ N := by rw [hM, hN]; exact Nat.pow_le_pow_right (by decide) hm
  have hN0 : 0 < N := by rw [hN]; exact Nat.two_pow_pos k
  have hN1 : N ≤ 128 := by rw [hN]; exact Nat.le_trans (Nat.pow_le_pow_right (by decide) (show k ≤ 7 by omega)) (by decide)
  obtain ⟨i0, hi, hz0, hz1, hz2⟩ := info_relem
  have HIF := hidF (And.intro hi (And.intro hz0 (And.intro hz1 hz2)))
  have HC := hidF (rconj33 k 0 k 1 N hk (Nat.zero_le _) rfl rfl hN a la)
  rw [rls_cl] at HC
  obtain ⟨q, hq⟩ : ∃ q, q = cl a N := ⟨_, rfl⟩
  have hql : q.length = N := by rw [hq, cl_len]
  have HQ : Hid (∀ i, i < N → q.getD i (0, 0) = sqv a i) := fun i hi => by rw [hq, cl_at a N i hi]
  have HQT : Hid (∀ w i ad, i ≤ N → ERow w ad q → ERow w ad (cl a i)) := fun w i ad hi h => h.takeY (by rw [cl_len]; omega) fun j hj => by rw [cl_len] at hj; rw [cl_at a i j hj, hq, cl_at a N j (by omega)]
  rw [← hq] at HC
  have HI1 : Hid (∀ i, i < M → inB (cl a i) (sqv a i) = false) := fun i hi => inB_no fun j hj => by
    rw [cl_len] at hj
    rw [cl_at a i j hj]
    exact conj_ne (by omega) la oa hno hj (by omega)
  have HI2 : Hid (∀ i, M ≤ i → inB (cl a i) (sqv a i) = true) := fun i hi => inB_at (i := i % M) (by rw [cl_len]; exact Nat.lt_of_lt_of_le (Nat.mod_lt _ (by rw [hM]; exact Nat.two_pow_pos m)) hi) (by
    rw [cl_at a i _ (Nat.lt_of_lt_of_le (Nat.mod_lt _ (by rw [hM]; exact Nat.two_pow_pos m)) hi), hM]
    exact conj_again (by omega) la oa i)
  have LS : Hid (∀ i, lt2 (sqv a i)) := fun i => lt_sqv la i
  clear hi hz0 hz1 hz2 hN hM hm hk oa hno hq la
  go_enter Try.func31, Try.ntmps31
  go_wp2_with (go_at_call 22; refine (HC.out _).mono ?_; rintro e w1 ⟨v, rfl, hown, hb1⟩; obtain ⟨N', hN'⟩ : ∃ N', N = N' + 1 := ⟨N - 1, by omega⟩; have hown2 := hown; rw [hN'] at hown2; obtain ⟨g0, capl, hv⟩ := ownsRow_succ hown2; rw [← hN'] at hv; clear hown2 hN' N'; subst hv; have K0 : Hid (Lq W w1 g0 (W.heap.size + 1) q (lst a 0) ∧ N ≤ capl ∧ W.heap.size ≤ g0) := (by
      have hg : W.heap.size ≤ g0 ∧ N ≤ capl := (by
        rcases hown.2 with ⟨h0, _⟩ | ⟨g', cap', cur, e', h1', _, h2', _⟩
        · cases h0
        · injection e' with e1' e2' e3'; injection e1' with e1'; injection e1' with e1' _ _; subst e1'; subst e3'; simp at h1'; omega)
      rw [← hql] at hown
      obtain ⟨a', cap', e', hrow⟩ := own_row hown
      injection e' with e' _ _
      subst e'
      refine ⟨⟨hrow, ERow.below ⟨fun i hi => ?_⟩ hb1, (((Below.refl _ _).alloc (Nat.le_refl _) _).alloc (by simp) _).trans (hb1.mono (by simp; omega))⟩, hg.2, hg.1⟩
      obtain rfl : i = 0 := by simp [lst, prd, cl] at hi; omega
      exact ⟨W.heap.size + 1, 0, rfl, by simp, by simp [go_sem, lst, prd, cl], by simp [go_sem, lst, prd, cl]⟩); clear hown hb1 HC)
  have hcl : N ≤ capl := K0.out.2.1
  have hW0 : W.heap.size ≤ g0 := K0.out.2.2
  go_loopw [5, 7] (fun v u wr => ∃ i g cp n : Nat, i ≤ N ∧ Hid (n = min i M + 1) ∧ v = .slice (some ⟨g, 0, none⟩) n cp ∧ u = .int .i64 i ∧ Hid (Lq W wr g0 g q (lst a (min i M)))) (fun _ u _ => N - (intOf u).toNat)
  case atStart => exact ⟨0, W.heap.size + 1, 1, 1, Nat.zero_le _, (by show _ = _; simp), rfl, rfl, by rw [Nat.zero_min]; exact K0.out.1⟩
  case round =>
    obtain ⟨i, g, cp, n, hi, Hn, rfl, rfl, HK0⟩ := hrel
    clear K0
    by_cases hlt : i < N
    · have i1 : (i : Int) < (N : Int) := by omega
      have i0' : (0 : Int) ≤ (i : Int) := by omega
      have i2 : (i : Int) ≤ (capl : Int) := by omega
      have c1 : ¬ capl = 0 := by omega
      have c2 : ¬ (capl : Int) = 0 := by omega
      obtain ⟨c, hc⟩ : ∃ c, c = sqv a i := ⟨_, rfl⟩
      have lcv : lt2 c := by rw [hc]; exact LS.out i
      have HLC : Hid (∀ (w : World), ∀ {g : Nat} {p : List (Nat × Nat)}, Lq W w g0 g q p → w.cell? ⟨g0, i * 2, none⟩ = some (.int .u64 (c.1 : Int)) ∧ w.cell? ⟨g0, i * 2 + 1, none⟩ = some (.int .u64 (c.2 : Int))) := fun w g p h => by
        have := h.lcell (i := i) (by omega)
        rw [HQ.out i hlt, ← hc] at this
        exact this
      have HIN : Hid (∀ w, ERow w (some ⟨g0, 0, none⟩) q → Calls Try.prog 47 #[.slice (some ⟨g0, 0, none⟩) i capl, .agg #[.int .u64 (c.1 : Int), .int .u64 (c.2 : Int)]] w fun e w' => e = .returned (.bool (inB (cl a i) c)) ∧ Below w.heap.size w w') := fun w h => rin33 _ capl i (cl a i) (cl_len a i) (by omega) c w (HQT.out w i _ hi h)
      by_cases hiM : i < M
      · rw [hc, HI1.out i hiM, ← hc] at HIN
        have hmin : min i M = i := by omega
        have hmin2 := hidF (show min (i + 1) M = i + 1 by omega)
        rw [hmin] at Hn HK0
        have hn : n = i + 1 := Hn.out
        clear hmin
        obtain ⟨p, hp⟩ : ∃ p, p = lst a i := ⟨_, rfl⟩
        have hpl : p.length = n := by rw [hp, lst_len, hn]
        have HLP := hidF hpl
        have ltp : ltE p := by rw [hp]; exact lt_lst i
        have HNX : Hid (tmN p c (n + 1) = lst a (i + 1)) := by
          show _ = _
          rw [lst_succ, ← hp, ← hc, ← hpl, tmN_all]
        rw [← hp] at HK0
        have HPC : Hid (∀ (w : World) (j : Nat), j < n → Lq W w g0 g q p → w.cell? ⟨g, j * 2, none⟩ = some (.int .u64 ((el p j).1 : Int)) ∧ w.cell? ⟨g, j * 2 + 1, none⟩ = some (.int .u64 ((el p j).2 : Int))) := fun w j hj h => h.pcell (by omega)
        have HPR : Hid (∀ j, Ret 16 #[.agg #[.int .u64 (c.1 : Int), .int .u64 (c.2 : Int)], .agg #[.int .u64 ((el p j).1 : Int), .int .u64 ((el p j).2 : Int)]] (.agg #[.int .u64 ((pm c (el p j)).1 : Int), .int .u64 ((pm c (el p j)).2 : Int)])) := fun j => rproduct_any _ _ _ _ lcv.1 lcv.2 (ltE_el ltp j).1 (ltE_el ltp j).2
        have HAD : Hid (∀ (yz : Nat × Nat) (jj : Nat), lt2 yz → Ret 29 #[.agg #[.int .u64 (yz.1 : Int), .int .u64 (yz.2 : Int)], .agg #[.int .u64 ((el p jj).1 : Int), .int .u64 ((el p jj).2 : Int)]] (.agg #[.int .u64 ((xa yz (el p jj)).1 : Int), .int .u64 ((xa yz (el p jj)).2 : Int)])) := fun yz jj h => radd _ _ _ _ h.1 h.2 (ltE_el ltp jj).1 (ltE_el ltp jj).2
        have hn9 : n ≤ 200 := by omega
        have Hn' := hidF hn
        clear hn Hn hp ltp lcv hc HI1 HI2
        obtain ⟨l1, l0⟩ := HLC.out wr HK0.out
        go_upto_region 6 with fail
        go_region_held3 (fun w => w.cell? ⟨g0, i * 2, none⟩ = some (.int .u64 (c.1 : Int)) ∧ w.cell? ⟨g0, i * 2 + 1, none⟩ = some (.int .u64 (c.2 : Int))) (first | (go_keep; done) | (exact ⟨by simp [go_sem, *], by simp [go_sem, *]⟩)) ((go_at_call 47; refine (HIN.out _ (by first | exact HK0.out.l | exact HK0.out.drew.l)).mono ?_; rintro e w0 ⟨rfl, hb0⟩; have K1 : Hid (Lq W w0 g0 g q p) := HK0.out.below (below_drewF hb0); clear hb0 HK0 l1 l0; obtain ⟨l1, l0⟩ := HLC.out w0 K1.out))
        clear l1 l0 HIN
        go_wp2_with fail
        obtain ⟨N0, hN0'⟩ : ∃ N0, N0 = w0.heap.size := ⟨_, rfl⟩
        have HL0 : Hid (0 < q.length ∧ 0 < p.length ∧ g0 < N0 ∧ g < N0 ∧ W.heap.size ≤ N0) := ⟨by omega, by have := Hn'.out; have := HLP.out; omega, by rw [hN0']; exact K1.out.l.lt0 (by omega), by rw [hN0']; exact K1.out.p.lt0 (by have := Hn'.out; have := HLP.out; omega), by rw [hN0']; exact K1.out.d.size⟩
        go_loopw [8, 9] (fun v u wr => ∃ j : Nat, j ≤ n + 1 ∧ u = .int .i64 j ∧ Hid (wr.ownsRow N0 25 2 v j (flat (tmN p c j)) ∧ Lq W wr g0 g q p ∧ N0 ≤ wr.heap.size)) (fun _ u _ => n + 1 - (intOf u).toNat)
        case atStart => exact ⟨0, Nat.zero_le _, rfl, ⟨rfl, .inl ⟨rfl, rfl⟩⟩, K1.out, by rw [hN0']; exact Nat.le_refl _⟩
        case round =>
          obtain ⟨j, hj, rfl, HK⟩ := hrel
          clear K1 hN0'
          by_cases hjn : j ≤ n
          · have jle : (j : Int) ≤ (n : Int) := by omega
            by_cases hj0 : j = 0
            · have hjn1 : 0 < n := by have := Hn'.out; omega
              have jn : j < n := by omega
              have HJ0 := hidF hj0
              have j0' : ¬ (0 : Int) < (j : Int) := by omega
              have jn' : (j : Int) < (n : Int) := by omega
              clear hj0
              go_upto_region 13 with fail
              have KB : Hid ((wr.alloc (Obj.cells #[.int .u64 0, .int .u64 0] 25)).ownsRow N0 25 2 u8 j (flat (tmN p c j)) ∧ Lq W (wr.alloc (Obj.cells #[.int .u64 0, .int .u64 0] 25)) g0 g q p ∧ Ew (wr.alloc (Obj.cells #[.int .u64 0, .int .u64 0] 25)) wr.heap.size 0 0 ∧ N0 ≤ (wr.alloc (Obj.cells #[.int .u64 0, .int .u64 0] 25)).heap.size) := ⟨own_blkF HK.out.1 fun g e => Below.heap_alloc _ _ _ (own_ltF HK.out.1 e), HK.out.2.1.below (below_alF _ _), Ew.newF wr (0, 0) _, by have := HK.out.2.2; simp; omega⟩
              have hob : ∀ g', u8.ownBlock = some g' → g' ≠ wr.heap.size := fun g' e => by have := own_ltF HK.out.1 e; omega
              have HOB := hidF hob
              have hbN : N0 ≤ wr.heap.size := HK.out.2.2
              clear hob HK
              generalize (wr.alloc (Obj.cells #[.int .u64 0, .int .u64 0] 25)) = Z at *
              generalize wr.heap.size = b at *
              have b1 : ¬ b = g0 := by have := HL0.out.2.2.1; omega
              have b2 : ¬ g0 = b := fun e => b1 e.symm
              have b3 : ¬ b = g := by have := HL0.out.2.2.2.1; omega
              have b4 : ¬ g = b := fun e => b3 e.symm
              have bW : W.heap.size ≤ b := by have := HL0.out.2.2.2.2; omega
              obtain ⟨⟨x1, x0⟩, t1, t0⟩ := KB.out.2.2.1
              have PR : Hid (Ret 16 #[.agg #[.int .u64 (c.1 : Int), .int .u64 (c.2 : Int)], .agg #[.int .u64 ((el p j).1 : Int), .int .u64 ((el p j).2 : Int)]] (.agg #[.int .u64 ((pm c (el p j)).1 : Int), .int .u64 ((pm c (el p j)).2 : Int)])) := HPR.out j
              obtain ⟨z, hz⟩ : ∃ z, z = pm c (el p j) := ⟨_, rfl⟩
              rw [← hz] at PR
              have HZ := hidF hz
              clear hz
              have lc := HLC.out Z KB.out.2.1
              have pc := HPC.out Z j jn KB.out.2.1
              obtain ⟨l1, l0⟩ := lc
              obtain ⟨p1, p0⟩ := pc
              go_region_held3 (fun w => w.cell? ⟨g0, i * 2, none⟩ = some (.int .u64 (c.1 : Int)) ∧ w.cell? ⟨g0, i * 2 + 1, none⟩ = some (.int .u64 (c.2 : Int)) ∧ w.cell? ⟨g, j * 2, none⟩ = some (.int .u64 ((el p j).1 : Int)) ∧ w.cell? ⟨g, j * 2 + 1, none⟩ = some (.int .u64 ((el p j).2 : Int))) (first | (go_keep; done) | (exact ⟨by simp [go_sem, *], by simp [go_sem, *], by simp [go_sem, *], by simp [go_sem, *]⟩)) ((go_at_call 16; refine (PR.out.go _).mono ?_; rintro e w2 ⟨rfl, hb2⟩; have K2 : Hid (w2.ownsRow N0 25 2 u8 j (flat (tmN p c j)) ∧ Lq W w2 g0 g q p ∧ Ew w2 b 0 0 ∧ N0 ≤ w2.heap.size) := ⟨own_blkF KB.out.1 fun g e => (below_drewF hb2).block g (own_ltF KB.out.1 e), KB.out.2.1.below (below_drewF hb2), KB.out.2.2.1.below (below_drewF hb2), Nat.le_trans KB.out.2.2.2 (below_drewF hb2).size⟩; clear hb2 KB x1 x0 t1 t0 l1 l0 p1 p0; have lc := HLC.out w2 K2.out.2.1; have pc := HPC.out w2 j jn K2.out.2.1; obtain ⟨l1, l0⟩ := lc; obtain ⟨p1, p0⟩ := pc; obtain ⟨⟨x1, x0⟩, t1, t0⟩ := K2.out.2.2.1))
              obtain ⟨y, hy⟩ : ∃ y, y = z := ⟨_, rfl⟩
              have HY : Hid (y = tmE p c j) := by show _ = _; rw [hy, HZ.out, HJ0.out]; unfold tmE; rw [show pvE p 0 = (0, 0) from rfl, zero_xa, Tw.pm_comm']
              subst hy
              go_upto_region 16 with fail
              have KX : Hid (((w2.setCell ⟨b, 0, none⟩ (.int .u64 (y.1 : Int))).setCell ⟨b, 1, none⟩ (.int .u64 (y.2 : Int))).ownsRow N0 25 2 u8 j (flat (tmN p c j)) ∧ Lq W ((w2.setCell ⟨b, 0, none⟩ (.int .u64 (y.1 : Int))).setCell ⟨b, 1, none⟩ (.int .u64 (y.2 : Int))) g0 g q p ∧ Ew ((w2.setCell ⟨b, 0, none⟩ (.int .u64 (y.1 : Int))).setCell ⟨b, 1, none⟩ (.int .u64 (y.2 : Int))) b y.1 y.2 ∧ N0 ≤ ((w2.setCell ⟨b, 0, none⟩ (.int .u64 (y.1 : Int))).setCell ⟨b, 1, none⟩ (.int .u64 (y.2 : Int))).heap.size) := ⟨own_blkF K2.out.1 fun g e => (Below.heap_setCell _ _ _ _ (by have := HOB.out g e; simpa using this)).trans (Below.heap_setCell _ _ _ _ (by have := HOB.out g e; simpa using this)), K2.out.2.1.far bW b2 b4 _ _ _ _, K2.out.2.2.1.set _ _, by simpa [World.setCell] using K2.out.2.2.2⟩
              generalize ((w2.setCell ⟨b, 0, none⟩ (.int .u64 (y.1 : Int))).setCell ⟨b, 1, none⟩ (.int .u64 (y.2 : Int))) = wx at *
              clear x1 x0 t1 t0 l1 l0 p1 p0
              obtain ⟨⟨x1, x0⟩, _, _⟩ := KX.out.2.2.1
              go_wp2_with (at_builtin; refine wpList_append_own _ rfl _ _ 40 rfl N0 25 i0 (.agg #[.int .u64 0, .int .u64 0]) 2 16 Try.underlying40 HIF.out.1 HIF.out.2.1 HIF.out.2.2.1 HIF.out.2.2.2 rfl (by decide) _ j (flat (tmN p c j)) rfl (own_blkF KX.out.1 fun g e => Below.heap_alloc _ _ _ (own_ltF KX.out.1 e)) ⟨wx.heap.size, 0, none⟩ 1 1 [.int .u64 (y.1 : Int), .int .u64 (y.2 : Int)] rfl rfl (fun j u hj => by rcases j with _ | _ | j <;> simp at hj <;> subst hj <;> simp [go_sem, Addr.add]) (by simp [Value.oneCell']) (by simp only [maxLen]; omega) (by omega) (by have := KX.out.2.2.2; simp; omega) ?_; intro v' w7 hown' hgrow _; have KZ : Hid (w7.ownsRow N0 25 2 v' (j + 1) (flat (tmN p c (j + 1))) ∧ Lq W w7 g0 g q p ∧ N0 ≤ w7.heap.size) := ⟨by rw [tmN_succ, flat_snocF, ← HY.out]; exact hown', ((KX.out.2.1.below ((Below.refl _ _).alloc (Nat.le_refl _) _)).grown HL0.out.1 HL0.out.2.1 hgrow (fun e => by have := own_geF KX.out.1 e; have := HL0.out.2.2.1; omega) (fun e => by have := own_geF KX.out.1 e; have := HL0.out.2.2.2.1; omega) (fun i e => by have := own_geF KX.out.1 e; have := HL0.out.2.2.2.2; omega)), by have := hgrow.size; simp at this; have := KX.out.2.2.2; omega⟩; clear hown' hgrow KX x1 x0)
              exact ⟨⟨j + 1, by omega, by go_num, KZ.out⟩, by simp [intOf]; omega⟩
            · by_cases hj1 : j < n
              · clear hjn
                have jn : j < n := by omega
                obtain ⟨jj, hjj⟩ : ∃ jj, j = jj + 1 := ⟨j - 1, by omega⟩
                have jjn : jj < n := by omega
                have j0' : (0 : Int) < (j : Int) := by omega
                have jn' : (j : Int) < (n : Int) := by omega
                have e1 : IntKind.i64.wrap ((j : Int) - 1) = (jj : Int) := by rw [IntKind.wrap_i64]; omega
                have jj1 : (jj : Int) < (n : Int) := by omega
                have HJ := hidF hjj
                clear hjj
                go_upto_region 13 with fail
                have KB : Hid ((wr.alloc (Obj.cells #[.int .u64 0, .int .u64 0] 25)).ownsRow N0 25 2 u8 j (flat (tmN p c j)) ∧ Lq W (wr.alloc (Obj.cells #[.int .u64 0, .int .u64 0] 25)) g0 g q p ∧ Ew (wr.alloc (Obj.cells #[.int .u64 0, .int .u64 0] 25)) wr.heap.size 0 0 ∧ N0 ≤ (wr.alloc (Obj.cells #[.int .u64 0, .int .u64 0] 25)).heap.size) := ⟨own_blkF HK.out.1 fun g e => Below.heap_alloc _ _ _ (own_ltF HK.out.1 e), HK.out.2.1.below (below_alF _ _), Ew.newF wr (0, 0) _, by have := HK.out.2.2; simp; omega⟩
                have hob : ∀ g', u8.ownBlock = some g' → g' ≠ wr.heap.size := fun g' e => by have := own_ltF HK.out.1 e; omega
                have HOB := hidF hob
                have hbN : N0 ≤ wr.heap.size := HK.out.2.2
                clear hob HK
                generalize (wr.alloc (Obj.cells #[.int .u64 0, .int .u64 0] 25)) = Z at *
                generalize wr.heap.size = b at *
                have b1 : ¬ b = g0 := by have := HL0.out.2.2.1; omega
                have b2 : ¬ g0 = b := fun e => b1 e.symm
                have b3 : ¬ b = g := by have := HL0.out.2.2.2.1; omega
                have b4 : ¬ g = b := fun e => b3 e.symm
                have bW : W.heap.size ≤ b := by have := HL0.out.2.2.2.2; omega
                obtain ⟨⟨x1, x0⟩, t1, t0⟩ := KB.out.2.2.1
                have PR : Hid (Ret 16 #[.agg #[.int .u64 (c.1 : Int), .int .u64 (c.2 : Int)], .agg #[.int .u64 ((el p j).1 : Int), .int .u64 ((el p j).2 : Int)]] (.agg #[.int .u64 ((pm c (el p j)).1 : Int), .int .u64 ((pm c (el p j)).2 : Int)])) := HPR.out j
                obtain ⟨z, hz⟩ : ∃ z, z = pm c (el p j) := ⟨_, rfl⟩
                rw [← hz] at PR
                have HZ := hidF hz
                clear hz
                have lc := HLC.out Z KB.out.2.1
                have pc := HPC.out Z j jn KB.out.2.1
                obtain ⟨l1, l0⟩ := lc
                obtain ⟨p1, p0⟩ := pc
                go_region_held3 (fun w => w.cell? ⟨g0, i * 2, none⟩ = some (.int .u64 (c.1 : Int)) ∧ w.cell? ⟨g0, i * 2 + 1, none⟩ = some (.int .u64 (c.2 : Int)) ∧ w.cell? ⟨g, j * 2, none⟩ = some (.int .u64 ((el p j).1 : Int)) ∧ w.cell? ⟨g, j * 2 + 1, none⟩ = some (.int .u64 ((el p j).2 : Int))) (first | (go_keep; done) | (exact ⟨by simp [go_sem, *], by simp [go_sem, *], by simp [go_sem, *], by simp [go_sem, *]⟩)) ((go_at_call 16; refine (PR.out.go _).mono ?_; rintro e w2 ⟨rfl, hb2⟩; have K2 : Hid (w2.ownsRow N0 25 2 u8 j (flat (tmN p c j)) ∧ Lq W w2 g0 g q p ∧ Ew w2 b 0 0 ∧ N0 ≤ w2.heap.size) := ⟨own_blkF KB.out.1 fun g e => (below_drewF hb2).block g (own_ltF KB.out.1 e), KB.out.2.1.below (below_drewF hb2), KB.out.2.2.1.below (below_drewF hb2), Nat.le_trans KB.out.2.2.2 (below_drewF hb2).size⟩; clear hb2 KB x1 x0 t1 t0 l1 l0 p1 p0; have lc := HLC.out w2 K2.out.2.1; have pc := HPC.out w2 j jn K2.out.2.1; obtain ⟨l1, l0⟩ := lc; obtain ⟨p1, p0⟩ := pc; obtain ⟨⟨x1, x0⟩, t1, t0⟩ := K2.out.2.2.1))
                go_upto_region 15 with fail
                have KY : Hid (((w2.setCell ⟨b, 0, none⟩ (.int .u64 (z.1 : Int))).setCell ⟨b, 1, none⟩ (.int .u64 (z.2 : Int))).ownsRow N0 25 2 u8 j (flat (tmN p c j)) ∧ Lq W ((w2.setCell ⟨b, 0, none⟩ (.int .u64 (z.1 : Int))).setCell ⟨b, 1, none⟩ (.int .u64 (z.2 : Int))) g0 g q p ∧ Ew ((w2.setCell ⟨b, 0, none⟩ (.int .u64 (z.1 : Int))).setCell ⟨b, 1, none⟩ (.int .u64 (z.2 : Int))) b z.1 z.2 ∧ N0 ≤ ((w2.setCell ⟨b, 0, none⟩ (.int .u64 (z.1 : Int))).setCell ⟨b, 1, none⟩ (.int .u64 (z.2 : Int))).heap.size) := ⟨own_blkF K2.out.1 fun g e => (Below.heap_setCell _ _ _ _ (by have := HOB.out g e; simpa using this)).trans (Below.heap_setCell _ _ _ _ (by have := HOB.out g e; simpa using this)), K2.out.2.1.far bW b2 b4 _ _ _ _, K2.out.2.2.1.set _ _, by simpa [World.setCell] using K2.out.2.2.2⟩
                generalize ((w2.setCell ⟨b, 0, none⟩ (.int .u64 (z.1 : Int))).setCell ⟨b, 1, none⟩ (.int .u64 (z.2 : Int))) = wy at *
                clear x1 x0 t1 t0 l1 l0 p1 p0
                obtain ⟨yz, hyz⟩ : ∃ yz, yz = z := ⟨_, rfl⟩
                rw [← hyz] at KY
                have HYZ : Hid (lt2 yz) := by show lt2 _; rw [hyz, HZ.out]; exact lt_pm _ _
                have AD : Hid (Ret 29 #[.agg #[.int .u64 (yz.1 : Int), .int .u64 (yz.2 : Int)], .agg #[.int .u64 ((el p jj).1 : Int), .int .u64 ((el p jj).2 : Int)]] (.agg #[.int .u64 ((xa yz (el p jj)).1 : Int), .int .u64 ((xa yz (el p jj)).2 : Int)])) := HAD.out yz jj HYZ.out
                obtain ⟨y, hy⟩ : ∃ y, y = xa yz (el p jj) := ⟨_, rfl⟩
                rw [← hy] at AD
                have HY : Hid (y = tmE p c j) := by
                  show _ = _
                  rw [hy, hyz, HZ.out, HJ.out]; unfold tmE; rw [show pvE p (jj + 1) = el p jj from rfl, xa_comm, Tw.pm_comm']
                clear hy hyz
                have pc := HPC.out wy jj jjn KY.out.2.1
                obtain ⟨p1, p0⟩ := pc
                obtain ⟨⟨x1, x0⟩, t1, t0⟩ := KY.out.2.2.1
                go_region_with (go_at_call 29; refine (AD.out.go _).mono ?_; rintro e w3 ⟨rfl, hb3⟩; have K3 : Hid (w3.ownsRow N0 25 2 u8 j (flat (tmN p c j)) ∧ Lq W w3 g0 g q p ∧ Ew w3 b yz.1 yz.2 ∧ N0 ≤ w3.heap.size) := ⟨own_blkF KY.out.1 fun g e => (below_drewF hb3).block g (own_ltF KY.out.1 e), KY.out.2.1.below (below_drewF hb3), KY.out.2.2.1.below (below_drewF hb3), Nat.le_trans KY.out.2.2.2 (below_drewF hb3).size⟩; clear hb3 x1 x0 t1 t0 p1 p0; obtain ⟨⟨x1, x0⟩, t1, t0⟩ := K3.out.2.2.1)
                all_goals
                  go_upto_region 16 with fail
                  have KX : Hid (((w3.setCell ⟨b, 0, none⟩ (.int .u64 (y.1 : Int))).setCell ⟨b, 1, none⟩ (.int .u64 (y.2 : Int))).ownsRow N0 25 2 u8 j (flat (tmN p c j)) ∧ Lq W ((w3.setCell ⟨b, 0, none⟩ (.int .u64 (y.1 : Int))).setCell ⟨b, 1, none⟩ (.int .u64 (y.2 : Int))) g0 g q p ∧ Ew ((w3.setCell ⟨b, 0, none⟩ (.int .u64 (y.1 : Int))).setCell ⟨b, 1, none⟩ (.int .u64 (y.2 : Int))) b y.1 y.2 ∧ N0 ≤ ((w3.setCell ⟨b, 0, none⟩ (.int .u64 (y.1 : Int))).setCell ⟨b, 1, none⟩ (.int .u64 (y.2 : Int))).heap.size) := ⟨own_blkF K3.out.1 fun g e => (Below.heap_setCell _ _ _ _ (by have := HOB.out g e; simpa using this)).trans (Below.heap_setCell _ _ _ _ (by have := HOB.out g e; simpa using this)), K3.out.2.1.far bW b2 b4 _ _ _ _, K3.out.2.2.1.set _ _, by simpa [World.setCell] using K3.out.2.2.2⟩
                  generalize ((w3.setCell ⟨b, 0, none⟩ (.int .u64 (y.1 : Int))).setCell ⟨b, 1, none⟩ (.int .u64 (y.2 : Int))) = wx at *
                  clear x1 x0 t1 t0
                  obtain ⟨⟨x1, x0⟩, _, _⟩ := KX.out.2.2.1
                  go_wp2_with (at_builtin; refine wpList_append_own _ rfl _ _ 40 rfl N0 25 i0 (.agg #[.int .u64 0, .int .u64 0]) 2 16 Try.underlying40 HIF.out.1 HIF.out.2.1 HIF.out.2.2.1 HIF.out.2.2.2 rfl (by decide) _ j (flat (tmN p c j)) rfl (own_blkF KX.out.1 fun g e => Below.heap_alloc _ _ _ (own_ltF KX.out.1 e)) ⟨wx.heap.size, 0, none⟩ 1 1 [.int .u64 (y.1 : Int), .int .u64 (y.2 : Int)] rfl rfl (fun j u hj => by rcases j with _ | _ | j <;> simp at hj <;> subst hj <;> simp [go_sem, Addr.add]) (by simp [Value.oneCell']) (by simp only [maxLen]; omega) (by omega) (by have := KX.out.2.2.2; simp; omega) ?_; intro v' w7 hown' hgrow _; have KZ : Hid (w7.ownsRow N0 25 2 v' (j + 1) (flat (tmN p c (j + 1))) ∧ Lq W w7 g0 g q p ∧ N0 ≤ w7.heap.size) := ⟨by rw [tmN_succ, flat_snocF, ← HY.out]; exact hown', ((KX.out.2.1.below ((Below.refl _ _).alloc (Nat.le_refl _) _)).grown HL0.out.1 HL0.out.2.1 hgrow (fun e => by have := own_geF KX.out.1 e; have := HL0.out.2.2.1; omega) (fun e => by have := own_geF KX.out.1 e; have := HL0.out.2.2.2.1; omega) (fun i e => by have := own_geF KX.out.1 e; have := HL0.out.2.2.2.2; omega)), by have := hgrow.size; simp at this; have := KX.out.2.2.2; omega⟩; clear hown' hgrow KX x1 x0)
                  exact ⟨⟨j + 1, by omega, by go_num, KZ.out⟩, by simp [intOf]; omega⟩
              · have hjn2 : j = n := by omega
                clear hj1 hjn
                have jn : ¬ (j : Int) < (n : Int) := by omega
                obtain ⟨jj, hjj⟩ : ∃ jj, j = jj + 1 := ⟨j - 1, by omega⟩
                have jjn : jj < n := by omega
                have j0' : (0 : Int) < (j : Int) := by omega
                have e1 : IntKind.i64.wrap ((j : Int) - 1) = (jj : Int) := by rw [IntKind.wrap_i64]; omega
                have jj1 : (jj : Int) < (n : Int) := by omega
                have hjn : j = n := by omega
                have HJ := hidF (And.intro hjj hjn)
                clear hjj hjn hjn2
                go_upto_region 15 with fail
                have KB : Hid ((wr.alloc (Obj.cells #[.int .u64 0, .int .u64 0] 25)).ownsRow N0 25 2 u8 j (flat (tmN p c j)) ∧ Lq W (wr.alloc (Obj.cells #[.int .u64 0, .int .u64 0] 25)) g0 g q p ∧ Ew (wr.alloc (Obj.cells #[.int .u64 0, .int .u64 0] 25)) wr.heap.size 0 0 ∧ N0 ≤ (wr.alloc (Obj.cells #[.int .u64 0, .int .u64 0] 25)).heap.size) := ⟨own_blkF HK.out.1 fun g e => Below.heap_alloc _ _ _ (own_ltF HK.out.1 e), HK.out.2.1.below (below_alF _ _), Ew.newF wr (0, 0) _, by have := HK.out.2.2; simp; omega⟩
                have hob : ∀ g', u8.ownBlock = some g' → g' ≠ wr.heap.size := fun g' e => by have := own_ltF HK.out.1 e; omega
                have HOB := hidF hob
                have hbN : N0 ≤ wr.heap.size := HK.out.2.2
                clear hob HK
                generalize (wr.alloc (Obj.cells #[.int .u64 0, .int .u64 0] 25)) = Z at *
                generalize wr.heap.size = b at *
                have b1 : ¬ b = g0 := by have := HL0.out.2.2.1; omega
                have b2 : ¬ g0 = b := fun e => b1 e.symm
                have b3 : ¬ b = g := by have := HL0.out.2.2.2.1; omega
                have b4 : ¬ g = b := fun e => b3 e.symm
                have bW : W.heap.size ≤ b := by have := HL0.out.2.2.2.2; omega
                have KY := KB
                obtain ⟨wy, hwy⟩ : ∃ wy, wy = Z := ⟨_, rfl⟩
                subst hwy
                obtain ⟨yz, hyz⟩ : ∃ yz : Nat × Nat, yz = (0, 0) := ⟨_, rfl⟩
                have KY' : Hid (wy.ownsRow N0 25 2 u8 j (flat (tmN p c j)) ∧ Lq W wy g0 g q p ∧ Ew wy b yz.1 yz.2 ∧ N0 ≤ wy.heap.size) := by rw [hyz]; exact KY
                clear KY KB
                have KY := KY'
                clear KY'
                have HYZ : Hid (lt2 yz) := by show lt2 _; rw [hyz]; exact lt_zero
                have AD : Hid (Ret 29 #[.agg #[.int .u64 (yz.1 : Int), .int .u64 (yz.2 : Int)], .agg #[.int .u64 ((el p jj).1 : Int), .int .u64 ((el p jj).2 : Int)]] (.agg #[.int .u64 ((xa yz (el p jj)).1 : Int), .int .u64 ((xa yz (el p jj)).2 : Int)])) := HAD.out yz jj HYZ.out
                obtain ⟨y, hy⟩ : ∃ y, y = xa yz (el p jj) := ⟨_, rfl⟩
                rw [← hy] at AD
                have HY : Hid (y = tmE p c j) := by
                  show _ = _
                  rw [hy, hyz]; unfold tmE; rw [el_over (cs := p) (j := j) (by have := HJ.out.2; have := HLP.out; omega), zero_pmL, HJ.out.1, show pvE p (jj + 1) = el p jj from rfl, xa_comm]
                clear hy hyz
                have pc := HPC.out wy jj jjn KY.out.2.1
                obtain ⟨p1, p0⟩ := pc
                obtain ⟨⟨x1, x0⟩, t1, t0⟩ := KY.out.2.2.1
                go_region_with (go_at_call 29; refine (AD.out.go _).mono ?_; rintro e w3 ⟨rfl, hb3⟩; have K3 : Hid (w3.ownsRow N0 25 2 u8 j (flat (tmN p c j)) ∧ Lq W w3 g0 g q p ∧ Ew w3 b yz.1 yz.2 ∧ N0 ≤ w3.heap.size) := ⟨own_blkF KY.out.1 fun g e => (below_drewF hb3).block g (own_ltF KY.out.1 e), KY.out.2.1.below (below_drewF hb3), KY.out.2.2.1.below (below_drewF hb3), Nat.le_trans KY.out.2.2.2 (below_drewF hb3).size⟩; clear hb3 x1 x0 t1 t0 p1 p0; obtain ⟨⟨x1, x0⟩, t1, t0⟩ := K3.out.2.2.1)
                all_goals
                  go_upto_region 16 with fail
                  have KX : Hid (((w3.setCell ⟨b, 0, none⟩ (.int .u64 (y.1 : Int))).setCell ⟨b, 1, none⟩ (.int .u64 (y.2 : Int))).ownsRow N0 25 2 u8 j (flat (tmN p c j)) ∧ Lq W ((w3.setCell ⟨b, 0, none⟩ (.int .u64 (y.1 : Int))).setCell ⟨b, 1, none⟩ (.int .u64 (y.2 : Int))) g0 g q p ∧ Ew ((w3.setCell ⟨b, 0, none⟩ (.int .u64 (y.1 : Int))).setCell ⟨b, 1, none⟩ (.int .u64 (y.2 : Int))) b y.1 y.2 ∧ N0 ≤ ((w3.setCell ⟨b, 0, none⟩ (.int .u64 (y.1 : Int))).setCell ⟨b, 1, none⟩ (.int .u64 (y.2 : Int))).heap.size) := ⟨own_blkF K3.out.1 fun g e => (Below.heap_setCell _ _ _ _ (by have := HOB.out g e; simpa using this)).trans (Below.heap_setCell _ _ _ _ (by have := HOB.out g e; simpa using this)), K3.out.2.1.far bW b2 b4 _ _ _ _, K3.out.2.2.1.set _ _, by simpa [World.setCell] using K3.out.2.2.2⟩
                  generalize ((w3.setCell ⟨b, 0, none⟩ (.int .u64 (y.1 : Int))).setCell ⟨b, 1, none⟩ (.int .u64 (y.2 : Int))) = wx at *
                  clear x1 x0 t1 t0
                  obtain ⟨⟨x1, x0⟩, _, _⟩ := KX.out.2.2.1
                  go_wp2_with (at_builtin; refine wpList_append_own _ rfl _ _ 40 rfl N0 25 i0 (.agg #[.int .u64 0, .int .u64 0]) 2 16 Try.underlying40 HIF.out.1 HIF.out.2.1 HIF.out.2.2.1 HIF.out.2.2.2 rfl (by decide) _ j (flat (tmN p c j)) rfl (own_blkF KX.out.1 fun g e => Below.heap_alloc _ _ _ (own_ltF KX.out.1 e)) ⟨wx.heap.size, 0, none⟩ 1 1 [.int .u64 (y.1 : Int), .int .u64 (y.2 : Int)] rfl rfl (fun j u hj => by rcases j with _ | _ | j <;> simp at hj <;> subst hj <;> simp [go_sem, Addr.add]) (by simp [Value.oneCell']) (by simp only [maxLen]; omega) (by omega) (by have := KX.out.2.2.2; simp; omega) ?_; intro v' w7 hown' hgrow _; have KZ : Hid (w7.ownsRow N0 25 2 v' (j + 1) (flat (tmN p c (j + 1))) ∧ Lq W w7 g0 g q p ∧ N0 ≤ w7.heap.size) := ⟨by rw [tmN_succ, flat_snocF, ← HY.out]; exact hown', ((KX.out.2.1.below ((Below.refl _ _).alloc (Nat.le_refl _) _)).grown HL0.out.1 HL0.out.2.1 hgrow (fun e => by have := own_geF KX.out.1 e; have := HL0.out.2.2.1; omega) (fun e => by have := own_geF KX.out.1 e; have := HL0.out.2.2.2.1; omega) (fun i e => by have := own_geF KX.out.1 e; have := HL0.out.2.2.2.2; omega)), by have := hgrow.size; simp at this; have := KX.out.2.2.2; omega⟩; clear hown' hgrow KX x1 x0)
                  exact ⟨⟨j + 1, by omega, by go_num, KZ.out⟩, by simp [intOf]; omega⟩
          · obtain rfl : j = n + 1 := by omega
            have jle : ¬ ((n + 1 : Nat) : Int) ≤ (n : Int) := by omega
            have jle2 : ¬ (n : Int) + 1 ≤ (n : Int) := by omega
            obtain ⟨g', capn, rfl⟩ := ownsRow_succ HK.out.1
            have HE : Hid (Lq W wr g0 g' q (lst a (i + 1))) := by
              refine ⟨HK.out.2.1.l, ?_, HK.out.2.1.d⟩
              have ho := HK.out.1
              rw [HNX.out] at ho
              have hl : (lst a (i + 1)).length = n + 1 := by rw [lst_len]; have := Hn'.out; omega
              rw [← hl] at ho
              obtain ⟨a', cap', e', hrow⟩ := own_row ho
              rw [hl] at e'
              injection e' with e' _ _
              rw [e']; exact hrow
            clear HK
            go_wp2
            refine ⟨⟨i + 1, g', capn, n + 1, by omega, ?_, rfl, by go_num, ?_⟩, by simp [intOf]; omega⟩
            · show _ = _
              rw [hmin2.out]; have := Hn'.out; omega
            · rw [hmin2.out]; exact HE.out
      · rw [hc, HI2.out i (by omega), ← hc] at HIN
        have hmin : min i M = M := by omega
        have hmin2 := hidF (show min (i + 1) M = M by omega)
        rw [hmin] at Hn HK0
        clear hmin HI1 HI2 lcv hc
        obtain ⟨l1, l0⟩ := HLC.out wr HK0.out
        go_upto_region 6 with fail
        go_region_held3 (fun w => w.cell? ⟨g0, i * 2, none⟩ = some (.int .u64 (c.1 : Int)) ∧ w.cell? ⟨g0, i * 2 + 1, none⟩ = some (.int .u64 (c.2 : Int))) (first | (go_keep; done) | (exact ⟨by simp [go_sem, *], by simp [go_sem, *]⟩)) ((go_at_call 47; refine (HIN.out _ (by first | exact HK0.out.l | exact HK0.out.drew.l)).mono ?_; rintro e w0 ⟨rfl, hb0⟩; have K1 : Hid (Lq W w0 g0 g q (lst a M)) := HK0.out.below (below_drewF hb0); clear hb0 HK0 l1 l0; obtain ⟨l1, l0⟩ := HLC.out w0 K1.out))
        clear l1 l0 HIN
        go_wp2_with fail
        refine ⟨⟨i + 1, g, cp, n, by omega, ?_, rfl, by go_num, ?_⟩, by simp [intOf]; omega⟩
        · show _ = _
          rw [hmin2.out]; exact Hn.out
        · rw [hmin2.out]; exact K1.out
    · obtain rfl : i = N := by omega
      have hmin : min i M = M := by omega
      rw [hmin] at Hn HK0
      obtain rfl := Hn.out
      clear hmin HI1 HI2
      go_wp2
      go_ret
      exact ⟨g, ⟨cp, rfl⟩, HK0.out.p, HK0.out.d⟩
end Go.Proofs.Ytakaconhoodigaa
