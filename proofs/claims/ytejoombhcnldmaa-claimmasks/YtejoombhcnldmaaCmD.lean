/- The contract of claim.Mask over the seat's translation, and the worked example. -/
import Derived.Test.YtejoombhcnldmaaCmC
import Derived.Test.YtejoombhcnldmaaCmR
namespace Go.Proofs.Ytejoombhcnldmaa
open Go.RowKit
open Cb
open Tw (pm)

/-- Powers. -/
def bpow (b : Nat × Nat) : Nat → Nat × Nat
  | 0 => (0, 1)
  | i + 1 => pm (bpow b i) b
theorem lt_bpow (b : Nat × Nat) : ∀ i, lt2 (bpow b i)
  | 0 => lt_one
  | _ + 1 => lt_pm _ _
theorem of_bpow {m : Nat} (hm : m < 8) {b : Nat × Nat} (ob : ofE m b) : ∀ i, ofE m (bpow b i)
  | 0 => Rg.ofe_one hm
  | i + 1 => of_pm hm (of_bpow hm ob i) ob
theorem lt_sgn (k : Int) (p : List (Nat × Nat)) (s y : Nat) : lt2 (sgn k p s y) := by
  unfold sgn
  split
  · exact lt_xa (lt_cr _ _ _ _ _) (lt_cr _ _ _ _ _)
  · exact lt_cr _ _ _ _ _
theorem of_sgn {m : Nat} (hm : m < 8) (k : Int) {p : List (Nat × Nat)} (op : ofT m p) (s y : Nat) : ofE m (sgn k p s y) := by
  unfold sgn
  split
  · exact of_xor hm (of_cr hm _ op _ _ _) (of_cr hm _ op _ _ _)
  · exact of_cr hm _ op _ _ _
/-- The row of a claim. -/
def crw (n : Nat) (z : List (Nat × Nat)) (o : Stp) : List (Nat × Nat) := (List.range n).map (sgn o.a z o.b.toNat)
theorem crw_len (n : Nat) (z : List (Nat × Nat)) (o : Stp) : (crw n z o).length = n := by simp [crw]
theorem crw_at (n : Nat) (z : List (Nat × Nat)) (o : Stp) {i : Nat} (h : i < n) : el (crw n z o) i = sgn o.a z o.b.toNat i := by simp [el, crw, List.getD, h]
theorem lt_crw (n : Nat) (z : List (Nat × Nat)) (o : Stp) : ltE (crw n z o) := ltE_of fun i h => by
  rw [crw_len] at h
  rw [crw_at n z o h]; exact lt_sgn _ _ _ _
theorem of_crw {m : Nat} (hm : m < 8) (n : Nat) {z : List (Nat × Nat)} (oz : ofT m z) (o : Stp) : ofT m (crw n z o) := ofT_of fun i h => by
  rw [crw_len] at h
  rw [crw_at n z o h]; exact of_sgn hm _ oz _ _
/-- The mask of the first so many claims. -/
def mkI (n : Nat) (z : List (Nat × Nat)) (b : Nat × Nat) (cl : List Stp) : Nat → Nat → Nat × Nat
  | 0, _ => (0, 0)
  | i + 1, c => adv (mkI n z b cl i) ((cl.getD i zst).k.toNat * n) (bpow b i) (crw n z (cl.getD i zst)) n c
theorem lt_mkI (n : Nat) (z : List (Nat × Nat)) (b : Nat × Nat) (cl : List Stp) : ∀ i c, lt2 (mkI n z b cl i c)
  | 0, _ => lt_zero
  | i + 1, c => by
    unfold mkI adv
    split
    · exact lt_xa (lt_mkI n z b cl i c) (lt_pm _ _)
    · exact lt_mkI n z b cl i c
theorem ckL_zero {P : Nat} {w : Int} : ∀ {l : List Stp}, ckL P w l = 0 → ∀ i, i < l.length → ck1 P w (l.getD i zst) = 0
  | [], _, i, hi => by simp at hi
  | o :: l, h, i, hi => by
    unfold ckL at h
    by_cases h1 : ck1 P w o = 0
    · rw [if_pos h1] at h
      cases i with
      | zero => exact h1
      | succ i => exact ckL_zero h i (by simpa using hi)
    · rw [if_neg h1] at h
      exact absurd h h1
theorem ck1_zero {P : Nat} {w : Int} {o : Stp} (h : ck1 P w o = 0) : (0 ≤ o.k ∧ o.k < (P : Int)) ∧ ftB o.a w o.b = true := by
  unfold ck1 at h
  split at h
  · rename_i h1
    split at h
    · rename_i h2; exact ⟨h1, h2⟩
    · exact absurd h (by decide)
  · exact absurd h (by decide)
theorem ch_zero {l c w : Int} {cl : List Stp} {z : List (Nat × Nat)} {b : Nat × Nat} (h : chE l c w cl z b = 0) :
    ∃ m cn wn : Nat, m < 8 ∧ l = (m : Int) ∧ cn ≤ 6 ∧ c = (cn : Int) ∧ wn ≤ 6 ∧ w = (wn : Int) ∧ cl.length ≤ 200 ∧ (∀ i, i < cl.length → (0 ≤ (cl.getD i zst).k ∧ (cl.getD i zst).k < ((2 ^ cn : Nat) : Int)) ∧ ftB (cl.getD i zst).a (wn : Int) (cl.getD i zst).b = true) ∧ z.length = wn ∧ ofT m z ∧ ofE m b := by
  unfold chE at h
  split at h
  · rename_i hl
    obtain ⟨m, rfl⟩ : ∃ m : Nat, l = (m : Int) := ⟨l.toNat, by omega⟩
    split at h
    · rename_i h1
      unfold ckE at h1
      split at h1
      · rename_i hb
        obtain ⟨cn, rfl⟩ : ∃ n : Nat, c = (n : Int) := ⟨c.toNat, by omega⟩
        obtain ⟨wn, rfl⟩ : ∃ n : Nat, w = (n : Int) := ⟨w.toNat, by omega⟩
        split at h1
        · rename_i h200
          rw [Int.toNat_natCast] at h1
          split at h
          · rename_i h2
            unfold cfE at h2
            split at h2
            · rename_i hz
              split at h2
              · rename_i hal
                split at h
                · rename_i hob
                  exact ⟨m, cn, wn, by omega, rfl, by omega, rfl, by omega, rfl, h200, fun i hi => ck1_zero (ckL_zero h1 i hi), by omega, all_of.1 hal, hob⟩
                · exact absurd h (by decide)
              · exact absurd h2 (by decide)
            · exact absurd h2 (by decide)
          · rename_i h2; exact absurd h h2
        · exact absurd h1 (by decide)
      · exact absurd h1 (by decide)
    · rename_i h1; exact absurd h h1
  · exact absurd h (by decide)
theorem Tn.offq {W0 w : World} {N : Nat} {h : Nat → Nat × Nat} (k : Tn W0 w N h) (q : Nat) (hq : W0.heap.size < q) (u v : Value) : Tn W0 ((w.setCell ⟨q, 0, none⟩ u).setCell ⟨q, 1, none⟩ v) N h :=
  ⟨k.row.of_block (by simp [World.setCell, Array.getElem?_modify, show ¬ q = W0.heap.size by omega]), (k.d.setCell (Nat.le_of_lt hq) _).setCell (Nat.le_of_lt hq) _⟩
theorem Pws.grow {w w1 : World} {r : Nat} (h : w.grownBy w1 (some r)) {q ql qb k : Nat} {b n : Nat × Nat} (e : Pws w q ql qb k b n) (h1 : r < q) (h2 : r < ql) (h3 : r < qb) : Pws w1 q ql qb k b n := by
  have hq := h.block q e.n.toEl.lt (fun x => by injection x with x; omega)
  have hl := h.block ql (cell_lt e.l) (fun x => by injection x with x; omega)
  refine ⟨⟨grow_el h e.n.toEl (fun x => by injection x with x; omega), ?_, ?_⟩, ?_, grow_el h e.b (fun x => by injection x with x; omega), e.n1, e.n2⟩
  · rw [← e.n.fhi]; simp [World.frozen?, hq]
  · rw [← e.n.flo]; simp [World.frozen?, hq]
  · rw [← e.l]; simp [World.cell?, hl]
/-- The row of a claim lies on where an element of another block is written. -/
theorem ERow.offC {w : World} {a : Option Addr} {es : List (Nat × Nat)} (e : ERow w a es) (q : Nat) (hn : ∀ g off, a = some ⟨g, off, none⟩ → g ≠ q) (u v : Value) : ERow ((w.setCell ⟨q, 0, none⟩ u).setCell ⟨q, 1, none⟩ v) a es := ⟨fun i hi => by
  obtain ⟨b, off, e1, hb, c1, c0⟩ := e.cells i hi
  have hne : ¬ q = b := fun h => hn b off e1 h.symm
  refine ⟨b, off, e1, by simpa [World.setCell] using hb, ?_, ?_⟩
  · rw [← c1]; simp [World.cell?, World.setCell, Array.getElem?_modify, hne]
  · rw [← c0]; simp [World.cell?, World.setCell, Array.getElem?_modify, hne]⟩
set_option maxHeartbeats 20000000 in
set_option maxRecDepth 100000 in
theorem cmmask (m cn w n N : Nat) (a a2 : Option Addr) (cap cap2 : Nat) (cl : List Stp) (z : List (Nat × Nat)) (b : Nat × Nat) (hn : n = 2 ^ w) (hN : N = 2 ^ (w + cn)) (lz : ltE z) (lb : lt2 b) (hE : chE (m : Int) (cn : Int) (w : Int) cl z b = 0) (W : World) (hr : ORow W a cl) (hz : ERow W a2 z) :
    Calls Try.prog 17 #[.int .i64 (m : Int), .int .i64 (cn : Int), .int .i64 (w : Int), .slice a cl.length cap, .slice a2 z.length cap2, .agg #[.int .u64 (b.1 : Int), .int .u64 (b.2 : Int)]] W fun e w' => ∃ g, e = .returned (.tuple #[.slice (some ⟨g, 0, none⟩) N N, .int .i64 0]) ∧ ERow w' (some ⟨g, 0, none⟩) ((List.range N).map (mkI n z b cl cl.length)) ∧ Below W.heap.size W w' := by
  obtain ⟨m', cn', w', hm, e1, hc, e2, hw, e3, h200, hcl, hzl, oz, ob⟩ := ch_zero hE
  obtain rfl : m = m' := by omega
  obtain rfl : cn = cn' := by omega
  obtain rfl : w = w' := by omega
  have HH := hidC (fun v (hb : Below W.heap.size W v) => cmhind (m : Int) (cn : Int) (w : Int) a a2 cap cap2 cl z b (by omega) (by omega) lz lb v (hr.below hb) (hz.below hb))
  rw [hE] at HH
  have hn1 : n ≤ 64 := by rw [hn]; exact Nat.le_trans (Nat.pow_le_pow_right (by decide) hw) (by decide)
  have hn0 : 0 < n := by rw [hn]; exact Nat.two_pow_pos _
  have hN1 : N ≤ 4096 := by rw [hN]; exact Nat.le_trans (Nat.pow_le_pow_right (by decide) (show w + cn ≤ 12 by omega)) (by decide)
  have hNn : N = 2 ^ cn * n := by rw [hN, hn, ← Nat.pow_add, Nat.add_comm]
  have HRW := hidC (fun (v : World) (hb : Below W.heap.size W v) (ki : Int) (t : Nat) (hf : ftB ki (w : Int) (t : Int) = true) => trow_new m hm ki w t n hw (by unfold pw; rw [Int.toNat_natCast, hn]) hf a2 cap2 z lz hzl oz v (hz.below hb))
  have HPS := hidC (fun v => cmpows m b v)
  have HPW := hidC (fun (i q ql qb : Nat) (v : World) (h : Pws v q ql qb m b (bpow b i)) => cmpow m q ql qb b (bpow b i) lb (lt_bpow b i) ob (of_bpow hm ob i) v h)
  have e1 : IntKind.i64.wrap ((w : Int) + (cn : Int)) = ((w + cn : Nat) : Int) := by rw [IntKind.wrap_i64]; omega
  have e2 : IntKind.i64.wrap ((2 : Int) ^ (w + cn)) = (N : Int) := by
    rw [IntKind.wrap_i64, show (2 : Int) ^ (w + cn) = ((2 ^ (w + cn) : Nat) : Int) by simp, ← hN]; omega
  have e3 : ¬ ((w + cn : Nat) : Int) < 0 := by omega
  have e4 : ¬ (w : Int) + (cn : Int) < 0 := by omega
  have e5 : ((w : Int) + (cn : Int)).toNat = w + cn := by omega
  obtain ⟨i0, hi0, hz0, hz1, hz2⟩ := info_elem
  have HI : Hid (Try.prog.info? 26 = some i0 ∧ i0.zero = some (.agg #[.int .u64 0, .int .u64 0]) ∧ i0.size = 2 ∧ i0.bytes = 16) := ⟨hi0, hz0, hz1, hz2⟩
  have HIN : Hid (ORow W a cl ∧ (∀ i, i < cl.length → (0 ≤ (cl.getD i zst).k ∧ (cl.getD i zst).k < ((2 ^ cn : Nat) : Int)) ∧ ftB (cl.getD i zst).a (w : Int) (cl.getD i zst).b = true) ∧ N = 2 ^ cn * n ∧ n = 2 ^ w ∧ m < 8 ∧ ofT m z ∧ ofE m b ∧ 2 ^ cn ≤ 64) := ⟨hr, hcl, hNn, hn, hm, oz, ob, Nat.le_trans (Nat.pow_le_pow_right (by decide) hc) (by decide)⟩
  rw [hzl]
  rw [hzl] at HH
  clear hi0 hz0 hz1 hz2 hr hcl hNn hn hN hz hzl oz ob lz lb hE hm
  go_enter Try.func17, Try.ntmps17
  go_wp2_with (first
    | (go_at_call 42; refine (HH.out _ ((Below.refl _ _).alloc (Nat.le_refl _) _)).mono ?_; rintro e w1 ⟨rfl, hb1⟩; have K1 : Hid (Below W.heap.size W w1 ∧ El w1 W.heap.size b.1 b.2) := ⟨((Below.refl _ _).alloc (Nat.le_refl _) _).trans (hb1.mono (by simp)), (El.newR W b _).below hb1⟩; clear hb1 HH)
    | (at_make; refine wpList_make_full _ rfl _ _ 23 rfl 0 26 i0 (.agg #[.int .u64 0, .int .u64 0]) 2 Try.underlying23 HI.out.1 HI.out.2.1 HI.out.2.2.1 .i64 .i64 _ _ N rfl rfl (by first | rfl | exact e2) (by first | rfl | exact e2) (by rw [HI.out.2.2.2]; omega) (by simp only [maxLen]; omega) (Nat.zero_le _) ?_; intro w2 own2 hgr2; have K2 : Hid (Tn w1 w2 N (mkI n z b cl 0) ∧ Below w1.heap.size w1 w2) := ⟨Tn.start own2 hgr2 _ (fun _ _ => rfl), (Below.refl _ _).grown hgr2 (Nat.le_refl _) (fun k hk => by cases hk)⟩; clear own2 hgr2; obtain ⟨b1, b0⟩ := K1.out.2.below K2.out.2)
    | (go_at_call 35; refine (HPS.out _).mono ?_; rintro e w3 ⟨q, ql, qb, rfl, hp3, hq3, hb3⟩; have K3 : Hid (Tn w1 w3 N (mkI n z b cl 0) ∧ Pws w3 q ql qb m b (bpow b 0) ∧ (w1.heap.size < q ∧ w1.heap.size < ql ∧ w1.heap.size < qb)) := ⟨K2.out.1.below hb3, hp3, by have := K2.out.1.row.lt; omega⟩; clear hb3 hp3 hq3 K2 b1 b0 HPS))
  clear HI
  unfold fPow
  go_loopw [41] (fun u wr => ∃ i : Nat, i ≤ cl.length ∧ u = .int .i64 i ∧ Hid (Tn w1 wr N (mkI n z b cl i) ∧ Pws wr q ql qb m b (bpow b i))) (fun u _ => cl.length - (intOf u).toNat)
  case atStart => exact ⟨0, Nat.zero_le _, rfl, ⟨K3.out.1, K3.out.2.1⟩⟩
  case round =>
    obtain ⟨i, hi, rfl, HK⟩ := hrel
    have HQ := hidC K3.out.2.2
    clear K3
    by_cases hlt : i < cl.length
    · have i1 : (i : Int) < (cl.length : Int) := by omega
      have i0' : (0 : Int) ≤ (i : Int) := by omega
      have HD : Hid (Below W.heap.size W wr) := K1.out.1.trans (HK.out.1.d.mono K1.out.1.size)
      obtain ⟨bb, off, rfl, hbb, d0, d1, d2, d3, d4⟩ := HIN.out.1.cells i hlt
      have D0 := keepc HD.out d0
      have D1 := keepc HD.out d1
      have D2 := keepc HD.out d2
      have D3 := keepc HD.out d3
      have D4 := keepc HD.out d4
      obtain ⟨hk, hf⟩ := HIN.out.2.1 i hlt
      have HMK : Hid (mkI n z b cl (i + 1) = fun c => adv (mkI n z b cl i) ((cl.getD i zst).k.toNat * n) (bpow b i) (crw n z (cl.getD i zst)) n c) := rfl
      have HLT : Hid (∀ c, lt2 (mkI n z b cl i c)) := lt_mkI n z b cl i
      clear d0 d1 d2 d3 d4 hbb
      generalize cl.getD i zst = o at *
      obtain ⟨k, ki, s, v⟩ := o
      dsimp only at *
      obtain ⟨kn, rfl⟩ : ∃ n : Nat, k = (n : Int) := ⟨k.toNat, by omega⟩
      have hs := (ftB_true hf).2.1
      obtain ⟨sn, rfl⟩ : ∃ n : Nat, s = (n : Int) := ⟨s.toNat, by omega⟩
      have HRI := hidC (fun (v : World) (hb : Below W.heap.size W v) => HRW.out v hb ki sn hf)
      obtain ⟨row, hrow⟩ : ∃ row, row = crw n z ⟨(kn : Int), ki, (sn : Int), v⟩ := ⟨_, rfl⟩
      have hrow2 : (List.range n).map (sgn ki z sn) = row := by rw [hrow]; unfold crw; rw [Int.toNat_natCast]
      rw [hrow2] at HRI
      have HRO : Hid (row.length = n ∧ ltE row ∧ ofT m row) := ⟨by rw [hrow, crw_len], by rw [hrow]; exact lt_crw _ _ _, by rw [hrow]; exact of_crw HIN.out.2.2.2.2.1 _ HIN.out.2.2.2.2.2.1 _⟩
      rw [← hrow, Int.toNat_natCast] at HMK
      obtain ⟨o, ho⟩ : ∃ o, o = kn * n := ⟨_, rfl⟩
      rw [← ho] at HMK
      have hkn : kn < 2 ^ cn := by omega
      have hon : o + n ≤ N := by
        have h1 : (kn + 1) * n ≤ 2 ^ cn * n := Nat.mul_le_mul_right _ hkn
        have h2 := HIN.out.2.2.1
        rw [Nat.add_mul, Nat.one_mul, ← ho] at h1
        omega
      have HCO := hidC (fun (v' : World) => cmcol w1.heap.size 0 N N w n o kn ki (sn : Int) v hw HIN.out.2.2.2.1 ho hon (Nat.le_refl _) (by have := HIN.out.2.2.2.2.2.2.2; omega) v')
      simp only [Nat.zero_add] at HCO
      have HPI := hidC (HPW.out i q ql qb)
      have HAD := hidC (fun (v0 : World) (g : Nat) (hg : g ≠ w1.heap.size) (hT : Tn w1 v0 N (mkI n z b cl i)) (hE : ERow v0 (some ⟨g, 0, none⟩) row) => cmadd m w1 v0 N o n (N - o) n (mkI n z b cl i) (bpow b i) (some ⟨g, 0, none⟩) row hon (by omega) HRO.out.1 HLT.out (lt_bpow b i) HRO.out.2.1 (of_bpow HIN.out.2.2.2.2.1 HIN.out.2.2.2.2.2.2.1 i) HIN.out.2.2.2.2.1 HRO.out.2.2 hT hE (fun g' off' h => by injection h with h; injection h with h1; omega))
      have HBP : Hid (bpow b (i + 1) = pm (bpow b i) b) := rfl
      clear HRW HPW hk hs hf hrow hrow2 ho hkn HLT
      obtain ⟨bi, hbi⟩ : ∃ bi, bi = bpow b i := ⟨_, rfl⟩
      rw [← hbi] at HPI HAD HBP HMK HK
      clear hbi
      have BX : Hid ((wr.alloc (Obj.cells #[.int .i64 (kn : Int), .int .i64 ki, .int .i64 (sn : Int), .int .u64 (v.1 : Int), .int .u64 (v.2 : Int)] 60)).rowIs wr.heap.size 60 5 (fun j => (#[Value.int .i64 (kn : Int), .int .i64 ki, .int .i64 (sn : Int), .int .u64 (v.1 : Int), .int .u64 (v.2 : Int)] : Array Value).getD j undef)) := ⟨_, heap_alloc_new wr _, rfl, fun j hj => by
        obtain rfl | rfl | rfl | rfl | rfl : j = 0 ∨ j = 1 ∨ j = 2 ∨ j = 3 ∨ j = 4 := by omega
        all_goals rfl⟩
      have hbig : w1.heap.size < wr.heap.size := HK.out.1.row.lt
      go_wp2_with (first
        | (go_at_call 43; refine (HRI.out _ (HD.out.alloc HD.out.size _)).mono ?_; rintro e w4 ⟨g7, rfl, hr4, hb4, hg4⟩; have K4 : Hid (Tn w1 w4 N (mkI n z b cl i) ∧ Pws w4 q ql qb m b bi ∧ ERow w4 (some ⟨g7, 0, none⟩) row ∧ wr.heap.size < g7 ∧ w4.rowIs wr.heap.size 60 5 (fun j => (#[Value.int .i64 (kn : Int), .int .i64 ki, .int .i64 (sn : Int), .int .u64 (v.1 : Int), .int .u64 (v.2 : Int)] : Array Value).getD j undef)) := ⟨(HK.out.1.below ((Below.refl _ _).alloc (Nat.le_refl _) _)).below hb4, (HK.out.2.below ((Below.refl _ _).alloc (Nat.le_refl _) _)).below hb4, hr4, by simp at hg4; omega, BX.out.of_block (hb4.block _ BX.out.lt)⟩; clear hr4 hb4 hg4 D0 D1 D2 D3 D4 HRI; have xc0 := K4.out.2.2.2.2.cell (i := 0) (by decide); have xc1 := K4.out.2.2.2.2.cell (i := 1) (by decide); have xc2 := K4.out.2.2.2.2.cell (i := 2) (by decide); have xc3 := K4.out.2.2.2.2.cell (i := 3) (by decide); have xc4 := K4.out.2.2.2.2.cell (i := 4) (by decide); simp only [Array.getD] at xc0 xc1 xc2 xc3 xc4)
        | (go_at_call 45; refine (HCO.out _).mono ?_; rintro e w5 ⟨rfl, hb5⟩; have K5 : Hid (Tn w1 w5 N (mkI n z b cl i) ∧ Pws w5 q ql qb m b bi ∧ ERow w5 (some ⟨g7, 0, none⟩) row ∧ (wr.heap.size < g7 ∧ q < wr.heap.size)) := ⟨K4.out.1.below hb5, K4.out.2.1.below hb5, K4.out.2.2.1.below hb5, K4.out.2.2.2.1, HK.out.2.n.toEl.lt⟩; clear hb5 K4 xc0 xc1 xc2 xc3 xc4 HCO)
        | (go_at_call 60; refine (HPI.out _ K5.out.2.1).mono ?_; rintro e w6 ⟨rfl, hb6⟩; have K6 : Hid (Tn w1 w6 N (mkI n z b cl i) ∧ Pws w6 q ql qb m b (pm bi b) ∧ ERow w6 (some ⟨g7, 0, none⟩) row ∧ w1.heap.size < g7) := ⟨Tn.below (K5.out.1.offq q HQ.out.1 _ _) (hb6.mono (by simp)), Pws.below (K5.out.2.1.put _) (hb6.mono (by simp)), ERow.below (K5.out.2.2.1.offC q (fun g off h => by injection h with h; injection h with h1; have := K5.out.2.2.2; omega) _ _) (hb6.mono (by simp)), by have := K5.out.2.2.2; omega⟩; clear hb6 K5 HPI)
        | (go_at_call 44; refine (HAD.out _ _ (by have := K6.out.2.2.2; omega) K6.out.1 K6.out.2.2.1).mono ?_; rintro e w7 ⟨rfl, ht7, hg7⟩; have K7 : Hid (Tn w1 w7 N (mkI n z b cl (i + 1)) ∧ Pws w7 q ql qb m b (bpow b (i + 1))) := ⟨by rw [HMK.out]; exact ht7, by rw [HBP.out]; exact Pws.grow hg7 K6.out.2.1 HQ.out.1 HQ.out.2.1 HQ.out.2.2⟩; clear ht7 hg7 K6 HAD))
      exact ⟨⟨i + 1, hlt, by simp, K7⟩, by simp [intOf]; omega⟩
    · obtain rfl : i = cl.length := by omega
      have HF : Hid (ERow wr (some ⟨w1.heap.size, 0, none⟩) ((List.range N).map (mkI n z b cl cl.length)) ∧ Below W.heap.size W wr) := ⟨HK.out.1.erow (by simp) (fun c hc => by simp [el, List.getD, hc]), K1.out.1.trans (HK.out.1.d.mono K1.out.1.size)⟩
      clear HK HIN HRW HPW K1
      go_wp2
      refine bodyPost_ret (v := .tuple #[.slice (some ⟨w1.heap.size, 0, none⟩) N N, .int .i64 0]) (by simp [results, Try.results17, go_sem, *]) rfl ⟨_, rfl, HF.out.1, HF.out.2⟩
end Go.Proofs.Ytejoombhcnldmaa
