/- The contract of claim.Total over the seat's translation. -/
import Derived.Test.YtejoombhcnldmaaCmD
namespace Go.Proofs.Ytejoombhcnldmaa
open Go.RowKit
open Cb
open Tw (pm)

/-- The error of a total, and the sum of the first so many. -/
def ttE (l : Int) (cl : List Stp) (b : Nat × Nat) : Int := if 0 ≤ l ∧ l ≤ 7 then (if ofB l (b.1 : Int) (b.2 : Int) = true then (if (cl.all fun o => ofB l (o.v.1 : Int) (o.v.2 : Int)) = true then 0 else 5) else 5) else 1
def tts (cl : List Stp) (b : Nat × Nat) (i : Nat) : Nat × Nat := xs i fun j => pm (bpow b j) (cl.getD j zst).v
theorem lt_tts (cl : List Stp) (b : Nat × Nat) (i : Nat) : lt2 (tts cl b i) := lt_xs (fun _ => lt_pm _ _) _
def ttv (l : Int) (cl : List Stp) (b : Nat × Nat) : Nat × Nat := if ttE l cl b = 0 then tts cl b cl.length else (0, 0)
def okC (cl : List Stp) : Prop := ∀ o ∈ cl, lt2 o.v
theorem take_sC (l : List Stp) (j : Nat) (h : j < l.length) : l.take (j + 1) = l.take j ++ [l.getD j zst] := by
  rw [List.take_succ_eq_append_getElem h]
  simp [h]
/-- The result, the sum, and the powers. -/
structure To (W w : World) (qt q ql qb m : Nat) (b t n : Nat × Nat) : Prop where
  r : Ew w (W.heap.size + 1) 0 0
  t : Ew w qt t.1 t.2
  p : Pws w q ql qb m b n
  d : Below W.heap.size W w
  n1 : W.heap.size + 1 < qt
  n2 : qt < q
theorem To.below {W w w' : World} {qt q ql qb m : Nat} {b t n : Nat × Nat} (h : To W w qt q ql qb m b t n) (hb : Below w.heap.size w w') : To W w' qt q ql qb m b t n := ⟨h.r.below hb, h.t.below hb, h.p.below hb, h.d.trans (hb.mono h.d.size), h.n1, h.n2⟩
theorem To.drew {W w : World} {qt q ql qb m : Nat} {b t n : Nat × Nat} (h : To W w qt q ql qb m b t n) : To W w.drew qt q ql qb m b t n := h.below (Below.refl _ _).drew
theorem To.pow {W w w' : World} {qt q ql qb m : Nat} {b t n : Nat × Nat} (h : To W w qt q ql qb m b t n) (z : Nat × Nat) (hb : Below w.heap.size ((w.setCell ⟨q, 0, none⟩ (.int .u64 (z.1 : Int))).setCell ⟨q, 1, none⟩ (.int .u64 (z.2 : Int))) w') : To W w' qt q ql qb m b t z := by
  have h1 := h.n1
  have h2 := h.n2
  have k : To W ((w.setCell ⟨q, 0, none⟩ (.int .u64 (z.1 : Int))).setCell ⟨q, 1, none⟩ (.int .u64 (z.2 : Int))) qt q ql qb m b t z := ⟨h.r.other (by omega) _ _, h.t.other (by omega) _ _, h.p.put z, below2 (p := q) h.d (by omega) _ _, h.n1, h.n2⟩
  exact k.below (hb.mono (by simp))
theorem To.put {W w : World} {qt q ql qb m : Nat} {b t n : Nat × Nat} (h : To W w qt q ql qb m b t n) (hl : qt < ql) (hb : qt < qb) (z : Nat × Nat) : To W ((w.setCell ⟨qt, 0, none⟩ (.int .u64 (z.1 : Int))).setCell ⟨qt, 1, none⟩ (.int .u64 (z.2 : Int))) qt q ql qb m b z n := by
  have h1 := h.n1
  have h2 := h.n2
  have hlc := h.p.l
  have hne : ql ≠ qt := by omega
  exact ⟨h.r.other (by omega) _ _, h.t.set _ _, ⟨h.p.n.other (by omega) _ _, by simp [go_sem, *], h.p.b.keepR (by omega) _ _ _ _, h.p.n1, h.p.n2⟩, below2 (p := qt) h.d (by omega) _ _, h.n1, h.n2⟩
set_option maxHeartbeats 20000000 in
set_option maxRecDepth 100000 in
theorem cmtot (l : Int) (a : Option Addr) (cap : Nat) (cl : List Stp) (b : Nat × Nat) (h10 : cl.length ≤ 100000) (oc : okC cl) (lb : lt2 b) (W : World) (hr : ORow W a cl) :
    Calls Try.prog 11 #[.int .i64 l, .slice a cl.length cap, .agg #[.int .u64 (b.1 : Int), .int .u64 (b.2 : Int)]] W fun e w' => e = .returned (.tuple #[.agg #[.int .u64 ((ttv l cl b).1 : Int), .int .u64 ((ttv l cl b).2 : Int)], .int .i64 (ttE l cl b)]) ∧ Below W.heap.size W w' := by
  have HO := hidC (of_ret l b.1 b.2 lb.2)
  by_cases hl : 0 ≤ l ∧ l ≤ 7
  · have HL := hidC (cmlev_yes l hl)
    rcases hob : ofB l (b.1 : Int) (b.2 : Int) with _ | _
    · rw [hob] at HO
      have e1 : ttE l cl b = 5 := by unfold ttE; rw [if_pos hl, if_neg (by rw [hob]; decide)]
      have e2 : ttv l cl b = (0, 0) := by unfold ttv; rw [if_neg (by rw [e1]; decide)]
      rw [e1, e2]
      clear e1 e2 hob hl oc hr h10
      go_enter Try.func11, Try.ntmps11
      go_wp2_with (first | (go_at_call 33; refine (HL.out.go _).mono ?_; rintro e w1 ⟨rfl, hb1⟩; have K1 : Hid (Below W.heap.size W w1 ∧ El w1 W.heap.size b.1 b.2 ∧ Ew w1 (W.heap.size + 1) 0 0) := ⟨(((Below.refl W.heap.size W).alloc (Nat.le_refl _) _).alloc (by simp) _).trans (hb1.mono (by simp; omega)), ((El.newR W b _).alloc _).below hb1, Ew.below (w := (W.alloc (Obj.cells #[.int .u64 (b.1 : Int), .int .u64 (b.2 : Int)] 26)).alloc (Obj.cells #[.int .u64 0, .int .u64 0] 26)) ⟨⟨by simp [go_sem], by simp [go_sem]⟩, by simp [go_sem], by simp [go_sem]⟩ hb1⟩; clear hb1; obtain ⟨b1, b0⟩ := K1.out.2.1) | (go_at_call 34; refine (HO.out.go _).mono ?_; rintro e w2 ⟨rfl, hb2⟩; have K2 : Hid (Below W.heap.size W w2 ∧ Ew w2 (W.heap.size + 1) 0 0) := ⟨K1.out.1.trans (hb2.mono K1.out.1.size), K1.out.2.2.below hb2⟩; clear hb2 K1; obtain ⟨⟨r1, r0⟩, t1, t0⟩ := K2.out.2))
      refine bodyPost_ret (v := .tuple #[.agg #[.int .u64 0, .int .u64 0], .int .i64 5]) (by simp [results, Try.results11, go_sem, *]) rfl ⟨rfl, below2 (p := W.heap.size + 1) K2.out.1 (by omega) _ _⟩
    · rw [hob] at HO
      obtain ⟨m, rfl⟩ : ∃ m : Nat, l = (m : Int) := ⟨l.toNat, by omega⟩
      have hm : m < 8 := by omega
      have HPS := hidC (fun v => cmpows m b v)
      have HPW := hidC (fun (i q ql qb : Nat) (v : World) (h : Pws v q ql qb m b (bpow b i)) => cmpow m q ql qb b (bpow b i) lb (lt_bpow b i) hob (of_bpow hm hob i) v h)
      have HOV := hidC (fun (j : Nat) (hj : j < cl.length) => of_ret (m : Int) (cl.getD j zst).v.1 (cl.getD j zst).v.2 (oc _ (by rw [show cl.getD j zst = cl[j] by simp [hj]]; exact List.getElem_mem hj)).2)
      have HE : Hid (ttE (m : Int) cl b = if (cl.all fun o => ofB (m : Int) (o.v.1 : Int) (o.v.2 : Int)) = true then 0 else 5) := by show _ = _; unfold ttE; rw [if_pos hl, if_pos hob]
      have HIN : Hid (ORow W a cl ∧ okC cl ∧ m < 8 ∧ ofE m b) := ⟨hr, oc, hm, hob⟩
      clear hr oc hob hl lb hm
      go_enter Try.func11, Try.ntmps11
      go_wp2_with (first | (go_at_call 33; refine (HL.out.go _).mono ?_; rintro e w1 ⟨rfl, hb1⟩; have K1 : Hid (Below W.heap.size W w1 ∧ El w1 W.heap.size b.1 b.2 ∧ Ew w1 (W.heap.size + 1) 0 0) := ⟨(((Below.refl W.heap.size W).alloc (Nat.le_refl _) _).alloc (by simp) _).trans (hb1.mono (by simp; omega)), ((El.newR W b _).alloc _).below hb1, Ew.below (w := (W.alloc (Obj.cells #[.int .u64 (b.1 : Int), .int .u64 (b.2 : Int)] 26)).alloc (Obj.cells #[.int .u64 0, .int .u64 0] 26)) ⟨⟨by simp [go_sem], by simp [go_sem]⟩, by simp [go_sem], by simp [go_sem]⟩ hb1⟩; clear hb1; obtain ⟨b1, b0⟩ := K1.out.2.1) | (go_at_call 34; refine (HO.out.go _).mono ?_; rintro e w2 ⟨rfl, hb2⟩; have K2 : Hid (Below W.heap.size W (w2.alloc (Obj.cells #[.int .u64 0, .int .u64 0] 26)) ∧ Ew (w2.alloc (Obj.cells #[.int .u64 0, .int .u64 0] 26)) (W.heap.size + 1) 0 0 ∧ Ew (w2.alloc (Obj.cells #[.int .u64 0, .int .u64 0] 26)) w2.heap.size 0 0 ∧ El (w2.alloc (Obj.cells #[.int .u64 0, .int .u64 0] 26)) W.heap.size b.1 b.2 ∧ W.heap.size + 1 < w2.heap.size) := ⟨(K1.out.1.trans (hb2.mono K1.out.1.size)).alloc (K1.out.1.trans (hb2.mono K1.out.1.size)).size _, (K1.out.2.2.below hb2).alloc _, Ew.roomR w2 _, (K1.out.2.1.below hb2).alloc _, (K1.out.2.2.below hb2).toEl.lt⟩; clear hb2 K1 b1 b0; obtain ⟨b1, b0⟩ := K2.out.2.2.2.1) | (go_at_call 35; refine (HPS.out _).mono ?_; rintro e w3 ⟨q, ql, qb, rfl, hp3, hq3, hb3⟩; have K3 : Hid (To W w3 w2.heap.size q ql qb m b (tts cl b 0) (bpow b 0) ∧ w2.heap.size < ql ∧ w2.heap.size < qb) := ⟨⟨K2.out.2.1.below hb3, K2.out.2.2.1.below hb3, hp3, K2.out.1.trans (hb3.mono K2.out.1.size), K2.out.2.2.2.2, by have := hq3.1; simp at this; omega⟩, by have := hq3.2.1; simp at this; omega, by have := hq3.2.2; simp at this; omega⟩; clear hb3 hp3 hq3 K2 b1 b0 HPS))
      unfold fPow
      have HQ := hidC K3.out.2
      generalize w2.heap.size = qt at *
      go_loopw [26] (fun u wr => ∃ i : Nat, i ≤ cl.length ∧ u = .int .i64 i ∧ Hid ((cl.take i).all (fun o => ofB (m : Int) (o.v.1 : Int) (o.v.2 : Int)) = true) ∧ Hid (To W wr qt q ql qb m b (tts cl b i) (bpow b i))) (fun u _ => cl.length - (intOf u).toNat)
      case atStart => exact ⟨0, Nat.zero_le _, rfl, (by rfl), K3.out.1⟩
      case round =>
        obtain ⟨i, hi, rfl, HT, HK⟩ := hrel
        clear K3
        by_cases hlt : i < cl.length
        · have i1 : (i : Int) < (cl.length : Int) := by omega
          have i0' : (0 : Int) ≤ (i : Int) := by omega
          obtain ⟨bb, off, rfl, hbb, d0, d1, d2, d3, d4⟩ := HIN.out.1.cells i hlt
          have D0 := keepc HK.out.d d0
          have D1 := keepc HK.out.d d1
          have D2 := keepc HK.out.d d2
          have D3 := keepc HK.out.d d3
          have D4 := keepc HK.out.d d4
          have H1 := hidC (HOV.out i hlt)
          have HS : Hid (cl.take (i + 1) = cl.take i ++ [cl.getD i zst]) := take_sC cl i hlt
          have HM : Hid (cl.getD i zst ∈ cl) := by show _ ∈ _; rw [show cl.getD i zst = cl[i] by simp [hlt]]; exact List.getElem_mem hlt
          have HNX : Hid (tts cl b (i + 1) = xa (tts cl b i) (pm (bpow b i) (cl.getD i zst).v)) := rfl
          have HBP : Hid (bpow b (i + 1) = pm (bpow b i) b) := rfl
          have hvl : lt2 (cl.getD i zst).v := HIN.out.2.1 _ HM.out
          have htl := lt_tts cl b i
          have hpl := lt_bpow b i
          have hpo := of_bpow HIN.out.2.2.1 HIN.out.2.2.2 i
          have HPI := hidC (HPW.out i q ql qb)
          clear d0 d1 d2 d3 d4 hbb HOV HPW
          generalize cl.getD i zst = o at *
          obtain ⟨k, ki, s, v⟩ := o
          dsimp only at *
          have BX : Hid ((wr.alloc (Obj.cells #[.int .i64 k, .int .i64 ki, .int .i64 s, .int .u64 (v.1 : Int), .int .u64 (v.2 : Int)] 60)).rowIs wr.heap.size 60 5 (fun j => (#[Value.int .i64 k, .int .i64 ki, .int .i64 s, .int .u64 (v.1 : Int), .int .u64 (v.2 : Int)] : Array Value).getD j undef)) := ⟨_, heap_alloc_new wr _, rfl, fun j hj => by
            obtain rfl | rfl | rfl | rfl | rfl : j = 0 ∨ j = 1 ∨ j = 2 ∨ j = 3 ∨ j = 4 := by omega
            all_goals rfl⟩
          rcases hov : ofB (m : Int) (v.1 : Int) (v.2 : Int) with _ | _
          · rw [hov] at H1
            have e1 : Hid (ttE (m : Int) cl b = 5) := by
              show _ = _
              rw [HE.out, if_neg]
              rw [Bool.not_eq_true, List.all_eq_false]
              exact ⟨_, HM.out, by rw [hov]; decide⟩
            have e2 : Hid (ttv (m : Int) cl b = (0, 0)) := by show _ = _; unfold ttv; rw [if_neg (by rw [e1.out]; decide)]
            go_wp2_with (go_at_call 34; refine (H1.out.go _).mono ?_; rintro e w4 ⟨rfl, hb4⟩; have K4 : Hid (To W w4 qt q ql qb m b (tts cl b i) (bpow b i)) := (HK.out.below ((Below.refl _ _).alloc (Nat.le_refl _) _)).below hb4; clear hb4 HK D0 D1 D2 D3 D4; obtain ⟨⟨r1, r0⟩, t1, t0⟩ := K4.out.r)
            refine bodyPost_ret (v := .tuple #[.agg #[.int .u64 0, .int .u64 0], .int .i64 5]) (by simp [results, Try.results11, go_sem, *]) rfl ⟨by rw [e1.out, e2.out]; rfl, below2 (p := W.heap.size + 1) K4.out.d (by omega) _ _⟩
          · rw [hov] at H1
            have HT2 : Hid ((cl.take (i + 1)).all (fun o => ofB (m : Int) (o.v.1 : Int) (o.v.2 : Int)) = true) := by show _ = _; rw [HS.out, List.all_append, HT.out]; simp [hov]
            have MU : Hid (Ret 37 #[.int .i64 (m : Int), .agg #[.int .u64 ((bpow b i).1 : Int), .int .u64 ((bpow b i).2 : Int)], .agg #[.int .u64 (v.1 : Int), .int .u64 (v.2 : Int)]] (.agg #[.int .u64 ((pm (bpow b i) v).1 : Int), .int .u64 ((pm (bpow b i) v).2 : Int)])) := by
              have := mul_any (m : Int) (bpow b i) v hpl.1 hpl.2 hvl.1 hvl.2
              rw [mulv_of hpo hov] at this
              exact this
            have AD : Hid (Ret 36 #[.agg #[.int .u64 ((tts cl b i).1 : Int), .int .u64 ((tts cl b i).2 : Int)], .agg #[.int .u64 ((pm (bpow b i) v).1 : Int), .int .u64 ((pm (bpow b i) v).2 : Int)]] (.agg #[.int .u64 ((xa (tts cl b i) (pm (bpow b i) v)).1 : Int), .int .u64 ((xa (tts cl b i) (pm (bpow b i) v)).2 : Int)])) := fun w => add_any _ _ _ _ htl.1 htl.2 (lt_pm _ _).1 (lt_pm _ _).2 w
            rw [← HNX.out] at AD
            rw [← HBP.out] at HPI
            obtain ⟨t', ht'⟩ : ∃ t', t' = tts cl b (i + 1) := ⟨_, rfl⟩
            obtain ⟨n', hn'⟩ : ∃ n', n' = bpow b (i + 1) := ⟨_, rfl⟩
            rw [← ht'] at AD
            rw [← hn'] at HPI
            have HT' : Hid (t' = tts cl b (i + 1) ∧ n' = bpow b (i + 1)) := ⟨ht', hn'⟩
            clear ht' hn' HNX HBP htl hpl hpo hvl HT HS HM
            generalize tts cl b i = t at *
            generalize bpow b i = n at *
            generalize pm n v = y at *
            go_upto_region 12 with (go_at_call 34; refine (H1.out.go _).mono ?_; rintro e w4 ⟨rfl, hb4⟩)
            have K : To W w4 qt q ql qb m b t n := (HK.out.below ((Below.refl _ _).alloc (Nat.le_refl _) _)).below hb4
            have BX4 : Hid (w4.rowIs wr.heap.size 60 5 (fun j => (#[Value.int .i64 k, .int .i64 ki, .int .i64 s, .int .u64 (v.1 : Int), .int .u64 (v.2 : Int)] : Array Value).getD j undef)) := BX.out.of_block (hb4.block _ BX.out.lt)
            have hqq : q < wr.heap.size := HK.out.p.n.toEl.lt
            have VX : w4.cell? ⟨wr.heap.size, 3, none⟩ = some (.int .u64 (v.1 : Int)) ∧ w4.cell? ⟨wr.heap.size, 4, none⟩ = some (.int .u64 (v.2 : Int)) := ⟨BX4.out.cell (i := 3) (by decide), BX4.out.cell (i := 4) (by decide)⟩
            clear hb4 HK D0 D1 D2 D3 D4 BX BX4
            generalize wr.heap.size = qc at *
            refine wp_region_noPanic ?_
            refine wp_region_peel (S := fun w => w.cell? ⟨qt, 0, none⟩ = some (.int .u64 (t.1 : Int)) ∧ w.cell? ⟨qt, 1, none⟩ = some (.int .u64 (t.2 : Int)) ∧ w.cell? ⟨qc, 3, none⟩ = some (.int .u64 (v.1 : Int)) ∧ w.cell? ⟨qc, 4, none⟩ = some (.int .u64 (v.2 : Int))) 8 (by kernel_rfl) rfl (by kernel_rfl) ?_ (fun hHeld => ?_)
            · exact ⟨K.t.hi, K.t.lo, by first | exact VX.1 | (have h := VX.1; simpa using h), by first | exact VX.2 | (have h := VX.2; simpa using h)⟩
            refine wpAnyH_take (i := 0) (oi := _) (v := ?_) rfl (by kernel_rfl) (by kernel_rfl) (by kernel_rfl) (fun _ _ _ h => h) (Or.inl ⟨by rfl, ?_⟩) (by assumption) ?_
            rotate_left
            · ((intro w hSw; (try dsimp only at hSw); go_simp) <;> (try with_reducible rfl))
            try simp only [Act.put]
            refine wpAnyH_take (i := 1) (oi := _) (v := ?_) rfl (by kernel_rfl) (by kernel_rfl) (by kernel_rfl) (fun _ _ _ h => h) (Or.inl ⟨by rfl, ?_⟩) (by assumption) ?_
            rotate_left
            · ((intro w hSw; (try dsimp only at hSw); go_simp) <;> (try with_reducible rfl))
            try simp only [Act.put]
            refine wpAnyH_take (i := 2) (oi := _) (v := ?_) rfl (by kernel_rfl) (by kernel_rfl) (by kernel_rfl) (fun _ _ _ h => h) (Or.inl ⟨by rfl, ?_⟩) (by assumption) ?_
            rotate_left
            · ((intro w hSw; (try dsimp only at hSw); go_simp) <;> (try with_reducible rfl))
            try simp only [Act.put]
            refine wpAnyH_take (i := 4) (oi := _) (v := ?_) rfl (by kernel_rfl) (by kernel_rfl) (by kernel_rfl) (fun _ _ _ h => h) (Or.inl ⟨by rfl, ?_⟩) (by assumption) ?_
            rotate_left
            · ((intro w hSw; (try dsimp only at hSw); go_simp) <;> (try with_reducible rfl))
            try simp only [Act.put]
            refine wpAnyH_take (i := 5) (oi := _) (v := ?_) rfl (by kernel_rfl) (by kernel_rfl) (by kernel_rfl) (fun _ _ _ h => h) (Or.inl ⟨by rfl, ?_⟩) (by assumption) ?_
            rotate_left
            · ((intro w hSw; (try dsimp only at hSw); go_simp) <;> (try with_reducible rfl))
            try simp only [Act.put]
            refine wpAnyH_ready (rs := [3]) (by kernel_rfl) (by simp) ?_
            refine AllReadyH.cons (o := _) rfl (fun KK hKK => ?_) AllReadyH.nil
            go_simp
            (go_at_call 60; refine (HPI.out _ K.drew.p).mono ?_; rintro e w' ⟨rfl, hb'⟩)
            have VX' : w'.cell? ⟨qc, 3, none⟩ = some (.int .u64 (v.1 : Int)) ∧ w'.cell? ⟨qc, 4, none⟩ = some (.int .u64 (v.2 : Int)) := by
              have hne : qc ≠ q := by omega
              have v1 := VX.1
              have v2 := VX.2
              have hlt : qc < w4.heap.size := cell_lt v1
              have hb2 := hb'.block qc (by simpa using hlt)
              have hset : (((w4.drew.setCell ⟨q, 0, none⟩ (.int .u64 (n'.1 : Int))).setCell ⟨q, 1, none⟩ (.int .u64 (n'.2 : Int))).heap[qc]?) = w4.heap[qc]? := by
                have h0 : w4.drew.heap[qc]? = w4.heap[qc]? := rfl
                rw [← h0]
                simp [World.setCell, Array.getElem?_modify, Ne.symm hne]
              rw [hset] at hb2
              exact ⟨by rw [← v1]; simp [World.cell?, hb2], by rw [← v2]; simp [World.cell?, hb2]⟩
            have K'' := To.pow (w' := w') K.drew n' hb'
            clear K hb' VX
            have K := K''
            have VX := VX'
            clear K'' VX'
            (try simp only [World.size_drew] at K)
            refine hKK.out _ _ ?_ (fun hHeld => ?_)
            · exact ⟨K.t.hi, K.t.lo, by first | exact VX.1 | (have h := VX.1; simpa using h), by first | exact VX.2 | (have h := VX.2; simpa using h)⟩
            clear hKK KK
            try simp only [Act.put]
            refine wpAnyH_ready (rs := [6]) (by kernel_rfl) (by simp) ?_
            refine AllReadyH.cons (o := _) rfl (fun KK hKK => ?_) AllReadyH.nil
            go_simp
            (go_at_call 37; refine (MU.out.go _).mono ?_; rintro e w' ⟨rfl, hb'⟩)
            have VX' : w'.cell? ⟨qc, 3, none⟩ = some (.int .u64 (v.1 : Int)) ∧ w'.cell? ⟨qc, 4, none⟩ = some (.int .u64 (v.2 : Int)) := ⟨by first | exact keepc hb' VX.1 | exact keepc hb' (by have h := VX.1; simpa using h), by first | exact keepc hb' VX.2 | exact keepc hb' (by have h := VX.2; simpa using h)⟩
            have K'' := To.below (w' := w') (by first | exact K | exact K.drew) hb'
            clear K hb' VX
            have K := K''
            have VX := VX'
            clear K'' VX'
            (try simp only [World.size_drew] at K)
            refine hKK.out _ _ ?_ (fun hHeld => ?_)
            · exact ⟨K.t.hi, K.t.lo, by first | exact VX.1 | (have h := VX.1; simpa using h), by first | exact VX.2 | (have h := VX.2; simpa using h)⟩
            clear hKK KK
            try simp only [Act.put]
            refine wpAnyH_ready (rs := [7]) (by kernel_rfl) (by simp) ?_
            refine AllReadyH.cons (o := _) rfl (fun KK hKK => ?_) AllReadyH.nil
            go_simp
            (go_at_call 36; refine (AD.out.go _).mono ?_; rintro e w' ⟨rfl, hb'⟩)
            have VX' : w'.cell? ⟨qc, 3, none⟩ = some (.int .u64 (v.1 : Int)) ∧ w'.cell? ⟨qc, 4, none⟩ = some (.int .u64 (v.2 : Int)) := ⟨by first | exact keepc hb' VX.1 | exact keepc hb' (by have h := VX.1; simpa using h), by first | exact keepc hb' VX.2 | exact keepc hb' (by have h := VX.2; simpa using h)⟩
            have K'' := To.below (w' := w') (by first | exact K | exact K.drew) hb'
            clear K hb' VX
            have K := K''
            have VX := VX'
            clear K'' VX'
            (try simp only [World.size_drew] at K)
            refine hKK.out _ _ ?_ (fun hHeld => ?_)
            · exact ⟨K.t.hi, K.t.lo, by first | exact VX.1 | (have h := VX.1; simpa using h), by first | exact VX.2 | (have h := VX.2; simpa using h)⟩
            clear hKK KK
            try simp only [Act.put]
            refine wpAnyH_done (by kernel_rfl) ?_ _
            refine peel_last rfl (fun KK hKK => ?_)
            clear hHeld
            obtain ⟨r1, r0⟩ := K.t.toEl
            have f1 := K.t.fhi
            have f0 := K.t.flo
            go_simp
            refine hKK _ _ ?_
            refine NoPanic.normal ?_
            clear hKK KK
            have K2 : Hid (To W ((w'.setCell ⟨qt, 0, none⟩ (.int .u64 (t'.1 : Int))).setCell ⟨qt, 1, none⟩ (.int .u64 (t'.2 : Int))) qt q ql qb m b t' n') := K.put HQ.out.1 HQ.out.2 t'
            clear K r1 r0 f1 f0 VX
            go_wp2
            refine ⟨⟨i + 1, hlt, by simp, HT2, ?_⟩, by simp [intOf]; omega⟩
            rw [← HT'.out.1, ← HT'.out.2]
            exact K2
        · obtain rfl : i = cl.length := by omega
          have e1 : Hid (ttE (m : Int) cl b = 0) := by
            have h := HT.out
            rw [List.take_of_length_le (Nat.le_refl _)] at h
            show _ = _
            rw [HE.out, if_pos h]
          have e2 : Hid (ttv (m : Int) cl b = tts cl b cl.length) := by show _ = _; unfold ttv; rw [if_pos e1.out]
          obtain ⟨t, ht⟩ : ∃ t, t = tts cl b cl.length := ⟨_, rfl⟩
          rw [← ht] at e2 HK
          obtain ⟨⟨r1, r0⟩, z1, z0⟩ := HK.out.r
          obtain ⟨⟨c1, c0⟩, _, _⟩ := HK.out.t
          have HDD := hidC HK.out.d
          clear HK HT HE ht HIN
          go_wp2
          refine bodyPost_ret (v := .tuple #[.agg #[.int .u64 (t.1 : Int), .int .u64 (t.2 : Int)], .int .i64 0]) (by simp [results, Try.results11, go_sem, *]) rfl ⟨by rw [e1.out, e2.out], below2 (p := W.heap.size + 1) HDD.out (by omega) _ _⟩
  · have HL := hidC (cmlev_no l hl)
    have e1 : ttE l cl b = 1 := by unfold ttE; rw [if_neg hl]
    have e2 : ttv l cl b = (0, 0) := by unfold ttv; rw [if_neg (by rw [e1]; decide)]
    rw [e1, e2]
    clear e1 e2 hl oc hr h10
    go_enter Try.func11, Try.ntmps11
    go_wp2_with (go_at_call 33; refine (HL.out.go _).mono ?_; rintro e w1 ⟨rfl, hb1⟩; have K1 : Hid (Below W.heap.size W w1 ∧ Ew w1 (W.heap.size + 1) 0 0) := ⟨(((Below.refl W.heap.size W).alloc (Nat.le_refl _) _).alloc (by simp) _).trans (hb1.mono (by simp; omega)), Ew.below (w := (W.alloc (Obj.cells #[.int .u64 (b.1 : Int), .int .u64 (b.2 : Int)] 26)).alloc (Obj.cells #[.int .u64 0, .int .u64 0] 26)) ⟨⟨by simp [go_sem], by simp [go_sem]⟩, by simp [go_sem], by simp [go_sem]⟩ hb1⟩; clear hb1; obtain ⟨⟨r1, r0⟩, t1, t0⟩ := K1.out.2)
    refine bodyPost_ret (v := .tuple #[.agg #[.int .u64 0, .int .u64 0], .int .i64 1]) (by simp [results, Try.results11, go_sem, *]) rfl ⟨rfl, below2 (p := W.heap.size + 1) K1.out.1 (by omega) _ _⟩
end Go.Proofs.Ytejoombhcnldmaa
