/- Contracts of steepleref23.Two and steepleref23.Batch over the seat's translation. -/
import Derived.Test.YtbomgcmmfeahiaaRgH
import Derived.Test.YtbomgcmmfeahiaaCbR
namespace Go.Proofs.Ytbomgcmmfeahiaa
open Go.RowKit
open Cb
open Rg
open Tw (pm)

set_option maxHeartbeats 2000000 in
theorem rtwo23 (l : Int) (a c : Option Addr) (cap cap2 : Nat) (t p : List (Nat × Nat)) (ht : ltE t) (hp : ltE p) (h1 : t.length ≤ 1000) (h2 : p.length ≤ 1000) (W : World) (ha : ERow W a t) (hc : ERow W c p) :
    Calls Try.prog 20 #[.int .i64 l, .slice a t.length cap, .slice c p.length cap2] W fun e w' => e = .returned (.int .i64 (rgh l t p)) ∧ Below W.heap.size W w' := by
  have HA : Hid (∀ w, Below W.heap.size W w → Calls Try.prog 17 #[.int .i64 l, .slice a t.length cap] w fun e w' => e = .returned (.bool (t.all fun e => ofB l (e.1 : Int) (e.2 : Int))) ∧ Below w.heap.size w w') := fun w hb => rall15 l a cap t ht w (ha.below hb) (by omega)
  have HC : Hid (∀ w, Below W.heap.size W w → Calls Try.prog 17 #[.int .i64 l, .slice c p.length cap2] w fun e w' => e = .returned (.bool (p.all fun e => ofB l (e.1 : Int) (e.2 : Int))) ∧ Below w.heap.size w w') := fun w hb => rall15 l c cap2 p hp w (hc.below hb) (by omega)
  unfold rgh
  clear ha hc ht hp
  generalize (t.all fun e => ofB l (e.1 : Int) (e.2 : Int)) = x at *
  generalize (p.all fun e => ofB l (e.1 : Int) (e.2 : Int)) = y at *
  generalize t.length = s at *
  generalize p.length = q at *
  by_cases hl : 0 ≤ l ∧ l ≤ 7
  · rw [if_pos hl]
    obtain ⟨k, rfl⟩ : ∃ k : Nat, l = (k : Int) := ⟨l.toNat, by omega⟩
    have HT := hidT (rtwo15 k (by omega))
    rw [Int.toNat_natCast]
    have hk0 : ¬ (k : Int) < 0 := by omega
    have hk7 : ¬ 7 < (k : Int) := by omega
    obtain ⟨N, hN⟩ : ∃ N, N = 2 ^ k := ⟨_, rfl⟩
    rw [← hN] at HT ⊢
    clear hN
    by_cases hs : s = N
    · subst hs
      by_cases hq : q = k
      · subst hq
        rw [if_pos ⟨rfl, rfl⟩]
        cases x
        · rw [if_neg (by rintro ⟨h, _⟩; cases h)]
          go_enter Try.func20, Try.ntmps20
          go_wp2_with (first | (go_at_call 34; refine (HT.out.go _).mono ?_; rintro e w1 ⟨rfl, hb1⟩) | (go_at_call 17; refine (HA.out _ hb1).mono ?_; rintro e w2 ⟨rfl, hb2⟩))
          go_ret
          exact ⟨rfl, hb1.trans (hb2.mono hb1.size)⟩
        · cases y
          · rw [if_neg (by rintro ⟨_, h⟩; cases h)]
            go_enter Try.func20, Try.ntmps20
            go_wp2_with (first | (go_at_call 34; refine (HT.out.go _).mono ?_; rintro e w1 ⟨rfl, hb1⟩) | (go_at_call_of 17 (#[.int .i64 (q : Int), .slice a s cap] : Array Value); refine (HA.out _ hb1).mono ?_; rintro e w2 ⟨rfl, hb2⟩; have hb := hb1.trans (hb2.mono hb1.size); clear HA) | (go_at_call 17; refine (HC.out _ hb).mono ?_; rintro e w3 ⟨rfl, hb3⟩))
            go_ret
            exact ⟨rfl, hb.trans (hb3.mono hb.size)⟩
          · rw [if_pos ⟨rfl, rfl⟩]
            go_enter Try.func20, Try.ntmps20
            go_wp2_with (first | (go_at_call 34; refine (HT.out.go _).mono ?_; rintro e w1 ⟨rfl, hb1⟩) | (go_at_call_of 17 (#[.int .i64 (q : Int), .slice a s cap] : Array Value); refine (HA.out _ hb1).mono ?_; rintro e w2 ⟨rfl, hb2⟩; have hb := hb1.trans (hb2.mono hb1.size); clear HA) | (go_at_call 17; refine (HC.out _ hb).mono ?_; rintro e w3 ⟨rfl, hb3⟩))
            go_ret
            exact ⟨rfl, hb.trans (hb3.mono hb.size)⟩
      · have hq' : ¬ (q : Int) = (k : Int) := by omega
        rw [if_neg (fun h => hq h.2)]
        go_enter Try.func20, Try.ntmps20
        go_wp2_with (go_at_call 34; refine (HT.out.go _).mono ?_; rintro e w1 ⟨rfl, hb1⟩)
        go_ret
        exact ⟨rfl, hb1⟩
    · have hs2 : ¬ (s : Int) = (N : Int) := by omega
      rw [if_neg (fun h => hs h.1)]
      go_enter Try.func20, Try.ntmps20
      go_wp2_with (go_at_call 34; refine (HT.out.go _).mono ?_; rintro e w1 ⟨rfl, hb1⟩)
      go_ret
      exact ⟨rfl, hb1⟩
  · rw [if_neg hl]
    by_cases h0 : l < 0
    · go_enter Try.func20, Try.ntmps20
      go_wp2
      go_ret
      exact ⟨rfl, Below.refl _ _⟩
    · have h7 : 7 < l := by omega
      go_enter Try.func20, Try.ntmps20
      go_wp2
      go_ret
      exact ⟨rfl, Below.refl _ _⟩
/-- The result, the sum, and what holds. -/
structure Bt (W w : World) (o : Nat × Nat) : Prop where
  r : Ew w W.heap.size 0 0
  o : Ew w (W.heap.size + 1) o.1 o.2
  d : Below W.heap.size W w
theorem Bt.below {W w w' : World} {o : Nat × Nat} (h : Bt W w o) (hb : Below w.heap.size w w') : Bt W w' o := ⟨h.r.below hb, h.o.below hb, h.d.trans (hb.mono h.d.size)⟩
/-- And the element that is made. -/
structure Be (W w : World) (o : Nat × Nat) (q : Nat) (e : Nat × Nat) : Prop where
  b : Bt W w o
  e : Ew w q e.1 e.2
  n : W.heap.size + 1 < q
theorem Be.below {W w w' : World} {o : Nat × Nat} {q : Nat} {e : Nat × Nat} (h : Be W w o q e) (hb : Below w.heap.size w w') : Be W w' o q e := ⟨h.b.below hb, h.e.below hb, h.n⟩
theorem Be.drew {W w : World} {o : Nat × Nat} {q : Nat} {e : Nat × Nat} (h : Be W w o q e) : Be W w.drew o q e := h.below (Below.refl _ _).drew
theorem Be.putE {W w : World} {o : Nat × Nat} {q : Nat} {e : Nat × Nat} (h : Be W w o q e) (t : Nat × Nat) : Be W ((w.setCell ⟨q, 0, none⟩ (.int .u64 (t.1 : Int))).setCell ⟨q, 1, none⟩ (.int .u64 (t.2 : Int))) o q t := by
  have hn := h.n
  exact ⟨⟨h.b.r.other (by omega) _ _, h.b.o.other (by omega) _ _, below2 (p := q) h.b.d (by omega) _ _⟩, h.e.set _ _, h.n⟩
theorem Be.putO {W w : World} {o : Nat × Nat} {q : Nat} {e : Nat × Nat} (h : Be W w o q e) (t : Nat × Nat) : Bt W ((w.setCell ⟨W.heap.size + 1, 0, none⟩ (.int .u64 (t.1 : Int))).setCell ⟨W.heap.size + 1, 1, none⟩ (.int .u64 (t.2 : Int))) t :=
  ⟨h.b.r.other (by omega) _ _, h.b.o.set _ _, below2 (p := W.heap.size + 1) h.b.d (by omega) _ _⟩
theorem Be.new {W w : World} {o : Nat × Nat} (h : Bt W w o) (T : TypeId) : Be W (w.alloc (Obj.cells #[.int .u64 0, .int .u64 0] T)) o w.heap.size (0, 0) :=
  ⟨h.below ((Below.refl _ _).alloc (Nat.le_refl _) _), Ew.roomR w T, by have := h.o.toEl.lt; omega⟩
theorem Be.facts {W w : World} {o : Nat × Nat} {q : Nat} {e : Nat × Nat} (h : Be W w o q e) : w.cell? ⟨W.heap.size + 1, 0, none⟩ = some (.int .u64 (o.1 : Int)) ∧ w.cell? ⟨W.heap.size + 1, 1, none⟩ = some (.int .u64 (o.2 : Int)) ∧ w.cell? ⟨q, 0, none⟩ = some (.int .u64 (e.1 : Int)) ∧ w.cell? ⟨q, 1, none⟩ = some (.int .u64 (e.2 : Int)) := ⟨h.b.o.hi, h.b.o.lo, h.e.hi, h.e.lo⟩
def tru (ps : List (Nat × Nat)) (u v : Nat) : Nat × Nat := xs v fun i => sl (hs (el ps i) u) (bv (i : Int))
theorem lt_tru (ps : List (Nat × Nat)) (u v : Nat) : lt2 (tru ps u v) := lt_xs (fun _ => lt_sl (bv_lt2 _)) _
def btu (N : Nat) (ps r : List (Nat × Nat)) (u : Nat) : Nat × Nat := xs u fun i => pm (wt r i) (trn N ps i)
theorem lt_btu (N : Nat) (ps r : List (Nat × Nat)) (u : Nat) : lt2 (btu N ps r u) := lt_xs (fun _ => lt_pm _ _) _
set_option maxHeartbeats 20000000 in
set_option maxRecDepth 100000 in
theorem rbatch23 (a c : Option Addr) (cap cap2 N : Nat) (ps r : List (Nat × Nat)) (hp : ltE ps) (hr : ltE r) (hl : ps.length = N) (hN : N ≤ 128) (h2 : r.length ≤ 1000) (W : World) (ha : ERow W a ps) (hc : ERow W c r) :
    Calls Try.prog 23 #[.slice a N cap, .slice c r.length cap2] W fun e w' => e = .returned (.agg #[.int .u64 ((btc N ps r).1 : Int), .int .u64 ((btc N ps r).2 : Int)]) ∧ Below W.heap.size W w' := by
  have HP : Hid (ERow W a ps ∧ ps.length = N ∧ ltE ps) := ⟨ha, hl, hp⟩
  have HW : Hid (∀ (j : Nat) (w : World), j ≤ 1000 → Below W.heap.size W w → Calls Try.prog 38 #[.slice c r.length cap2, .int .i64 (j : Int)] w fun e w' => e = .returned (.agg #[.int .u64 ((wt r j).1 : Int), .int .u64 ((wt r j).2 : Int)]) ∧ Below w.heap.size w w') := fun j w hj hb => rweight_any c cap2 j r hr h2 hj w (hc.below hb)
  have HE : Hid (btu N ps r N = btc N ps r) := rfl
  clear ha hc hp hr hl
  go_enter Try.func23, Try.ntmps23
  go_wp2_with fail
  go_loopw [6] (fun u wr => ∃ j : Nat, j ≤ N ∧ u = .int .i64 j ∧ Hid (Bt W wr (btu N ps r j))) (fun u _ => N - (intOf u).toNat)
  case atStart => exact ⟨0, Nat.zero_le _, rfl, ⟨⟨by simp [go_sem], by simp [go_sem]⟩, by simp [go_sem], by simp [go_sem]⟩, ⟨⟨by simp [go_sem, btu, xs], by simp [go_sem, btu, xs]⟩, by simp [go_sem], by simp [go_sem]⟩, by go_grown⟩
  case round =>
    obtain ⟨u, hu, rfl, HK⟩ := hrel
    by_cases hlt : u < N
    · have u1 : (u : Int) < (N : Int) := by omega
      have u0 : (0 : Int) ≤ (u : Int) := by omega
      have K1 : Hid (Be W (wr.alloc (Obj.cells #[.int .u64 0, .int .u64 0] 46)) (btu N ps r u) wr.heap.size (0, 0)) := Be.new HK.out _
      have HNX : Hid (btu N ps r (u + 1) = xa (btu N ps r u) (pm (wt r u) (trn N ps u))) := rfl
      have hbl := lt_btu N ps r u
      have HWu := hidT (fun w => HW.out u w (by omega))
      have hwl := lt_wt r u
      have htl := lt_trn N ps u
      have PR := hidT (rprod (wt r u) (trn N ps u) hwl htl)
      have AD := hidT (rsum (btu N ps r u) (pm (wt r u) (trn N ps u)) hbl (lt_pm _ _))
      have HTE : Hid (tru ps u N = trn N ps u) := rfl
      clear HK hbl hwl htl
      generalize btu N ps r u = o at *
      generalize hpm : pm (wt r u) (trn N ps u) = z at *
      generalize wt r u = y at *
      generalize hxo : xa o z = o' at *
      clear hpm hxo
      go_wp2_with fail
      generalize (wr.alloc (Obj.cells #[.int .u64 0, .int .u64 0] 46)) = wa at *
      generalize wr.heap.size = q at *
      go_loopw [8] (fun s wr => ∃ v : Nat, v ≤ N ∧ s = .int .i64 v ∧ Hid (Be W wr o q (tru ps u v))) (fun s _ => N - (intOf s).toNat)
      case atStart => exact ⟨0, Nat.zero_le _, rfl, K1⟩
      case round =>
        obtain ⟨v, hv, rfl, HJ⟩ := hrel
        clear K1
        by_cases hvN : v < N
        · have v1 : (v : Int) < (N : Int) := by omega
          have v0 : (0 : Int) ≤ (v : Int) := by omega
          obtain ⟨b0, o0, rfl, hb0, c1, c0⟩ := HP.out.1.cells v (by rw [HP.out.2.1]; exact hvN)
          have C1 := keepc HJ.out.b.d c1
          have C0 := keepc HJ.out.b.d c0
          have hxl : lt2 (el ps v) := ltE_el HP.out.2.2 v
          have HH := hidT (has_any (el ps v).1 (el ps v).2 u hxl.1 hxl.2 (by omega))
          have BI := hidT (rbit_any (v : Int))
          have H2 : Hid (tru ps u (v + 1) = if hasB (el ps v).1 (el ps v).2 u = true then xa (tru ps u v) (bv (v : Int)) else tru ps u v) := by
            show xa (tru ps u v) (sl (hs (el ps v) u) (bv (v : Int))) = _
            unfold hs
            cases hasB (el ps v).1 (el ps v).2 u
            · exact xa_zero _
            · rfl
          have A1 := hidT (rsum (tru ps u v) (bv (v : Int)) (lt_tru ps u v) (bv_lt2 _))
          clear c1 c0 hb0 hxl
          generalize hxe : ps.getD v (0, 0) = x at *
          have hxe2 : el ps v = x := hxe
          rw [hxe2] at HH H2
          clear hxe hxe2
          obtain ⟨t', ht'⟩ : ∃ t', t' = tru ps u (v + 1) := ⟨_, rfl⟩
          rw [← ht'] at H2
          have HT' : Hid (t' = tru ps u (v + 1)) := ht'
          clear ht'
          generalize tru ps u v = t at *
          generalize bv (v : Int) = bi at *
          rcases hB : hasB x.1 x.2 u with _ | _
          · rw [hB] at HH
            have H3 : t' = t := by have := H2.out; rw [hB] at this; exact this
            clear hB H2
            go_wp2_with (go_at_call 43; refine (HH.out.go _).mono ?_; rintro e w4 ⟨rfl, hb4⟩)
            refine ⟨⟨v + 1, hvN, by simp, ?_⟩, by simp [intOf]; omega⟩
            rw [← HT'.out, H3]
            exact HJ.out.below hb4
          · rw [hB] at HH
            have H3 : t' = xa t bi := by have := H2.out; rw [hB] at this; exact this
            rw [← H3] at A1
            clear hB H2 H3
            go_upto_region 10 with (go_at_call 43; refine (HH.out.go _).mono ?_; rintro e w4 ⟨rfl, hb4⟩)
            have K : Be W w4 o q t := HJ.out.below hb4
            clear hb4 HJ C1 C0
            refine wp_region_noPanic ?_
            refine wp_region_peel (S := fun w => w.cell? ⟨q, 0, none⟩ = some (.int .u64 (t.1 : Int)) ∧ w.cell? ⟨q, 1, none⟩ = some (.int .u64 (t.2 : Int))) 4 (by kernel_rfl) rfl (by kernel_rfl) ?_ (fun hHeld => ?_)
            · exact ⟨K.facts.2.2.1, K.facts.2.2.2⟩
            refine wpAnyH_take (i := 0) (oi := _) (v := ?_) rfl (by kernel_rfl) (by kernel_rfl) (by kernel_rfl) (fun _ _ _ h => h) (Or.inl ⟨by rfl, ?_⟩) (by assumption) ?_
            rotate_left
            · ((intro w hSw; (try dsimp only at hSw); go_simp) <;> (try with_reducible rfl))
            try simp only [Act.put]
            refine wpAnyH_take (i := 1) (oi := _) (v := ?_) rfl (by kernel_rfl) (by kernel_rfl) (by kernel_rfl) (fun _ _ _ h => h) (Or.inl ⟨by rfl, ?_⟩) (by assumption) ?_
            rotate_left
            · ((intro w hSw; (try dsimp only at hSw); go_simp) <;> (try with_reducible rfl))
            try simp only [Act.put]
            refine wpAnyH_ready (rs := [2]) (by kernel_rfl) (by simp) ?_
            refine AllReadyH.cons (o := _) rfl (fun KK hKK => ?_) AllReadyH.nil
            go_simp
            (go_at_call 36; refine (BI.out.go _).mono ?_; rintro e w' ⟨rfl, hb'⟩)
            have K'' := Be.below (w' := w') (by first | exact K | exact K.drew) hb'
            clear K hb'
            have K := K''
            clear K''
            (try simp only [World.size_drew] at K)
            refine hKK.out _ _ ?_ (fun hHeld => ?_)
            · exact ⟨K.facts.2.2.1, K.facts.2.2.2⟩
            clear hKK KK
            try simp only [Act.put]
            refine wpAnyH_ready (rs := [3]) (by kernel_rfl) (by simp) ?_
            refine AllReadyH.cons (o := _) rfl (fun KK hKK => ?_) AllReadyH.nil
            go_simp
            (go_at_call 35; refine (A1.out.go _).mono ?_; rintro e w' ⟨rfl, hb'⟩)
            have K'' := Be.below (w' := w') (by first | exact K | exact K.drew) hb'
            clear K hb'
            have K := K''
            clear K''
            (try simp only [World.size_drew] at K)
            refine hKK.out _ _ ?_ (fun hHeld => ?_)
            · exact ⟨K.facts.2.2.1, K.facts.2.2.2⟩
            clear hKK KK
            try simp only [Act.put]
            refine wpAnyH_done (by kernel_rfl) ?_ _
            refine peel_last rfl (fun KK hKK => ?_)
            clear hHeld
            obtain ⟨r1, r0⟩ := K.e.toEl
            have f1 := K.e.fhi
            have f0 := K.e.flo
            go_simp
            refine hKK _ _ ?_
            refine NoPanic.normal ?_
            clear hKK KK
            have K2 : Hid (Be W ((w'.setCell ⟨q, 0, none⟩ (.int .u64 (t'.1 : Int))).setCell ⟨q, 1, none⟩ (.int .u64 (t'.2 : Int))) o q t') := K.putE t'
            clear K r1 r0 f1 f0
            go_wp2
            refine ⟨⟨v + 1, hvN, by simp, ?_⟩, by simp [intOf]; omega⟩
            rw [← HT'.out]
            exact K2
        · obtain rfl : v = N := by omega
          rw [HTE.out] at HJ
          generalize trn v ps u = t at *
          go_upto_region 11 with fail
          have K : Be W wr o q t := HJ.out
          clear HJ
          refine wp_region_noPanic ?_
          refine wp_region_peel (S := fun w => w.cell? ⟨W.heap.size + 1, 0, none⟩ = some (.int .u64 (o.1 : Int)) ∧ w.cell? ⟨W.heap.size + 1, 1, none⟩ = some (.int .u64 (o.2 : Int)) ∧ w.cell? ⟨q, 0, none⟩ = some (.int .u64 (t.1 : Int)) ∧ w.cell? ⟨q, 1, none⟩ = some (.int .u64 (t.2 : Int))) 7 (by kernel_rfl) rfl (by kernel_rfl) ?_ (fun hHeld => ?_)
          · exact K.facts
          refine wpAnyH_take (i := 0) (oi := _) (v := ?_) rfl (by kernel_rfl) (by kernel_rfl) (by kernel_rfl) (fun _ _ _ h => h) (Or.inl ⟨by rfl, ?_⟩) (by assumption) ?_
          rotate_left
          · ((intro w hSw; (try dsimp only at hSw); go_simp) <;> (try with_reducible rfl))
          try simp only [Act.put]
          refine wpAnyH_take (i := 1) (oi := _) (v := ?_) rfl (by kernel_rfl) (by kernel_rfl) (by kernel_rfl) (fun _ _ _ h => h) (Or.inl ⟨by rfl, ?_⟩) (by assumption) ?_
          rotate_left
          · ((intro w hSw; (try dsimp only at hSw); go_simp) <;> (try with_reducible rfl))
          try simp only [Act.put]
          refine wpAnyH_take (i := 2) (oi := _) (v := ?_) rfl (by kernel_rfl) (by kernel_rfl) (by kernel_rfl) (fun _ _ _ h => h) (Or.inl ⟨by rfl, ?_⟩) (by assumption) ?_
          rotate_left
          · ((intro w hSw; (try dsimp only at hSw); go_simp) <;> (try with_reducible rfl))
          try simp only [Act.put]
          refine wpAnyH_take (i := 4) (oi := _) (v := ?_) rfl (by kernel_rfl) (by kernel_rfl) (by kernel_rfl) (fun _ _ _ h => h) (Or.inl ⟨by rfl, ?_⟩) (by assumption) ?_
          rotate_left
          · ((intro w hSw; (try dsimp only at hSw); go_simp) <;> (try with_reducible rfl))
          try simp only [Act.put]
          refine wpAnyH_ready (rs := [3]) (by kernel_rfl) (by simp) ?_
          refine AllReadyH.cons (o := _) rfl (fun KK hKK => ?_) AllReadyH.nil
          go_simp
          (go_at_call 38; refine (HWu.out _ (by first | exact K.b.d | exact K.drew.b.d)).mono ?_; rintro e w' ⟨rfl, hb'⟩)
          have K'' := Be.below (w' := w') (by first | exact K | exact K.drew) hb'
          clear K hb'
          have K := K''
          clear K''
          (try simp only [World.size_drew] at K)
          refine hKK.out _ _ ?_ (fun hHeld => ?_)
          · exact K.facts
          clear hKK KK
          try simp only [Act.put]
          refine wpAnyH_ready (rs := [5]) (by kernel_rfl) (by simp) ?_
          refine AllReadyH.cons (o := _) rfl (fun KK hKK => ?_) AllReadyH.nil
          go_simp
          (go_at_call 41; refine (PR.out.go _).mono ?_; rintro e w' ⟨rfl, hb'⟩)
          have K'' := Be.below (w' := w') (by first | exact K | exact K.drew) hb'
          clear K hb'
          have K := K''
          clear K''
          (try simp only [World.size_drew] at K)
          refine hKK.out _ _ ?_ (fun hHeld => ?_)
          · exact K.facts
          clear hKK KK
          try simp only [Act.put]
          refine wpAnyH_ready (rs := [6]) (by kernel_rfl) (by simp) ?_
          refine AllReadyH.cons (o := _) rfl (fun KK hKK => ?_) AllReadyH.nil
          go_simp
          (go_at_call 35; refine (AD.out.go _).mono ?_; rintro e w' ⟨rfl, hb'⟩)
          have K'' := Be.below (w' := w') (by first | exact K | exact K.drew) hb'
          clear K hb'
          have K := K''
          clear K''
          (try simp only [World.size_drew] at K)
          refine hKK.out _ _ ?_ (fun hHeld => ?_)
          · exact K.facts
          clear hKK KK
          try simp only [Act.put]
          refine wpAnyH_done (by kernel_rfl) ?_ _
          refine peel_last rfl (fun KK hKK => ?_)
          clear hHeld
          obtain ⟨r1, r0⟩ := K.b.o.toEl
          have f1 := K.b.o.fhi
          have f0 := K.b.o.flo
          go_simp
          refine hKK _ _ ?_
          refine NoPanic.normal ?_
          clear hKK KK
          have K2 : Hid (Bt W ((w'.setCell ⟨W.heap.size + 1, 0, none⟩ (.int .u64 (o'.1 : Int))).setCell ⟨W.heap.size + 1, 1, none⟩ (.int .u64 (o'.2 : Int))) o') := K.putO o'
          clear K r1 r0 f1 f0
          go_wp2
          refine ⟨⟨u + 1, hlt, by simp, ?_⟩, by simp [intOf]; omega⟩
          rw [HNX.out]
          exact K2
    · obtain rfl : u = N := by omega
      rw [HE.out] at HK
      obtain ⟨s, hs⟩ : ∃ s, s = btc u ps r := ⟨_, rfl⟩
      rw [← hs] at HK
      have HSS : Hid (s = btc u ps r) := hs
      have HD : Hid (Below W.heap.size W wr) := HK.out.d
      obtain ⟨⟨o1, o0⟩, _, _⟩ := HK.out.o
      obtain ⟨⟨r1, r0⟩, t1, t0⟩ := HK.out.r
      clear HK HW HP HE hs
      go_wp2
      refine bodyPost_ret (v := .agg #[.int .u64 (s.1 : Int), .int .u64 (s.2 : Int)]) (by simp [results, Try.results23, go_sem, *]) rfl ⟨by rw [HSS.out], ?_⟩
      exact below2 (p := W.heap.size) HD.out (Nat.le_refl _) _ _
end Go.Proofs.Ytbomgcmmfeahiaa
