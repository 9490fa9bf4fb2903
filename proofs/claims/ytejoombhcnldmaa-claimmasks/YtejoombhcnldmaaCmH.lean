/- The contract of steepleref22.Total over the seat's translation. -/
import Derived.Test.YtejoombhcnldmaaPCmG
namespace Go.Proofs.Ytejoombhcnldmaa
open Go.RowKit
open Cb
open Tw (pm)

/-- The total from behind. -/
def hz (b : Nat × Nat) : List Stp → Nat × Nat
  | [] => (0, 0)
  | o :: l => xa (pm (hz b l) b) o.v
theorem hz_tts (b : Nat × Nat) (hb : lt2 b) : ∀ cl : List Stp, okC cl → hz b cl = tts cl b cl.length
  | [], _ => rfl
  | o :: l, h => by
    have ih := hz_tts b hb l (fun x hx => h x (List.mem_cons_of_mem _ hx))
    show xa (pm (hz b l) b) o.v = xs (l.length + 1) fun j => pm (bpow b j) ((o :: l).getD j zst).v
    rw [Cm.sum_front, ih]
    have e1 : pm (bpow b 0) ((o :: l).getD 0 zst).v = o.v := one_pm (h o (List.mem_cons_self ..))
    have e2 : (xs l.length fun i => pm (bpow b (i + 1)) ((o :: l).getD (i + 1) zst).v) = pm b (tts l b l.length) := by
      unfold tts
      rw [Rg.pm_xs]
      exact xs_congr _ fun i _ => by rw [Cm.bpow_front b hb, Tw.pm_assoc']; rfl
    rw [e1, e2, Tw.pm_comm', xa_comm]
theorem lt_hz (b : Nat × Nat) (cl : List Stp) (h : okC cl) : lt2 (hz b cl) := by
  cases cl with
  | nil => exact ⟨Nat.two_pow_pos 64, Nat.two_pow_pos 64⟩
  | cons o l => exact lt_xa (lt_pm _ _) (h o (List.mem_cons_self ..))
theorem okC_drop {cl : List Stp} (h : okC cl) (j : Nat) : okC (cl.drop j) := fun o ho => h o (List.mem_of_mem_drop ho)
/-- What was handed over, the result, and the sum. -/
structure Tz (W w : World) (b t : Nat × Nat) : Prop where
  b : El w W.heap.size b.1 b.2
  r : Ew w (W.heap.size + 1) 0 0
  t : Ew w (W.heap.size + 1 + 1) t.1 t.2
  d : Below W.heap.size W w
theorem Tz.below {W w w' : World} {b t : Nat × Nat} (h : Tz W w b t) (hb : Below w.heap.size w w') : Tz W w' b t := ⟨h.b.below hb, h.r.below hb, h.t.below hb, h.d.trans (hb.mono h.d.size)⟩
theorem Tz.drew {W w : World} {b t : Nat × Nat} (h : Tz W w b t) : Tz W w.drew b t := h.below (Below.refl _ _).drew
theorem Tz.put {W w : World} {b t : Nat × Nat} (h : Tz W w b t) (z : Nat × Nat) : Tz W ((w.setCell ⟨W.heap.size + 1 + 1, 0, none⟩ (.int .u64 (z.1 : Int))).setCell ⟨W.heap.size + 1 + 1, 1, none⟩ (.int .u64 (z.2 : Int))) b z :=
  ⟨h.b.keepR (by omega) _ _ _ _, h.r.other (by omega) _ _, h.t.set _ _, below2 (p := W.heap.size + 1 + 1) h.d (by omega) _ _⟩
theorem Tz.new (W : World) (b : Nat × Nat) : Tz W (((W.alloc (Obj.cells #[.int .u64 (b.1 : Int), .int .u64 (b.2 : Int)] 34)).alloc (Obj.cells #[.int .u64 0, .int .u64 0] 34)).alloc (Obj.cells #[.int .u64 0, .int .u64 0] 34)) b (0, 0) := ⟨((El.newR W b _).alloc _).alloc _, ⟨⟨by simp [go_sem], by simp [go_sem]⟩, by simp [go_sem], by simp [go_sem]⟩, ⟨⟨by simp [go_sem], by simp [go_sem]⟩, by simp [go_sem], by simp [go_sem]⟩, (((Below.refl W.heap.size W).alloc (Nat.le_refl _) _).alloc (by simp) _).alloc (by simp; omega) _⟩
set_option maxHeartbeats 20000000 in
set_option maxRecDepth 100000 in
theorem rtot22 (l : Int) (a : Option Addr) (cap : Nat) (cl : List Stp) (b : Nat × Nat) (h10 : cl.length ≤ 100000) (oc : okC cl) (lb : lt2 b) (W : World) (hr : ORow W a cl) :
    Calls Try.prog 12 #[.int .i64 l, .slice a cl.length cap, .agg #[.int .u64 (b.1 : Int), .int .u64 (b.2 : Int)]] W fun e w' => e = .returned (.tuple #[.agg #[.int .u64 ((ttv l cl b).1 : Int), .int .u64 ((ttv l cl b).2 : Int)], .int .i64 (ttE l cl b)]) ∧ Below W.heap.size W w' := by
  have HO := hidC (rof_any l b.1 b.2 lb.1 lb.2)
  have K0 : Hid (Tz W (((W.alloc (Obj.cells #[.int .u64 (b.1 : Int), .int .u64 (b.2 : Int)] 34)).alloc (Obj.cells #[.int .u64 0, .int .u64 0] 34)).alloc (Obj.cells #[.int .u64 0, .int .u64 0] 34)) b (0, 0)) := Tz.new W b
  by_cases hl : 0 ≤ l ∧ l ≤ 7
  · have l0 : ¬ l < 0 := by omega
    have l7 : ¬ 7 < l := by omega
    rcases hob : ofB l (b.1 : Int) (b.2 : Int) with _ | _
    · rw [hob] at HO
      have e1 : ttE l cl b = 5 := by unfold ttE; rw [if_pos hl, if_neg (by rw [hob]; decide)]
      have e2 : ttv l cl b = (0, 0) := by unfold ttv; rw [if_neg (by rw [e1]; decide)]
      rw [e1, e2]
      clear e1 e2 hob hl oc hr h10
      go_enter Try.func12, Try.ntmps12
      go_wp2_with (go_at_call 20; refine (HO.out.go _).mono ?_; rintro e w2 ⟨rfl, hb2⟩; have K2 : Hid (Tz W w2 b (0, 0)) := K0.out.below hb2; clear hb2 K0; obtain ⟨⟨r1, r0⟩, t1, t0⟩ := K2.out.r; obtain ⟨s1, s0⟩ := K2.out.t.toEl)
      refine bodyPost_ret (v := .tuple #[.agg #[.int .u64 0, .int .u64 0], .int .i64 5]) (by simp [results, Try.results12, go_sem, *]) rfl ⟨rfl, by first | exact K2.out.d | exact below2 (p := W.heap.size + 1) K2.out.d (by omega) _ _⟩
    · rw [hob] at HO
      have HOV := hidC (fun (j : Nat) (hj : j < cl.length) => rof_any l (cl.getD j zst).v.1 (cl.getD j zst).v.2 (oc _ (by rw [show cl.getD j zst = cl[j] by simp [hj]]; exact List.getElem_mem hj)).1 (oc _ (by rw [show cl.getD j zst = cl[j] by simp [hj]]; exact List.getElem_mem hj)).2)
      have HE : Hid (ttE l cl b = if (cl.all fun o => ofB l (o.v.1 : Int) (o.v.2 : Int)) = true then 0 else 5) := by show _ = _; unfold ttE; rw [if_pos hl, if_pos hob]
      have HIN : Hid (ORow W a cl ∧ okC cl ∧ lt2 b) := ⟨hr, oc, lb⟩
      clear hr oc hob hl lb
      go_enter Try.func12, Try.ntmps12
      go_wp2_with (go_at_call 20; refine (HO.out.go _).mono ?_; rintro e w2 ⟨rfl, hb2⟩; have K2 : Hid (Tz W w2 b (0, 0)) := K0.out.below hb2; clear hb2 K0)
      go_loopw [9] (fun u wr => ∃ i : Nat, i ≤ cl.length ∧ u = .int .i64 i ∧ Hid ((cl.take i).all (fun o => ofB l (o.v.1 : Int) (o.v.2 : Int)) = true) ∧ Hid (Tz W wr b (0, 0))) (fun u _ => cl.length - (intOf u).toNat)
      case atStart => exact ⟨0, Nat.zero_le _, rfl, (by rfl), K2.out⟩
      case round =>
        obtain ⟨i, hi, rfl, HT, HK⟩ := hrel
        clear K2
        by_cases hlt : i < cl.length
        · have i1 : (i : Int) < (cl.length : Int) := by omega
          have i0' : (0 : Int) ≤ (i : Int) := by omega
          obtain ⟨bb, off, rfl, hbb, d0, d1, d2, d3, d4⟩ := HIN.out.1.cells i hlt
          have D3 := keepc HK.out.d d3
          have D4 := keepc HK.out.d d4
          have H1 := hidC (HOV.out i hlt)
          have HS : Hid (cl.take (i + 1) = cl.take i ++ [cl.getD i zst]) := take_sC cl i hlt
          have HM : Hid (cl.getD i zst ∈ cl) := by show _ ∈ _; rw [show cl.getD i zst = cl[i] by simp [hlt]]; exact List.getElem_mem hlt
          clear d0 d1 d2 d3 d4 hbb HOV
          generalize cl.getD i zst = o at *
          obtain ⟨k, ki, s, v⟩ := o
          dsimp only at *
          rcases hov : ofB l (v.1 : Int) (v.2 : Int) with _ | _
          · rw [hov] at H1
            have e1 : Hid (ttE l cl b = 5) := by
              show _ = _
              rw [HE.out, if_neg]
              rw [Bool.not_eq_true, List.all_eq_false]
              exact ⟨_, HM.out, by rw [hov]; decide⟩
            have e2 : Hid (ttv l cl b = (0, 0)) := by show _ = _; unfold ttv; rw [if_neg (by rw [e1.out]; decide)]
            go_wp2_with (go_at_call 20; refine (H1.out.go _).mono ?_; rintro e w4 ⟨rfl, hb4⟩; have K4 : Hid (Tz W w4 b (0, 0)) := (by first | exact HK.out.below hb4 | exact HK.out.drew.below hb4); clear hb4 HK D3 D4; obtain ⟨⟨r1, r0⟩, t1, t0⟩ := K4.out.r; obtain ⟨s1, s0⟩ := K4.out.t.toEl)
            refine bodyPost_ret (v := .tuple #[.agg #[.int .u64 0, .int .u64 0], .int .i64 5]) (by simp [results, Try.results12, go_sem, *]) rfl ⟨by rw [e1.out, e2.out]; rfl, by first | exact K4.out.d | exact below2 (p := W.heap.size + 1) K4.out.d (by omega) _ _⟩
          · rw [hov] at H1
            have HT2 : Hid ((cl.take (i + 1)).all (fun o => ofB l (o.v.1 : Int) (o.v.2 : Int)) = true) := by show _ = _; rw [HS.out, List.all_append, HT.out]; simp [hov]
            clear HT HS HM
            go_wp2_with (go_at_call 20; refine (H1.out.go _).mono ?_; rintro e w4 ⟨rfl, hb4⟩; have K4 : Hid (Tz W w4 b (0, 0)) := (by first | exact HK.out.below hb4 | exact HK.out.drew.below hb4); clear hb4 HK D3 D4)
            exact ⟨⟨i + 1, hlt, by simp, HT2, K4⟩, by simp [intOf]; omega⟩
        · obtain rfl : i = cl.length := by omega
          have e1 : Hid (ttE l cl b = 0) := by
            have h := HT.out
            rw [List.take_of_length_le (Nat.le_refl _)] at h
            show _ = _
            rw [HE.out, if_pos h]
          have e2 : Hid (ttv l cl b = hz b cl) := by show _ = _; unfold ttv; rw [if_pos e1.out, hz_tts b HIN.out.2.2 cl HIN.out.2.1]
          clear HT HE HOV HO
          go_wp2_with fail
          go_loopw [10] (fun u wr => ∃ j : Nat, j ≤ cl.length ∧ u = .int .i64 ((j : Int) - 1) ∧ Hid (Tz W wr b (hz b (cl.drop j)))) (fun u _ => (intOf u + 1).toNat)
          case atStart => exact ⟨cl.length, Nat.le_refl _, rfl, by rw [List.drop_of_length_le (Nat.le_refl _)]; exact HK⟩
          case round =>
            obtain ⟨j, hj, rfl, HK⟩ := hrel
            rcases j with _ | j
            · rw [List.drop_zero] at HK
              obtain ⟨t, ht⟩ : ∃ t, t = hz b cl := ⟨_, rfl⟩
              rw [← ht] at e2 HK
              obtain ⟨⟨r1, r0⟩, z1, z0⟩ := HK.out.r
              obtain ⟨⟨c1, c0⟩, _, _⟩ := HK.out.t
              have HDD := hidC HK.out.d
              clear HK ht HIN
              go_wp2
              refine bodyPost_ret (v := .tuple #[.agg #[.int .u64 (t.1 : Int), .int .u64 (t.2 : Int)], .int .i64 0]) (by simp [results, Try.results12, go_sem, *]) rfl ⟨by rw [e1.out, e2.out], below2 (p := W.heap.size + 1) HDD.out (by omega) _ _⟩
            · have hlt : j < cl.length := by omega
              have ej : ((j + 1 : Nat) : Int) - 1 = (j : Int) := by omega
              rw [ej]
              have j1 : (j : Int) < (cl.length : Int) := by omega
              have j0' : (0 : Int) ≤ (j : Int) := by omega
              obtain ⟨bb, off, rfl, hbb, d0, d1, d2, d3, d4⟩ := HIN.out.1.cells j hlt
              have D3 := keepc HK.out.d d3
              have D4 := keepc HK.out.d d4
              have HNX : Hid (hz b (cl.drop j) = xa (pm (hz b (cl.drop (j + 1))) b) (cl.getD j zst).v) := by show _ = _; rw [drop_st cl j hlt]; rfl
              have hvl : lt2 (cl.getD j zst).v := HIN.out.2.1 _ (by rw [show cl.getD j zst = cl[j] by simp [hlt]]; exact List.getElem_mem hlt)
              have MU := hidC (rprod (hz b (cl.drop (j + 1))) b (lt_hz b _ (okC_drop HIN.out.2.1 _)) HIN.out.2.2)
              have AD := hidC (rsum (pm (hz b (cl.drop (j + 1))) b) (cl.getD j zst).v (lt_pm _ _) hvl)
              rw [← HNX.out] at AD
              clear d0 d1 d2 d3 d4 hbb HNX hvl ej
              generalize cl.getD j zst = o at *
              obtain ⟨k, ki, s, v⟩ := o
              dsimp only at *
              obtain ⟨t', ht'⟩ : ∃ t', t' = hz b (cl.drop j) := ⟨_, rfl⟩
              rw [← ht'] at AD
              have HT' := hidC ht'
              clear ht'
              generalize hz b (cl.drop (j + 1)) = t at *
              generalize pm t b = y at *
              go_upto_region 14 with fail
              have K : Tz W wr b t := HK.out
              have VX : wr.cell? ⟨bb, off + j * 5 + 3, none⟩ = some (.int .u64 (v.1 : Int)) ∧ wr.cell? ⟨bb, off + j * 5 + 4, none⟩ = some (.int .u64 (v.2 : Int)) := ⟨D3, D4⟩
              clear HK D3 D4
              refine wp_region_noPanic ?_
              refine wp_region_peel (S := fun w => (w.cell? ⟨W.heap.size + 1 + 1, 0, none⟩ = some (.int .u64 (t.1 : Int)) ∧ w.cell? ⟨W.heap.size + 1 + 1, 1, none⟩ = some (.int .u64 (t.2 : Int))) ∧ (w.cell? ⟨W.heap.size, 0, none⟩ = some (.int .u64 (b.1 : Int)) ∧ w.cell? ⟨W.heap.size, 1, none⟩ = some (.int .u64 (b.2 : Int))) ∧ w.cell? ⟨bb, off + j * 5 + 3, none⟩ = some (.int .u64 (v.1 : Int)) ∧ w.cell? ⟨bb, off + j * 5 + 4, none⟩ = some (.int .u64 (v.2 : Int))) 9 (by kernel_rfl) rfl (by kernel_rfl) ?_ (fun hHeld => ?_)
              · exact ⟨⟨K.t.hi, K.t.lo⟩, ⟨K.b.hi, K.b.lo⟩, by first | exact VX.1 | (have h := VX.1; simpa using h), by first | exact VX.2 | (have h := VX.2; simpa using h)⟩
              refine wpAnyH_take (i := 0) (oi := _) (v := ?_) rfl (by kernel_rfl) (by kernel_rfl) (by kernel_rfl) (fun _ _ _ h => h) (Or.inl ⟨by rfl, ?_⟩) (by assumption) ?_
              rotate_left
              · ((intro w hSw; (try dsimp only at hSw); go_simp) <;> (try with_reducible rfl))
              try simp only [Act.put]
              refine wpAnyH_take (i := 1) (oi := _) (v := ?_) rfl (by kernel_rfl) (by kernel_rfl) (by kernel_rfl) (fun _ _ _ h => h) (Or.inl ⟨by rfl, ?_⟩) (by assumption) ?_
              rotate_left
              · ((intro w hSw; (try dsimp only at hSw); go_simp) <;> (try with_reducible rfl))
              try simp only [Act.put]
              refine wpAnyH_take (i := 3) (oi := _) (v := ?_) rfl (by kernel_rfl) (by kernel_rfl) (by kernel_rfl) (fun _ _ _ h => h) (Or.inl ⟨by rfl, ?_⟩) (by assumption) ?_
              rotate_left
              · ((intro w hSw; (try dsimp only at hSw); go_simp) <;> (try with_reducible rfl))
              try simp only [Act.put]
              refine wpAnyH_take (i := 4) (oi := _) (v := ?_) rfl (by kernel_rfl) (by kernel_rfl) (by kernel_rfl) (fun _ _ _ h => h) (Or.inl ⟨by rfl, ?_⟩) (by assumption) ?_
              rotate_left
              · ((intro w hSw; (try dsimp only at hSw); go_simp) <;> (try with_reducible rfl))
              try simp only [Act.put]
              refine wpAnyH_take (i := 5) (oi := _) (v := ?_) rfl (by kernel_rfl) (by kernel_rfl) (by kernel_rfl) (fun _ _ _ h => h) (Or.inl ⟨by rfl, ?_⟩) (by assumption) ?_
              rotate_left
              · ((intro w hSw; (try dsimp only at hSw); go_simp) <;> (try with_reducible rfl))
              try simp only [Act.put]
              refine wpAnyH_take (i := 6) (oi := _) (v := ?_) rfl (by kernel_rfl) (by kernel_rfl) (by kernel_rfl) (fun _ _ _ h => h) (Or.inl ⟨by rfl, ?_⟩) (by assumption) ?_
              rotate_left
              · ((intro w hSw; (try dsimp only at hSw); go_simp) <;> (try with_reducible rfl))
              try simp only [Act.put]
              refine wpAnyH_take (i := 7) (oi := _) (v := ?_) rfl (by kernel_rfl) (by kernel_rfl) (by kernel_rfl) (fun _ _ _ h => h) (Or.inl ⟨by rfl, ?_⟩) (by assumption) ?_
              rotate_left
              · ((intro w hSw; (try dsimp only at hSw); go_simp) <;> (try with_reducible rfl))
              try simp only [Act.put]
              refine wpAnyH_ready (rs := [2]) (by kernel_rfl) (by simp) ?_
              refine AllReadyH.cons (o := _) rfl (fun KK hKK => ?_) AllReadyH.nil
              go_simp
              (go_at_call 39; refine (MU.out.go _).mono ?_; rintro e w' ⟨rfl, hb'⟩)
              have VX' : w'.cell? ⟨bb, off + j * 5 + 3, none⟩ = some (.int .u64 (v.1 : Int)) ∧ w'.cell? ⟨bb, off + j * 5 + 4, none⟩ = some (.int .u64 (v.2 : Int)) := ⟨by first | exact keepc hb' VX.1 | exact keepc hb' (by have h := VX.1; simpa using h), by first | exact keepc hb' VX.2 | exact keepc hb' (by have h := VX.2; simpa using h)⟩
              have K'' := Tz.below (w' := w') (by first | exact K | exact K.drew) hb'
              clear K hb' VX
              have K := K''
              have VX := VX'
              clear K'' VX'
              (try simp only [World.size_drew] at K)
              refine hKK.out _ _ ?_ (fun hHeld => ?_)
              · exact ⟨⟨K.t.hi, K.t.lo⟩, ⟨K.b.hi, K.b.lo⟩, by first | exact VX.1 | (have h := VX.1; simpa using h), by first | exact VX.2 | (have h := VX.2; simpa using h)⟩
              clear hKK KK
              try simp only [Act.put]
              refine wpAnyH_ready (rs := [8]) (by kernel_rfl) (by simp) ?_
              refine AllReadyH.cons (o := _) rfl (fun KK hKK => ?_) AllReadyH.nil
              go_simp
              (go_at_call 38; refine (AD.out.go _).mono ?_; rintro e w' ⟨rfl, hb'⟩)
              have VX' : w'.cell? ⟨bb, off + j * 5 + 3, none⟩ = some (.int .u64 (v.1 : Int)) ∧ w'.cell? ⟨bb, off + j * 5 + 4, none⟩ = some (.int .u64 (v.2 : Int)) := ⟨by first | exact keepc hb' VX.1 | exact keepc hb' (by have h := VX.1; simpa using h), by first | exact keepc hb' VX.2 | exact keepc hb' (by have h := VX.2; simpa using h)⟩
              have K'' := Tz.below (w' := w') (by first | exact K | exact K.drew) hb'
              clear K hb' VX
              have K := K''
              have VX := VX'
              clear K'' VX'
              (try simp only [World.size_drew] at K)
              refine hKK.out _ _ ?_ (fun hHeld => ?_)
              · exact ⟨⟨K.t.hi, K.t.lo⟩, ⟨K.b.hi, K.b.lo⟩, by first | exact VX.1 | (have h := VX.1; simpa using h), by first | exact VX.2 | (have h := VX.2; simpa using h)⟩
              clear hKK KK
              try simp only [Act.put]
              refine wpAnyH_done (by kernel_rfl) ?_ _
              refine peel_last rfl (fun KK hKK => ?_)
              clear hHeld
              obtain ⟨r1, r0⟩ := K.t.toEl
              have f1 := K.t.fhi
              have f0 := K.t.flo
              go_simp
              refine hKK _ _ ?_
              refine NoPanic.normal ?_
              clear hKK KK
              have K2 : Hid (Tz W ((w'.setCell ⟨W.heap.size + 1 + 1, 0, none⟩ (.int .u64 (t'.1 : Int))).setCell ⟨W.heap.size + 1 + 1, 1, none⟩ (.int .u64 (t'.2 : Int))) b t') := K.put t'
              clear K r1 r0 f1 f0 VX
              go_wp2
              refine ⟨⟨j, by omega, rfl, ?_⟩, by simp [intOf]⟩
              rw [← HT'.out]
              exact K2
  · have e1 : ttE l cl b = 1 := by unfold ttE; rw [if_neg hl]
    have e2 : ttv l cl b = (0, 0) := by unfold ttv; rw [if_neg (by rw [e1]; decide)]
    rw [e1, e2]
    clear e1 e2 oc hr h10
    obtain ⟨⟨r1, r0⟩, t1, t0⟩ := K0.out.r
    obtain ⟨s1, s0⟩ := K0.out.t.toEl
    by_cases l0 : l < 0
    · clear hl
      go_enter Try.func12, Try.ntmps12
      go_wp2
      refine bodyPost_ret (v := .tuple #[.agg #[.int .u64 0, .int .u64 0], .int .i64 1]) (by simp [results, Try.results12, go_sem, *]) rfl ⟨rfl, by first | exact K0.out.d | exact below2 (p := W.heap.size + 1) K0.out.d (by omega) _ _⟩
    · have l7 : 7 < l := by omega
      clear hl
      go_enter Try.func12, Try.ntmps12
      go_wp2
      refine bodyPost_ret (v := .tuple #[.agg #[.int .u64 0, .int .u64 0], .int .i64 1]) (by simp [results, Try.results12, go_sem, *]) rfl ⟨rfl, by first | exact K0.out.d | exact below2 (p := W.heap.size + 1) K0.out.d (by omega) _ _⟩
end Go.Proofs.Ytejoombhcnldmaa
