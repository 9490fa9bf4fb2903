/- OctetOne over the seat's translation. -/
import Derived.Test.YteejjgcfdndnpaaOrG
import Derived.Test.YteejjgcfdndnpaaOctN
import Derived.Test.YteejjgcfdndnpaaPeel
import Derived.BigQuiet
namespace Go.Proofs.Yteejjgcfdndnpaa
open Go.RowKit

theorem below_drewR {B : Nat} {w w' : World} (h : Below B w w') (k : Nat) : Below B w (w'.drewN k) := ⟨h.os, h.tape, h.output, h.size, h.block⟩
theorem num_front (s : ByteArray) (m : Int) (h : (rdNum s 0 m).2.1 = 0) : 4 ≤ s.size ∧ numS (rdNum s 0 m).2.2 = s.extract 0 4 := by
  obtain ⟨h4, _, e⟩ := rdNum_back s m h
  have hr : (rdNum s 0 m).1 = s.extract 4 s.size := by
    unfold rdNum at h ⊢
    rw [if_pos rfl] at h ⊢
    rw [if_neg (by omega)] at h ⊢
    by_cases hm : 2147483647 < val4 s ∨ m < val4 s
    · rw [if_pos hm] at h; cases h
    · rw [if_neg hm]
  have f := front e
  rw [hr, ByteArray.size_extract, show s.size - (min s.size s.size - 4) = 4 by omega] at f
  exact ⟨h4, f.symm⟩
set_option maxHeartbeats 20000000 in
set_option maxRecDepth 100000 in
theorem oo_any (s : ByteArray) (l : Int) (W : World) : Calls Try.prog 6 #[.string s, .int .i64 l] W fun e w' => e = .returned (.bool true) ∧ Below W.heap.size W w' := by
  have AW := hidR awake_any
  by_cases h3 : 3000 < s.size
  · have q3 : (3000 : Int) < (s.size : Int) := by omega
    clear h3
    go_enter Try.func6, Try.ntmps6
    go_wp2_with (go_at_call 7; refine (AW.out _).mono ?_; rintro e w1 ⟨rfl, hb1⟩)
    go_ret
    exact ⟨rfl, hb1⟩
  · have q3 : ¬ (3000 : Int) < (s.size : Int) := by omega
    have HRD := hidR (fun v => read_any s v)
    have H1 := hidR (fun (v : World) (b : Nat) (hv : Rd b s 0 v) => rd_num b s 0 1048576 v hv)
    have H2 := hidR (fun (v : World) (b : Nat) (hv : Rd b s 0 v) => rd_list b s 0 200 3000 v hv)
    have H3 := hidR (fun (v : World) (b : Nat) (hv : Rd b s 0 v) => rd_elems b s 0 l 200 v hv)
    have F1 := hidR (num_front s 1048576)
    have F2 := hidR (rdList_back s 200 3000)
    have F3 := hidR (rdElems_back s l 200)
    have HNM := hidR (fun n v => num_any n v)
    generalize rdNum s 0 1048576 = q at *
    generalize rdList s 0 200 3000 = R at *
    generalize rdElems s 0 l 200 = P at *
    obtain ⟨q1, q2, q4⟩ := q
    obtain ⟨R1, R2, R3⟩ := R
    obtain ⟨P1, P2, P3⟩ := P
    dsimp only at *
    go_enter Try.func6, Try.ntmps6
    go_upto_region 5 with (first
      | (go_at_call 7; refine (AW.out _).mono ?_; rintro e w1 ⟨rfl, hb1⟩; have K1 : Hid (Below W.heap.size W w1) := hb1; clear hb1)
      | (go_at_call 17; refine (HRD.out _).mono ?_; rintro r w2 ⟨rfl, rfl⟩)
      | (go_at_call 27; refine (H1.out _ _ (rd_new s w1)).mono ?_; rintro r w3 ⟨rfl, st3⟩; have K3 : Hid (Below W.heap.size W w3 ∧ Rd w1.heap.size q1 q2 w3) := ⟨K1.out.trans ((Step.fresh st3).mono K1.out.size), st3.here⟩; clear st3 K1))
    go_cut [30] (fun p wx => p = .bool false ∧ Hid (Below W.heap.size W wx))
    case first =>
      have HF := hidR (fun v (hv : Rd w1.heap.size q1 q2 v) => rd_Fail w1.heap.size q1 q2 v hv)
      by_cases hq : q2 = 0
      · subst hq
        obtain ⟨h4, hE⟩ := F1.out rfl
        have h4' : (4 : Int) ≤ (s.size : Int) := by omega
        have HN := hidR (fun v => HNM.out q4 v)
        rw [hE] at HN
        clear hE
        refine wp_region_noPanic ?_
        refine wp_region_peel (S := fun _ => True) 9 (by kernel_rfl) rfl (by kernel_rfl) trivial (fun hHeld => ?_)
        refine wpAnyH_take (i := 0) (oi := _) (v := ?_) rfl (by kernel_rfl) (by kernel_rfl) (by kernel_rfl) (fun _ _ _ h => h) (Or.inl ⟨by rfl, ?_⟩) (by assumption) ?_
        rotate_left
        · ((intro w hSw; (try dsimp only at hSw); go_simp) <;> (try with_reducible rfl))
        show wpAnyH _ _ _ _ _ _ _ (Act.put _ (some 21) _) _
        simp only [Act.put, List.setIfInBounds_toArray, List.set_cons_succ, List.set_cons_zero]
        refine wpAnyH_ready (rs := [1]) (by kernel_rfl) (by simp) ?_
        refine AllReadyH.cons (o := _) rfl (fun KK hKK => ?_) AllReadyH.nil
        go_simp
        (go_at_call 19; refine (HF.out _ (by first | exact K3.out.2 | exact K3.out.2)).mono ?_; rintro r w4 ⟨rfl, rfl⟩)
        refine hKK.out _ _ trivial (fun hHeld => ?_)
        clear hKK KK
        try simp only [Act.put]
        refine wpAnyH_take (i := 2) (oi := _) (v := ?_) rfl (by kernel_rfl) (by kernel_rfl) (by kernel_rfl) (fun _ _ _ h => h) (Or.inl ⟨by rfl, ?_⟩) (by assumption) ?_
        rotate_left
        · ((intro w hSw; (try dsimp only at hSw); go_simp) <;> (try with_reducible rfl))
        show wpAnyH _ _ _ _ _ _ _ (Act.put _ (some 23) _) _
        simp only [Act.put, List.setIfInBounds_toArray, List.set_cons_succ, List.set_cons_zero]
        refine wpAnyH_take (i := 3) (oi := _) (v := ?_) rfl (by kernel_rfl) (by kernel_rfl) (by kernel_rfl) (fun _ _ _ h => h) (Or.inl ⟨by rfl, ?_⟩) (by assumption) ?_
        rotate_left
        · ((intro w hSw; (try dsimp only at hSw); go_simp) <;> (try with_reducible rfl))
        show wpAnyH _ _ _ _ _ _ _ (Act.put _ (some 24) _) _
        simp only [Act.put, List.setIfInBounds_toArray, List.set_cons_succ, List.set_cons_zero]
        refine wpAnyH_take (i := 4) (oi := _) (v := ?_) rfl (by kernel_rfl) (by kernel_rfl) (by kernel_rfl) (fun _ _ _ h => h) (Or.inl ⟨by rfl, ?_⟩) (by assumption) ?_
        rotate_left
        · ((intro w hSw; (try dsimp only at hSw); go_simp) <;> (try with_reducible rfl))
        show wpAnyH _ _ _ _ _ _ _ (Act.put _ (some 25) _) _
        simp only [Act.put, List.setIfInBounds_toArray, List.set_cons_succ, List.set_cons_zero]
        refine wpAnyH_take (i := 6) (oi := _) (v := ?_) rfl (by kernel_rfl) (by kernel_rfl) (by kernel_rfl) (fun _ _ _ h => h) (Or.inl ⟨by rfl, ?_⟩) (by assumption) ?_
        rotate_left
        · ((intro w hSw; (try dsimp only at hSw); go_simp) <;> (try with_reducible rfl))
        show wpAnyH _ _ _ _ _ _ _ (Act.put _ (some 27) _) _
        simp only [Act.put, List.setIfInBounds_toArray, List.set_cons_succ, List.set_cons_zero]
        refine wpAnyH_take (i := 7) (oi := _) (v := ?_) rfl (by kernel_rfl) (by kernel_rfl) (by kernel_rfl) (fun _ _ _ h => h) (Or.inl ⟨by rfl, ?_⟩) (by assumption) ?_
        rotate_left
        · ((intro w hSw; (try dsimp only at hSw); go_simp) <;> (try with_reducible rfl))
        show wpAnyH _ _ _ _ _ _ _ (Act.put _ (some 28) _) _
        simp only [Act.put, List.setIfInBounds_toArray, List.set_cons_succ, List.set_cons_zero]
        refine wpAnyH_ready (rs := [5]) (by kernel_rfl) (by simp) ?_
        refine AllReadyH.cons (o := _) rfl (fun KK hKK => ?_) AllReadyH.nil
        go_simp
        (go_at_call 24; refine (HN.out _).mono ?_; rintro r w5 ⟨rfl, hb5⟩)
        refine hKK.out _ _ trivial (fun hHeld => ?_)
        clear hKK KK
        try simp only [Act.put]
        refine wpAnyH_take (i := 8) (oi := _) (v := ?_) rfl (by kernel_rfl) (by kernel_rfl) (by kernel_rfl) (fun _ _ _ h => h) (Or.inl ⟨by rfl, ?_⟩) (by assumption) ?_
        rotate_left
        · ((intro w hSw; (try dsimp only at hSw); go_simp) <;> (try with_reducible rfl))
        show wpAnyH _ _ _ _ _ _ _ (Act.put _ (some 29) _) _
        simp only [Act.put, List.setIfInBounds_toArray, List.set_cons_succ, List.set_cons_zero]
        refine wpAnyH_done (by kernel_rfl) ?_ _
        refine peel_last rfl (fun KK hKK => ?_)
        clear hHeld
        go_simp
        refine hKK _ _ ?_
        refine NoPanic.normal ?_
        go_wp2_with fail
        go_meet
        refine ⟨rfl, ?_⟩
        first
          | exact K3.out.1.trans (hb5.mono K3.out.1.size)
          | exact K3.out.1.drew.trans (hb5.mono K3.out.1.drew.size)
      · have hd : decide (q2 = 0) = false := decide_eq_false hq
        have hd2 : (q2 == 0) = false := by rw [beq_eq_false_iff_ne]; exact hq
        go_quiet ((go_at_call 19; exact Calls.quiet_of_same (HF.out _ K3.out.2)))
        go_wp2_with fail
        go_meet
        exact ⟨rfl, below_drewR K3.out.1 _⟩
    case rest =>
      obtain ⟨rfl, K⟩ := hcut
      clear K3 H1 F1 HNM
      go_upto_region 9 with (first
        | (go_at_call 17; refine (HRD.out _).mono ?_; rintro r w5 ⟨rfl, rfl⟩)
        | (go_at_call 28; refine (H2.out _ _ (rd_new s wc)).mono ?_; rintro r w6 ⟨v, rfl, TX, st6⟩; have K6 : Hid (Below W.heap.size W w6 ∧ Rd wc.heap.size R1 R2 w6 ∧ TxS w6 v R3) := ⟨K.out.trans ((Step.fresh st6).mono K.out.size), st6.here, TX⟩; clear st6 TX K))
      obtain ⟨b6, hb6⟩ : ∃ b6, b6 = wc.heap.size := ⟨_, rfl⟩
      rw [← hb6] at K6 ⊢
      clear hb6
      go_cut [49] (fun p wx => p = .bool false ∧ Hid (Below W.heap.size W wx))
      case first =>
        have HF := hidR (fun v (hv : Rd b6 R1 R2 v) => rd_Fail b6 R1 R2 v hv)
        have HLf := hidR (fun v (hv : Rd b6 R1 R2 v) => rd_Left b6 R1 R2 v hv)
        by_cases hR : R2 = 0
        · subst hR
          obtain ⟨ss, rfl, hl, hsz, hE⟩ := F2.out rfl
          have TX : ∃ a cap, v = .slice a ss.length cap ∧ StrRow w6 a ss := K6.out.2.2
          obtain ⟨a, cap, rfl, SR⟩ := TX
          have HLi := hidR (list_any a ss cap (by omega) (fun t ht => by have := hsz t ht; omega) w6 SR)
          have hfr := front (a := ⟨(listL ss).toArray⟩) hE
          have hle : R1.size ≤ s.size := by rw [← data_size, ← data_size, hE, List.length_append]; omega
          rw [← hfr] at HLi
          obtain ⟨n, hn⟩ : ∃ n, n = s.size - R1.size := ⟨_, rfl⟩
          have en : IntKind.i64.wrap ((s.size : Int) - (R1.size : Int)) = (n : Int) := by rw [IntKind.wrap_i64]; omega
          have hns : n ≤ s.size := by omega
          have hns2 : (n : Int) ≤ (s.size : Int) := by omega
          rw [← hn] at HLi
          clear hn hle hfr hE hsz hl SR
          generalize ss.length = LL at *
          have KR : Hid (Below W.heap.size W w6 ∧ Rd b6 R1 0 w6) := ⟨K6.out.1, K6.out.2.1⟩
          clear K6
          go_wp2_with (first
            | (go_at_call 19; refine (HF.out _ KR.out.2).mono ?_; rintro r w7 ⟨rfl, rfl⟩)
            | (go_at_call 25; refine HLi.out.mono ?_; rintro r w8 ⟨rfl, hb8⟩; have K8 : Hid (Below W.heap.size W w8 ∧ Rd b6 R1 0 w8) := ⟨KR.out.1.trans (hb8.mono KR.out.1.size), KR.out.2.below hb8⟩; clear hb8 KR)
            | (go_at_call 20; refine (HLf.out _ K8.out.2).mono ?_; rintro r w9 ⟨rfl, rfl⟩))
          go_meet
          exact ⟨by simp, K8.out.1⟩
        · have hd2 : (R2 == 0) = false := by rw [beq_eq_false_iff_ne]; exact hR
          go_wp2_with (go_at_call 19; refine (HF.out _ K6.out.2.1).mono ?_; rintro r w7 ⟨rfl, rfl⟩)
          go_meet
          exact ⟨rfl, K6.out.1⟩
      case rest =>
        obtain ⟨rfl, K⟩ := hcut
        clear K6 H2 F2
        go_upto_region 13 with (first
          | (go_at_call 17; refine (HRD.out _).mono ?_; rintro r w5 ⟨rfl, rfl⟩)
          | (go_at_call 29; refine (H3.out _ _ (rd_new s wc)).mono ?_; rintro r w6 ⟨v, rfl, TX, st6⟩; have K6 : Hid (Below W.heap.size W w6 ∧ Rd wc.heap.size P1 P2 w6 ∧ ElS w6 v P3) := ⟨K.out.trans ((Step.fresh st6).mono K.out.size), st6.here, TX⟩; clear st6 TX K))
        obtain ⟨b7, hb7⟩ : ∃ b7, b7 = wc.heap.size := ⟨_, rfl⟩
        rw [← hb7] at K6 ⊢
        clear hb7
        have HF := hidR (fun v (hv : Rd b7 P1 P2 v) => rd_Fail b7 P1 P2 v hv)
        have HLf := hidR (fun v (hv : Rd b7 P1 P2 v) => rd_Left b7 P1 P2 v hv)
        by_cases hP : P2 = 0
        · subst hP
          obtain ⟨es, rfl, hl, hlt, hE⟩ := F3.out rfl
          have TX : ∃ a cap, v = .slice a es.length cap ∧ ERow w6 a es := K6.out.2.2
          obtain ⟨a, cap, rfl, SR⟩ := TX
          have HLi := hidR (oelems l a cap es.length es rfl hlt (by omega) w6 SR)
          have hfr := front hE
          have hle : P1.size ≤ s.size := by rw [← data_size, ← data_size, hE, List.length_append]; omega
          rw [← hfr] at HLi
          obtain ⟨n, hn⟩ : ∃ n, n = s.size - P1.size := ⟨_, rfl⟩
          have en : IntKind.i64.wrap ((s.size : Int) - (P1.size : Int)) = (n : Int) := by rw [IntKind.wrap_i64]; omega
          have hns : n ≤ s.size := by omega
          have hns2 : (n : Int) ≤ (s.size : Int) := by omega
          rw [← hn] at HLi
          clear hn hle hfr hE hlt hl SR
          generalize es.length = LL at *
          have KR : Hid (Below W.heap.size W w6 ∧ Rd b7 P1 0 w6) := ⟨K6.out.1, K6.out.2.1⟩
          clear K6
          go_wp2_with (first
            | (go_at_call 19; refine (HF.out _ KR.out.2).mono ?_; rintro r w7 ⟨rfl, rfl⟩)
            | (go_at_call 14; refine HLi.out.mono ?_; rintro r w8 ⟨rfl, hb8⟩; have K8 : Hid (Below W.heap.size W w8 ∧ Rd b7 P1 0 w8) := ⟨KR.out.1.trans (hb8.mono KR.out.1.size), KR.out.2.below hb8⟩; clear hb8 KR)
            | (go_at_call 20; refine (HLf.out _ K8.out.2).mono ?_; rintro r w9 ⟨rfl, rfl⟩))
          go_ret
          exact ⟨by simp, K8.out.1⟩
        · have hd2 : (P2 == 0) = false := by rw [beq_eq_false_iff_ne]; exact hP
          go_wp2_with (go_at_call 19; refine (HF.out _ K6.out.2.1).mono ?_; rintro r w7 ⟨rfl, rfl⟩)
          go_ret
          exact ⟨by simp, K6.out.1⟩
end Go.Proofs.Yteejjgcfdndnpaa
