/- OctetElems over the seat's translation. -/
import Derived.Test.YteejjgcfdndnpaaOeC
import Derived.Test.YteejjgcfdndnpaaOctN
import Derived.Test.YteejjgcfdndnpaaPeel
namespace Go.Proofs.Yteejjgcfdndnpaa
open Go.RowKit

set_option maxHeartbeats 20000000 in
set_option maxRecDepth 100000 in
theorem oe_any (l : Int) (a : Option Addr) (cap L : Nat) (es : List (Nat × Nat)) (hL : es.length = L) (hes : ltE es) (W : World) (hr : ERow W a es) :
    Calls Try.prog 3 #[.int .i64 l, .slice a L cap] W fun e w' => e = .returned (.bool true) ∧ Below W.heap.size W w' := by
  have AW := hidE awake_any
  by_cases h50 : 50 < L
  · have q50 : (50 : Int) < (L : Int) := by omega
    clear h50 hr hes hL
    go_enter Try.func3, Try.ntmps3
    go_wp2_with (go_at_call 7; refine (AW.out _).mono ?_; rintro e w1 ⟨rfl, hb1⟩)
    go_ret
    exact ⟨rfl, hb1⟩
  · have q50 : ¬ (50 : Int) < (L : Int) := by omega
    have HR : Hid (ERow W a es ∧ es.length = L ∧ ltE es) := ⟨hr, hL, hes⟩
    have HW1 := hidE (fun v => wide_any l v)
    have HW2 := hidE (fun v => rwide l v)
    have HE1 := hidE (fun (v : World) (hb : Below W.heap.size W v) => oelems l a cap L es hL hes (by omega) v (hr.below hb))
    have HRf := hidE (fun (v : World) (hb : Below W.heap.size W v) => ref_row a cap es (by omega) v (hr.below hb))
    rw [hL] at HRf
    have HE2 := hidE (fun (v : World) (a' : Option Addr) (c' : Nat) (h : ERow v a' es) => relems l a' c' L es hL hes (by omega) v h)
    clear h50 hr hes hL
    go_enter Try.func3, Try.ntmps3
    go_wp2_with fail
    go_loopw [5] (fun u wr => ∃ k : Nat, k ≤ L ∧ u = .int .i64 k ∧ Hid (Below W.heap.size W wr)) (fun u _ => L - (intOf u).toNat)
    case atStart => exact ⟨0, Nat.zero_le _, rfl, Below.refl _ _⟩
    case round =>
      obtain ⟨k, hk, rfl, HK⟩ := hrel
      by_cases hlt : k < L
      · have k1 : (k : Int) < (L : Int) := by omega
        have k0 : (0 : Int) ≤ (k : Int) := by omega
        obtain ⟨b0, o0, rfl, hb0, d1, d0⟩ := HR.out.1.cells k (by rw [HR.out.2.1]; exact hlt)
        have D1 := keepc HK.out d1
        have D0 := keepc HK.out d0
        obtain ⟨hlt3, hlt4⟩ := HR.out.2.2.at k
        clear d1 d0 hb0
        generalize es.getD k (0, 0) = e at *
        obtain ⟨hi, lo⟩ := e
        dsimp only at *
        have H1 := hidE (fun v => of_any l (hi : Int) (lo : Int) (by omega) (by omega) v)
        have H2 := hidE (rof_any l hi lo hlt3 hlt4)
        have H3 := hidE (fun v => elem_any l (hi : Int) (lo : Int) (by omega) (by omega) (by omega) (by omega) v)
        have H4 := hidE (fun v => rbytes l hi lo hlt3 hlt4 v)
        generalize elemS l (hi : Int) (lo : Int) = el at *
        generalize ofB l (hi : Int) (lo : Int) = q at *
        go_upto_region 7 with fail
        have K : Below W.heap.size W (wr.alloc (Obj.cells #[.int .u64 (hi : Int), .int .u64 (lo : Int)] 26)) := HK.out.alloc HK.out.size _
        have X1 : (wr.alloc (Obj.cells #[.int .u64 (hi : Int), .int .u64 (lo : Int)] 26)).cell? ⟨wr.heap.size, 0, none⟩ = some (.int .u64 (hi : Int)) := by simp [go_sem]
        have X0 : (wr.alloc (Obj.cells #[.int .u64 (hi : Int), .int .u64 (lo : Int)] 26)).cell? ⟨wr.heap.size, 1, none⟩ = some (.int .u64 (lo : Int)) := by simp [go_sem]
        have hbb : Below wr.heap.size wr (wr.alloc (Obj.cells #[.int .u64 (hi : Int), .int .u64 (lo : Int)] 26)) := (Below.refl _ _).alloc (Nat.le_refl _) _
        have D1' := keepc hbb D1
        have D0' := keepc hbb D0
        clear HK D1 D0 hbb
        have D1 := D1'
        have D0 := D0'
        clear D1' D0'
        generalize (wr.alloc (Obj.cells #[.int .u64 (hi : Int), .int .u64 (lo : Int)] 26)) = wz at *
        generalize wr.heap.size = qx at *
        refine wp_region_noPanic ?_
        refine wp_region_peel (S := fun x => (x.cell? ⟨b0, o0 + k * 2, none⟩ = some (.int .u64 (hi : Int)) ∧ x.cell? ⟨b0, o0 + k * 2 + 1, none⟩ = some (.int .u64 (lo : Int))) ∧ x.cell? ⟨qx, 0, none⟩ = some (.int .u64 (hi : Int)) ∧ x.cell? ⟨qx, 1, none⟩ = some (.int .u64 (lo : Int))) 21 (by kernel_rfl) rfl (by kernel_rfl) ?_ (fun hHeld => ?_)
        · exact ⟨⟨D1, D0⟩, X1, X0⟩
        refine wpAnyH_take (i := 0) (oi := _) (v := ?_) rfl (by kernel_rfl) (by kernel_rfl) (by kernel_rfl) (fun _ _ _ h => h) (Or.inl ⟨by rfl, ?_⟩) (by assumption) ?_
        rotate_left
        · ((intro w hSw; (try dsimp only at hSw); go_simp) <;> (try with_reducible rfl))
        show wpAnyH _ _ _ _ _ _ _ (Act.put _ (some 21) _) _
        simp only [Act.put, List.setIfInBounds_toArray, List.set_cons_succ, List.set_cons_zero]
        refine wpAnyH_take (i := 1) (oi := _) (v := ?_) rfl (by kernel_rfl) (by kernel_rfl) (by kernel_rfl) (fun _ _ _ h => h) (Or.inl ⟨by rfl, ?_⟩) (by assumption) ?_
        rotate_left
        · ((intro w hSw; (try dsimp only at hSw); go_simp) <;> (try with_reducible rfl))
        show wpAnyH _ _ _ _ _ _ _ (Act.put _ (some 22) _) _
        simp only [Act.put, List.setIfInBounds_toArray, List.set_cons_succ, List.set_cons_zero]
        refine wpAnyH_take (i := 2) (oi := _) (v := ?_) rfl (by kernel_rfl) (by kernel_rfl) (by kernel_rfl) (fun _ _ _ h => h) (Or.inl ⟨by rfl, ?_⟩) (by assumption) ?_
        rotate_left
        · ((intro w hSw; (try dsimp only at hSw); go_simp) <;> (try with_reducible rfl))
        show wpAnyH _ _ _ _ _ _ _ (Act.put _ (some 23) _) _
        simp only [Act.put, List.setIfInBounds_toArray, List.set_cons_succ, List.set_cons_zero]
        refine wpAnyH_take (i := 3) (oi := _) (v := ?_) rfl (by kernel_rfl) (by kernel_rfl) (by kernel_rfl) (fun _ _ _ h => h) (Or.inl ⟨by rfl, ?_⟩) (by assumption) ?_
        rotate_left
        · ((intro w hSw; (try dsimp only at hSw); go_simp) <;> (try with_reducible rfl))
        show wpAnyH _ _ _ _ _ _ _ (Act.put _ (some 24) _) _
        simp only [Act.put, List.setIfInBounds_toArray, List.set_cons_succ, List.set_cons_zero]
        refine wpAnyH_take (i := 4) (oi := _) (v := ?_) rfl (by kernel_rfl) (by kernel_rfl) (by kernel_rfl) (fun _ _ _ h => h) (Or.inl ⟨by rfl, ?_⟩) (by assumption) ?_
        rotate_left
        · ((intro w hSw; (try dsimp only at hSw); go_simp) <;> (try with_reducible rfl))
        show wpAnyH _ _ _ _ _ _ _ (Act.put _ (some 25) _) _
        simp only [Act.put, List.setIfInBounds_toArray, List.set_cons_succ, List.set_cons_zero]
        refine wpAnyH_take (i := 6) (oi := _) (v := ?_) rfl (by kernel_rfl) (by kernel_rfl) (by kernel_rfl) (fun _ _ _ h => h) (Or.inl ⟨by rfl, ?_⟩) (by assumption) ?_
        rotate_left
        · ((intro w hSw; (try dsimp only at hSw); go_simp) <;> (try with_reducible rfl))
        show wpAnyH _ _ _ _ _ _ _ (Act.put _ (some 27) _) _
        simp only [Act.put, List.setIfInBounds_toArray, List.set_cons_succ, List.set_cons_zero]
        refine wpAnyH_take (i := 7) (oi := _) (v := ?_) rfl (by kernel_rfl) (by kernel_rfl) (by kernel_rfl) (fun _ _ _ h => h) (Or.inl ⟨by rfl, ?_⟩) (by assumption) ?_
        rotate_left
        · ((intro w hSw; (try dsimp only at hSw); go_simp) <;> (try with_reducible rfl))
        show wpAnyH _ _ _ _ _ _ _ (Act.put _ (some 28) _) _
        simp only [Act.put, List.setIfInBounds_toArray, List.set_cons_succ, List.set_cons_zero]
        have K' := K.drew
        have D1' : wz.drew.cell? ⟨b0, o0 + k * 2, none⟩ = some (.int .u64 (hi : Int)) := D1
        have D0' : wz.drew.cell? ⟨b0, o0 + k * 2 + 1, none⟩ = some (.int .u64 (lo : Int)) := D0
        have X1' : wz.drew.cell? ⟨qx, 0, none⟩ = some (.int .u64 (hi : Int)) := X1
        have X0' : wz.drew.cell? ⟨qx, 1, none⟩ = some (.int .u64 (lo : Int)) := X0
        clear K D1 D0 X1 X0
        have K := K'
        have D1 := D1'
        have D0 := D0'
        have X1 := X1'
        have X0 := X0'
        clear K' D1' D0' X1' X0'
        generalize wz.drew = wd at *
        refine wpAnyH_ready (rs := [5]) (by kernel_rfl) (by simp) ?_
        refine AllReadyH.cons (o := _) rfl (fun KK hKK => ?_) AllReadyH.nil
        go_simp
        (go_at_call 8; refine (H1.out _).mono ?_; rintro e w' ⟨rfl, hb'⟩)
        have K' := K.trans (hb'.mono K.size)
        have D1' := keepc hb' D1
        have D0' := keepc hb' D0
        have X1' := keepc hb' X1
        have X0' := keepc hb' X0
        clear K D1 D0 X1 X0 hb'
        have K := K'
        have D1 := D1'
        have D0 := D0'
        have X1 := X1'
        have X0 := X0'
        clear K' D1' D0' X1' X0'
        refine hKK.out _ _ ?_ (fun hHeld => ?_)
        · exact ⟨⟨D1, D0⟩, X1, X0⟩
        clear hKK KK
        try simp only [Act.put]
        refine wpAnyH_ready (rs := [8]) (by kernel_rfl) (by simp) ?_
        refine AllReadyH.cons (o := _) rfl (fun KK hKK => ?_) AllReadyH.nil
        go_simp
        (go_at_call 9; refine (H2.out.go _).mono ?_; rintro e w' ⟨rfl, hb'⟩)
        have K' := K.trans (hb'.mono K.size)
        have D1' := keepc hb' D1
        have D0' := keepc hb' D0
        have X1' := keepc hb' X1
        have X0' := keepc hb' X0
        clear K D1 D0 X1 X0 hb'
        have K := K'
        have D1 := D1'
        have D0 := D0'
        have X1 := X1'
        have X0 := X0'
        clear K' D1' D0' X1' X0'
        refine hKK.out _ _ ?_ (fun hHeld => ?_)
        · exact ⟨⟨D1, D0⟩, X1, X0⟩
        clear hKK KK
        try simp only [Act.put]
        refine wpAnyH_take (i := 9) (oi := _) (v := ?_) rfl (by kernel_rfl) (by kernel_rfl) (by kernel_rfl) (fun _ _ _ h => h) (Or.inl ⟨by rfl, ?_⟩) (by assumption) ?_
        rotate_left
        · ((intro w hSw; (try dsimp only at hSw); go_simp) <;> (try with_reducible rfl))
        show wpAnyH _ _ _ _ _ _ _ (Act.put _ (some 30) _) _
        simp only [Act.put, List.setIfInBounds_toArray, List.set_cons_succ, List.set_cons_zero]
        refine wpAnyH_take (i := 10) (oi := _) (v := ?_) rfl (by kernel_rfl) (by kernel_rfl) (by kernel_rfl) (fun _ _ _ h => h) (Or.inl ⟨by rfl, ?_⟩) (by assumption) ?_
        rotate_left
        · ((intro w hSw; (try dsimp only at hSw); go_simp) <;> (try with_reducible rfl))
        show wpAnyH _ _ _ _ _ _ _ (Act.put _ (some 31) _) _
        simp only [Act.put, List.setIfInBounds_toArray, List.set_cons_succ, List.set_cons_zero]
        refine wpAnyH_take (i := 11) (oi := _) (v := ?_) rfl (by kernel_rfl) (by kernel_rfl) (by kernel_rfl) (fun _ _ _ h => h) (Or.inl ⟨by rfl, ?_⟩) (by assumption) ?_
        rotate_left
        · ((intro w hSw; (try dsimp only at hSw); go_simp) <;> (try with_reducible rfl))
        show wpAnyH _ _ _ _ _ _ _ (Act.put _ (some 32) _) _
        simp only [Act.put, List.setIfInBounds_toArray, List.set_cons_succ, List.set_cons_zero]
        refine wpAnyH_take (i := 12) (oi := _) (v := ?_) rfl (by kernel_rfl) (by kernel_rfl) (by kernel_rfl) (fun _ _ _ h => h) (Or.inl ⟨by rfl, ?_⟩) (by assumption) ?_
        rotate_left
        · ((intro w hSw; (try dsimp only at hSw); go_simp) <;> (try with_reducible rfl))
        show wpAnyH _ _ _ _ _ _ _ (Act.put _ (some 33) _) _
        simp only [Act.put, List.setIfInBounds_toArray, List.set_cons_succ, List.set_cons_zero]
        refine wpAnyH_take (i := 13) (oi := _) (v := ?_) rfl (by kernel_rfl) (by kernel_rfl) (by kernel_rfl) (fun _ _ _ h => h) (Or.inl ⟨by rfl, ?_⟩) (by assumption) ?_
        rotate_left
        · ((intro w hSw; (try dsimp only at hSw); go_simp) <;> (try with_reducible rfl))
        show wpAnyH _ _ _ _ _ _ _ (Act.put _ (some 34) _) _
        simp only [Act.put, List.setIfInBounds_toArray, List.set_cons_succ, List.set_cons_zero]
        refine wpAnyH_take (i := 14) (oi := _) (v := ?_) rfl (by kernel_rfl) (by kernel_rfl) (by kernel_rfl) (fun _ _ _ h => h) (Or.inl ⟨by rfl, ?_⟩) (by assumption) ?_
        rotate_left
        · ((intro w hSw; (try dsimp only at hSw); go_simp) <;> (try with_reducible rfl))
        show wpAnyH _ _ _ _ _ _ _ (Act.put _ (some 35) _) _
        simp only [Act.put, List.setIfInBounds_toArray, List.set_cons_succ, List.set_cons_zero]
        refine wpAnyH_take (i := 15) (oi := _) (v := ?_) rfl (by kernel_rfl) (by kernel_rfl) (by kernel_rfl) (fun _ _ _ h => h) (Or.inl ⟨by rfl, ?_⟩) (by assumption) ?_
        rotate_left
        · ((intro w hSw; (try dsimp only at hSw); go_simp) <;> (try with_reducible rfl))
        show wpAnyH _ _ _ _ _ _ _ (Act.put _ (some 36) _) _
        simp only [Act.put, List.setIfInBounds_toArray, List.set_cons_succ, List.set_cons_zero]
        refine wpAnyH_take (i := 17) (oi := _) (v := ?_) rfl (by kernel_rfl) (by kernel_rfl) (by kernel_rfl) (fun _ _ _ h => h) (Or.inl ⟨by rfl, ?_⟩) (by assumption) ?_
        rotate_left
        · ((intro w hSw; (try dsimp only at hSw); go_simp) <;> (try with_reducible rfl))
        show wpAnyH _ _ _ _ _ _ _ (Act.put _ (some 38) _) _
        simp only [Act.put, List.setIfInBounds_toArray, List.set_cons_succ, List.set_cons_zero]
        refine wpAnyH_take (i := 18) (oi := _) (v := ?_) rfl (by kernel_rfl) (by kernel_rfl) (by kernel_rfl) (fun _ _ _ h => h) (Or.inl ⟨by rfl, ?_⟩) (by assumption) ?_
        rotate_left
        · ((intro w hSw; (try dsimp only at hSw); go_simp) <;> (try with_reducible rfl))
        show wpAnyH _ _ _ _ _ _ _ (Act.put _ (some 39) _) _
        simp only [Act.put, List.setIfInBounds_toArray, List.set_cons_succ, List.set_cons_zero]
        refine wpAnyH_ready (rs := [16]) (by kernel_rfl) (by simp) ?_
        refine AllReadyH.cons (o := _) rfl (fun KK hKK => ?_) AllReadyH.nil
        go_simp
        (go_at_call 10; refine (H3.out _).mono ?_; rintro e w' ⟨rfl, hb'⟩)
        have K' := K.trans (hb'.mono K.size)
        have D1' := keepc hb' D1
        have D0' := keepc hb' D0
        have X1' := keepc hb' X1
        have X0' := keepc hb' X0
        clear K D1 D0 X1 X0 hb'
        have K := K'
        have D1 := D1'
        have D0 := D0'
        have X1 := X1'
        have X0 := X0'
        clear K' D1' D0' X1' X0'
        refine hKK.out _ _ ?_ (fun hHeld => ?_)
        · exact ⟨⟨D1, D0⟩, X1, X0⟩
        clear hKK KK
        try simp only [Act.put]
        refine wpAnyH_ready (rs := [19]) (by kernel_rfl) (by simp) ?_
        refine AllReadyH.cons (o := _) rfl (fun KK hKK => ?_) AllReadyH.nil
        go_simp
        (go_at_call 11; refine (H4.out _).mono ?_; rintro e w' ⟨rfl, hb'⟩)
        have K' := K.trans (hb'.mono K.size)
        have D1' := keepc hb' D1
        have D0' := keepc hb' D0
        have X1' := keepc hb' X1
        have X0' := keepc hb' X0
        clear K D1 D0 X1 X0 hb'
        have K := K'
        have D1 := D1'
        have D0 := D0'
        have X1 := X1'
        have X0 := X0'
        clear K' D1' D0' X1' X0'
        refine hKK.out _ _ ?_ (fun hHeld => ?_)
        · exact ⟨⟨D1, D0⟩, X1, X0⟩
        clear hKK KK
        try simp only [Act.put]
        refine wpAnyH_take (i := 20) (oi := _) (v := ?_) rfl (by kernel_rfl) (by kernel_rfl) (by kernel_rfl) (fun _ _ _ h => h) (Or.inl ⟨by rfl, ?_⟩) (by assumption) ?_
        rotate_left
        · ((intro w hSw; (try dsimp only at hSw); go_simp) <;> (try with_reducible rfl))
        show wpAnyH _ _ _ _ _ _ _ (Act.put _ (some 41) _) _
        simp only [Act.put, List.setIfInBounds_toArray, List.set_cons_succ, List.set_cons_zero]
        refine wpAnyH_done (by kernel_rfl) ?_ _
        refine peel_last rfl (fun KK hKK => ?_)
        clear hHeld
        go_simp
        refine hKK _ _ ?_
        refine NoPanic.normal ?_
        clear hKK KK
        have KF : Hid (Below W.heap.size W w') := K
        clear K D1 D0 X1 X0
        go_wp2
        exact ⟨⟨k + 1, hlt, by simp, by first | exact KF | exact KF.out.drew⟩, by simp [intOf]; omega⟩
      · obtain rfl : k = L := by omega
        generalize elemsS l es = ess at *
        generalize wideI l = wi at *
        go_wp2_with (first
          | (go_at_call 7; refine (AW.out _).mono ?_; rintro e w1 ⟨rfl, hb1⟩; have K1 : Hid (Below W.heap.size W w1) := HK.out.trans (hb1.mono HK.out.size); clear hb1 HK)
          | (go_at_call 12; refine (HW1.out _).mono ?_; rintro e w2 ⟨rfl, rfl⟩)
          | (go_at_call 13; refine (HW2.out _).mono ?_; rintro e w3 ⟨rfl, hb3⟩; have K3 : Hid (Below W.heap.size W w3) := K1.out.trans (hb3.mono K1.out.size); clear hb3 K1)
          | (go_at_call 14; refine (HE1.out _ K3.out).mono ?_; rintro e w4 ⟨rfl, hb4⟩; have K4 : Hid (Below W.heap.size W w4) := K3.out.trans (hb4.mono K3.out.size); clear hb4 K3)
          | (go_at_call 16; refine (HRf.out _ K4.out).mono ?_; rintro e w5 ⟨ra, rc, rfl, R5, hb5⟩; have K5 : Hid (Below W.heap.size W w5 ∧ ERow w5 ra es) := ⟨K4.out.trans (hb5.mono K4.out.size), R5⟩; clear hb5 K4 R5)
          | (go_at_call 15; refine (HE2.out _ _ _ K5.out.2).mono ?_; rintro e w6 ⟨rfl, hb6⟩; have K6 : Hid (Below W.heap.size W w6) := K5.out.1.trans (hb6.mono K5.out.1.size); clear hb6 K5))
        go_ret
        exact ⟨by simp, K6.out⟩
end Go.Proofs.Yteejjgcfdndnpaa
