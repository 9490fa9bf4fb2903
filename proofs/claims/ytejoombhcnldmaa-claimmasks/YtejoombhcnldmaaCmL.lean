/- The contract of claim.True over the seat's translation. -/
import Derived.Test.YtejoombhcnldmaaCmD
import Derived.Test.YtejoombhcnldmaaPSlD
namespace Go.Proofs.Ytejoombhcnldmaa
open Go.RowKit
open Cb
open Tw (pm)

/-- A column of a table. -/
def ccol (cs : List (Nat × Nat)) (n k : Nat) : List (Nat × Nat) := (cs.drop (k * n)).take n
theorem ccol_len {cs : List (Nat × Nat)} {n k : Nat} (h : k * n + n ≤ cs.length) : (ccol cs n k).length = n := by unfold ccol; rw [List.length_take, List.length_drop]; omega
theorem ccol_at {cs : List (Nat × Nat)} {n k i : Nat} (hi : i < n) : (ccol cs n k).getD i (0, 0) = cs.getD (k * n + i) (0, 0) := by
  unfold ccol
  simp only [List.getD, List.getElem?_take, List.getElem?_drop, if_pos hi]
theorem lt_ccol {cs : List (Nat × Nat)} (h : ltE cs) (n k : Nat) : ltE (ccol cs n k) := fun e he => h e (List.mem_of_mem_drop (List.mem_of_mem_take he))
theorem ERow.col {w : World} {g off : Nat} {cs : List (Nat × Nat)} (e : ERow w (some ⟨g, off, none⟩) cs) {n k o : Nat} (ho : o = k * n) (h : k * n + n ≤ cs.length) : ERow w (some ⟨g, off + o * 2, none⟩) (ccol cs n k) := ⟨fun i hi => by
  rw [ccol_len h] at hi
  obtain ⟨b, off', e1, hb, c1, c0⟩ := e.cells (k * n + i) (by omega)
  injection e1 with e1
  injection e1 with e2 e3
  subst e2 e3
  rw [ccol_at hi]
  subst ho
  refine ⟨g, off + k * n * 2, rfl, hb, ?_, ?_⟩
  · rw [← c1]; congr 2; omega
  · rw [← c0]; congr 2; omega⟩
/-- What a claim is. -/
def tvv (m n : Nat) (z cs : List (Nat × Nat)) (o : Stp) : Nat × Nat := dotv (m : Int) (crw n z o) (ccol cs n o.k.toNat)
def tvI (m n : Nat) (z cs : List (Nat × Nat)) (cl : List Stp) (i c : Nat) : Nat × Nat := if c < i then tvv m n z cs (cl.getD c zst) else (0, 0)
set_option maxHeartbeats 20000000 in
set_option maxRecDepth 100000 in
theorem cmtrue (m cn w n N L : Nat) (a a2 : Option Addr) (gc offc : Nat) (cap cap2 cp : Nat) (cl : List Stp) (z cs : List (Nat × Nat)) (hn : n = 2 ^ w) (hN : N = 2 ^ (w + cn)) (hL : cl.length = L) (lz : ltE z) (lc : ltE cs) (hcl0 : cs.length = N) (oc : ofT m cs) (hcp : N ≤ cp) (hE : chE (m : Int) (cn : Int) (w : Int) cl z (0, 0) = 0) (W : World) (hr : ORow W a cl) (hz : ERow W a2 z) (hc3 : ERow W (some ⟨gc, offc, none⟩) cs) :
    Calls Try.prog 25 #[.int .i64 (m : Int), .int .i64 (cn : Int), .int .i64 (w : Int), .slice a L cap, .slice a2 z.length cap2, .slice (some ⟨gc, offc, none⟩) N cp] W fun e w' => ∃ g, e = .returned (.tuple #[.slice (some ⟨g, 0, none⟩) L L, .int .i64 0]) ∧ ERow w' (some ⟨g, 0, none⟩) (cl.map (tvv m n z cs)) ∧ Below W.heap.size W w' ∧ W.heap.size ≤ g := by
  obtain ⟨m', cn', w', hm, e1, hc, e2, hw, e3, h200, hcl, hzl, oz, ob⟩ := ch_zero hE
  obtain rfl : m = m' := by omega
  obtain rfl : cn = cn' := by omega
  obtain rfl : w = w' := by omega
  clear e1 e2 e3 ob
  have HH : Hid (∀ v, Below W.heap.size W v → Calls Try.prog 42 #[.int .i64 (m : Int), .int .i64 (cn : Int), .int .i64 (w : Int), .slice a cl.length cap, .slice a2 z.length cap2, .agg #[.int .u64 0, .int .u64 0]] v fun e w' => e = .returned (.int .i64 (chE (m : Int) (cn : Int) (w : Int) cl z (0, 0))) ∧ Below v.heap.size v w') := fun v hb => cmhind (m : Int) (cn : Int) (w : Int) a a2 cap cap2 cl z (0, 0) (by omega) (by omega) lz ⟨Nat.two_pow_pos 64, Nat.two_pow_pos 64⟩ v (hr.below hb) (hz.below hb)
  rw [hE] at HH
  have hn1 : n ≤ 64 := by rw [hn]; exact Nat.le_trans (Nat.pow_le_pow_right (by decide) hw) (by decide)
  have hn0 : 0 < n := by rw [hn]; exact Nat.two_pow_pos _
  have hN1 : N ≤ 4096 := by rw [hN]; exact Nat.le_trans (Nat.pow_le_pow_right (by decide) (show w + cn ≤ 12 by omega)) (by decide)
  have hNn : N = 2 ^ cn * n := by rw [hN, hn, ← Nat.pow_add, Nat.add_comm]
  have HFI := hidC (fun (v : World) (hb : Below W.heap.size W v) => cmfit (m : Int) (N : Int) (some ⟨gc, offc, none⟩) cp cs lc (by omega) v (hc3.below hb))
  have efi : cfE (m : Int) (N : Int) cs = 0 := by unfold cfE; rw [if_pos (by omega), if_pos (all_of.2 oc)]
  rw [efi, hcl0] at HFI
  have HRW := hidC (fun (v : World) (hb : Below W.heap.size W v) (ki : Int) (t : Nat) (hf : ftB ki (w : Int) (t : Int) = true) => trow_new m hm ki w t n hw (by unfold pw; rw [Int.toNat_natCast, hn]) hf a2 cap2 z lz hzl oz v (hz.below hb))
  have e1 : IntKind.i64.wrap ((w : Int) + (cn : Int)) = ((w + cn : Nat) : Int) := by rw [IntKind.wrap_i64]; omega
  have e2 : IntKind.i64.wrap ((2 : Int) ^ (w + cn)) = (N : Int) := by
    rw [IntKind.wrap_i64, show (2 : Int) ^ (w + cn) = ((2 ^ (w + cn) : Nat) : Int) by simp, ← hN]; omega
  have e3 : ¬ ((w + cn : Nat) : Int) < 0 := by omega
  have e4 : ¬ (w : Int) + (cn : Int) < 0 := by omega
  have e5 : ((w : Int) + (cn : Int)).toNat = w + cn := by omega
  obtain ⟨i0, hi0, hz0, hz1, hz2⟩ := info_elem
  have HI : Hid (Try.prog.info? 26 = some i0 ∧ i0.zero = some (.agg #[.int .u64 0, .int .u64 0]) ∧ i0.size = 2 ∧ i0.bytes = 16) := ⟨hi0, hz0, hz1, hz2⟩
  have HIN : Hid (ORow W a cl ∧ (∀ i, i < cl.length → (0 ≤ (cl.getD i zst).k ∧ (cl.getD i zst).k < ((2 ^ cn : Nat) : Int)) ∧ ftB (cl.getD i zst).a (w : Int) (cl.getD i zst).b = true) ∧ N = 2 ^ cn * n ∧ n = 2 ^ w ∧ 2 ^ cn ≤ 64 ∧ ERow W (some ⟨gc, offc, none⟩) cs ∧ ltE cs ∧ cs.length = N ∧ cl.length = L) := ⟨hr, hcl, hNn, hn, Nat.le_trans (Nat.pow_le_pow_right (by decide) hc) (by decide), hc3, lc, hcl0, hL⟩
  have hL2 : L ≤ 200 := by omega
  rw [hzl]
  rw [hzl, hL] at HH
  clear hi0 hz0 hz1 hz2 hr hcl hNn hn hN hz hzl oz lz hE hm hc3 lc hcl0 oc efi hL h200
  go_enter Try.func25, Try.ntmps25
  go_wp2_with (first
    | (go_at_call 42; refine (HH.out _ (Below.refl _ _)).mono ?_; rintro e w1 ⟨rfl, hb1⟩; have K1 : Hid (Below W.heap.size W w1) := hb1; clear hb1 HH)
    | (go_at_call 46; refine (HFI.out _ K1.out).mono ?_; rintro e w2 ⟨rfl, hb2⟩; have K2 : Hid (Below W.heap.size W w2) := K1.out.trans (hb2.mono K1.out.size); clear hb2 HFI K1)
    | (at_make; refine wpList_make_full _ rfl _ _ 23 rfl 0 26 i0 (.agg #[.int .u64 0, .int .u64 0]) 2 Try.underlying23 HI.out.1 HI.out.2.1 HI.out.2.2.1 .i64 .i64 _ _ L rfl rfl rfl rfl (by rw [HI.out.2.2.2]; omega) (by simp only [maxLen]; omega) (Nat.zero_le _) ?_; intro w3 own3 hgr3; have K3 : Hid (Tn w2 w3 L (tvI m n z cs cl 0)) := Tn.start own3 hgr3 _ (fun _ _ => rfl); clear own3 hgr3))
  clear HI
  go_loopw [46] (fun u wr => ∃ i : Nat, i ≤ L ∧ u = .int .i64 i ∧ Hid (Tn w2 wr L (tvI m n z cs cl i))) (fun u _ => L - (intOf u).toNat)
  case atStart => exact ⟨0, Nat.zero_le _, rfl, K3⟩
  case round =>
    obtain ⟨i, hi, rfl, HK⟩ := hrel
    clear K3
    have HD : Hid (Below W.heap.size W wr) := K2.out.trans (HK.out.d.mono K2.out.size)
    by_cases hlt : i < L
    · have i1 : (i : Int) < (L : Int) := by omega
      have i0' : (0 : Int) ≤ (i : Int) := by omega
      have hlt' : i < cl.length := by have := HIN.out.2.2.2.2.2.2.2.2; omega
      obtain ⟨bb, off, rfl, hbb, d0, d1, d2, d3, d4⟩ := HIN.out.1.cells i hlt'
      have D0 := keepc HD.out d0
      have D1 := keepc HD.out d1
      have D2 := keepc HD.out d2
      have D3 := keepc HD.out d3
      have D4 := keepc HD.out d4
      obtain ⟨hk, hf⟩ := HIN.out.2.1 i hlt'
      have HNX : Hid (∀ c, c < L → tvI m n z cs cl (i + 1) c = if c = i then tvv m n z cs (cl.getD i zst) else tvI m n z cs cl i c) := fun c _ => by
        unfold tvI
        by_cases h1 : c = i
        · rw [if_pos h1, if_pos (by omega), h1]
        · rw [if_neg h1]
          by_cases h2 : c < i
          · rw [if_pos h2, if_pos (by omega)]
          · rw [if_neg h2, if_neg (by omega)]
      clear d0 d1 d2 d3 d4 hbb hlt'
      generalize cl.getD i zst = o at *
      obtain ⟨k, ki, s, v⟩ := o
      dsimp only at *
      obtain ⟨kn, rfl⟩ : ∃ n : Nat, k = (n : Int) := ⟨k.toNat, by omega⟩
      have hs := (ftB_true hf).2.1
      obtain ⟨sn, rfl⟩ : ∃ n : Nat, s = (n : Int) := ⟨s.toNat, by omega⟩
      have HRI := hidC (fun (v : World) (hb : Below W.heap.size W v) => HRW.out v hb ki sn hf)
      obtain ⟨row, hrow⟩ : ∃ row, row = crw n z ⟨(kn : Int), ki, (sn : Int), v⟩ := ⟨_, rfl⟩
      have hrow2 : (List.range n).map (sgn ki z sn) = row := by rw [hrow]; unfold crw; rw [Int.toNat_natCast]
      rw [hrow2] at HRI
      have HTV : Hid (tvv m n z cs ⟨(kn : Int), ki, (sn : Int), v⟩ = dotv (m : Int) row (ccol cs n kn)) := by show _ = _; unfold tvv; rw [← hrow]; rfl
      have HRO : Hid (row.length = n ∧ ltE row) := ⟨by rw [hrow, crw_len], by rw [hrow]; exact lt_crw _ _ _⟩
      obtain ⟨o, ho⟩ : ∃ o, o = kn * n := ⟨_, rfl⟩
      have hkn : kn < 2 ^ cn := by omega
      have hon : o + n ≤ N := by
        have h1 : (kn + 1) * n ≤ 2 ^ cn * n := Nat.mul_le_mul_right _ hkn
        have h2 := HIN.out.2.2.1
        rw [Nat.add_mul, Nat.one_mul, ← ho] at h1
        omega
      have HCO := hidC (fun (v' : World) => cmcol gc offc N cp w n o kn ki (sn : Int) v hw HIN.out.2.2.2.1 ho hon hcp (by have := HIN.out.2.2.2.2.1; omega) v')
      have hcc : kn * n + n ≤ cs.length := by rw [← ho, HIN.out.2.2.2.2.2.2.2.1]; exact hon
      have HCR : Hid (ERow W (some ⟨gc, offc + o * 2, none⟩) (ccol cs n kn)) := HIN.out.2.2.2.2.2.1.col ho hcc
      have HDO := hidC (fun (v' : World) (g' : Nat) (h1 : ERow v' (some ⟨g', 0, none⟩) row) (h2 : ERow v' (some ⟨gc, offc + o * 2, none⟩) (ccol cs n kn)) => dot_any (m : Int) (some ⟨g', 0, none⟩) (some ⟨gc, offc + o * 2, none⟩) n (cp - o) row (ccol cs n kn) HRO.out.2 (lt_ccol HIN.out.2.2.2.2.2.2.1 n kn) (by rw [HRO.out.1]; omega) v' h1 h2)
      rw [HRO.out.1, ccol_len hcc, ← HTV.out] at HDO
      clear HRW hk hs hf hrow hrow2 ho hkn hcc HTV HRO
      generalize tvv m n z cs ⟨(kn : Int), ki, (sn : Int), v⟩ = tv at *
      generalize ccol cs n kn = col at *
      have BX : Hid ((wr.alloc (Obj.cells #[.int .i64 (kn : Int), .int .i64 ki, .int .i64 (sn : Int), .int .u64 (v.1 : Int), .int .u64 (v.2 : Int)] 60)).rowIs wr.heap.size 60 5 (fun j => (#[Value.int .i64 (kn : Int), .int .i64 ki, .int .i64 (sn : Int), .int .u64 (v.1 : Int), .int .u64 (v.2 : Int)] : Array Value).getD j undef)) := ⟨_, heap_alloc_new wr _, rfl, fun j hj => by
        obtain rfl | rfl | rfl | rfl | rfl : j = 0 ∨ j = 1 ∨ j = 2 ∨ j = 3 ∨ j = 4 := by omega
        all_goals rfl⟩
      go_wp2_with (first
        | (go_at_call 43; refine (HRI.out _ (HD.out.alloc HD.out.size _)).mono ?_; rintro e w4 ⟨g7, rfl, hr4, hb4, hg4⟩; have K4 : Hid (Tn w2 w4 L (tvI m n z cs cl i) ∧ ERow w4 (some ⟨g7, 0, none⟩) row ∧ w4.rowIs wr.heap.size 60 5 (fun j => (#[Value.int .i64 (kn : Int), .int .i64 ki, .int .i64 (sn : Int), .int .u64 (v.1 : Int), .int .u64 (v.2 : Int)] : Array Value).getD j undef)) := ⟨(HK.out.below ((Below.refl _ _).alloc (Nat.le_refl _) _)).below hb4, hr4, BX.out.of_block (hb4.block _ BX.out.lt)⟩; clear hr4 hb4 hg4 D0 D1 D2 D3 D4 HRI; have xc0 := K4.out.2.2.cell (i := 0) (by decide); have xc1 := K4.out.2.2.cell (i := 1) (by decide); have xc2 := K4.out.2.2.cell (i := 2) (by decide); have xc3 := K4.out.2.2.cell (i := 3) (by decide); have xc4 := K4.out.2.2.cell (i := 4) (by decide); simp only [Array.getD] at xc0 xc1 xc2 xc3 xc4)
        | (go_at_call 45; refine (HCO.out _).mono ?_; rintro e w5 ⟨rfl, hb5⟩; have K5 : Hid (Tn w2 w5 L (tvI m n z cs cl i) ∧ ERow w5 (some ⟨g7, 0, none⟩) row ∧ Below W.heap.size W w5) := ⟨K4.out.1.below hb5, K4.out.2.1.below hb5, K2.out.trans ((K4.out.1.below hb5).d.mono K2.out.size)⟩; clear hb5 K4 xc0 xc1 xc2 xc3 xc4 HCO)
        | (go_at_call 28; refine (HDO.out _ _ K5.out.2.1 (HCR.out.below K5.out.2.2)).mono ?_; rintro e w6 ⟨rfl, hb6⟩; have K6 : Hid (Tn w2 w6 L (tvI m n z cs cl i)) := K5.out.1.below hb6; clear hb6 K5 HDO; obtain ⟨r1, r0, f1, f0⟩ := K6.out.facts i hlt))
      exact ⟨⟨i + 1, hlt, by simp, K6.out.put i tv _ HNX.out⟩, by simp [intOf]; omega⟩
    · obtain rfl : i = L := by omega
      have HF : Hid (ERow wr (some ⟨w2.heap.size, 0, none⟩) (cl.map (tvv m n z cs)) ∧ Below W.heap.size W wr ∧ W.heap.size ≤ w2.heap.size) := ⟨HK.out.erow (by rw [List.length_map]; exact HIN.out.2.2.2.2.2.2.2.2) (fun c hc => by
        have h1 : c < cl.length := by have := HIN.out.2.2.2.2.2.2.2.2; omega
        unfold tvI
        rw [if_pos hc]
        simp [el, List.getD, h1]), HD.out, K2.out.size⟩
      clear HK HIN HRW K2 HD
      go_wp2
      refine bodyPost_ret (v := .tuple #[.slice (some ⟨w2.heap.size, 0, none⟩) i i, .int .i64 0]) (by simp [results, Try.results25, go_sem, *]) rfl ⟨_, rfl, HF.out.1, HF.out.2.1, HF.out.2.2⟩
end Go.Proofs.Ytejoombhcnldmaa
