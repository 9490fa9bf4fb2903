/- Contracts of steepleref01.Bytes and Elems over the seat's translation. -/
import Derived.Test.YtghapohempogkaaPRefA
namespace Go.Proofs.Ytghapohempogkaa
open Go.RowKit

theorem own_bytes {w : World} {base : Nat} {T : TypeId} {v : Value} {n : Nat} {xs : List Int} (hn : xs.length = n) (h0 : 0 < n) (h : w.ownsRow base T 1 v n (xs.map (Value.int .u8))) : ∃ g cap, v = .slice (some ⟨g, 0, none⟩) n cap ∧ ∀ i, i < n → w.cell? ⟨g, 0 + i, none⟩ = some (.int .u8 (xs.getD i 0)) := by
  rcases h.2 with ⟨h1, h2⟩ | ⟨g, cap, cur, rfl, _⟩
  · omega
  · refine ⟨g, cap, rfl, fun i hi => ?_⟩
    have e := h.cellAt i (by omega)
    rw [Nat.zero_add, e, List.getElem?_map]
    have hi2 : i < xs.length := by omega
    simp [List.getD, hi2]
theorem byL_snoc (h l i : Nat) : byL h l (i + 1) = byL h l i ++ [((byN h l i : Nat) : Int)] := by simp [byL, List.range_succ]
set_option maxHeartbeats 8000000 in
set_option maxRecDepth 100000 in
theorem rbytes (l : Int) (h lo : Nat) (hh : h < 2 ^ 64) (hl : lo < 2 ^ 64) (W : World) :
    Calls Try.prog 20 #[.int .i64 l, .agg #[.int .u64 (h : Int), .int .u64 (lo : Int)]] W fun e w' => e = .returned (.string (elemS l (h : Int) (lo : Int))) ∧ Below W.heap.size W w' := by
  have HO := hidE (rof_any l h lo hh hl)
  have K0 : Hid (El (W.alloc (Obj.cells #[.int .u64 (h : Int), .int .u64 (lo : Int)] 50)) W.heap.size h lo ∧ Below W.heap.size W (W.alloc (Obj.cells #[.int .u64 (h : Int), .int .u64 (lo : Int)] 50))) := ⟨⟨by simp [go_sem], by simp [go_sem]⟩, (Below.refl _ _).alloc (Nat.le_refl _) _⟩
  rcases hof : ofB l (h : Int) (lo : Int) with _ | _
  · rw [hof] at HO
    have e : elemS l (h : Int) (lo : Int) = ⟨#[]⟩ := by unfold elemS; rw [hof]; rfl
    rw [e]
    clear e hof
    go_enter Try.func20, Try.ntmps20
    go_wp2_with (go_at_call 33; refine (HO.out.go _).mono ?_; rintro e w1 ⟨rfl, hb1⟩)
    go_ret
    exact ⟨rfl, K0.out.2.trans (hb1.mono K0.out.2.size)⟩
  · rw [hof] at HO
    obtain ⟨wn, hwn, hw16⟩ := wide_nat l
    have hw0 : 0 < wn := by
      have hlv := level_cases l (by simp [ofB] at hof; exact hof.1)
      rcases hlv with rfl | rfl | rfl | rfl | rfl | rfl | rfl | rfl <;> (simp [wideI] at hwn; omega)
    have e : elemS l (h : Int) (lo : Int) = strOfNums (byL h lo wn) := by
      unfold elemS
      rw [if_pos hof, hwn, Int.toNat_natCast, byL_low h lo wn hh hl hw16]
    rw [e]
    have HW := hidE (fun v => rwide l v)
    rw [hwn] at HW
    have HB := hidE (fun (n : Nat) (hn : n < 128) => bit1_any h lo n hh hl hn)
    obtain ⟨i0, hi0, hz0, hz1, hz2⟩ := info_byte
    have HI : Hid (Try.prog.info? 5 = some i0 ∧ i0.zero = some (.int .u8 0) ∧ i0.size = 1 ∧ i0.bytes = 1) := ⟨hi0, hz0, hz1, hz2⟩
    have HBB : Hid (∀ i k, i < 16 → k < 8 → 2 * (byN h lo i / 2 ^ (k + 1)) + bitN h lo (8 * i + k) = byN h lo i / 2 ^ k) := fun i k hi hk => by rw [← by_bit h lo i k hi hk]; exact by_half _ _
    have HBL : Hid (∀ i, byN h lo i < 256) := fun i => by_lt h lo i
    clear hi0 hz0 hz1 hz2 e hof hwn
    go_enter Try.func20, Try.ntmps20
    obtain ⟨⟨x1, x0⟩, _⟩ := K0.out
    go_wp2_with (go_at_call 33; refine (HO.out.go _).mono ?_; rintro e w1 ⟨rfl, hb1⟩; have K1 : Hid (El w1 W.heap.size h lo ∧ Below W.heap.size W w1) := ⟨K0.out.1.below hb1, K0.out.2.trans (hb1.mono K0.out.2.size)⟩; clear hb1 K0 x1 x0)
    go_loopw [5, 6] (fun s u wr => ∃ i : Nat, i ≤ wn ∧ u = .int .i64 i ∧ Hid (wr.ownsRow w1.heap.size 5 1 s i ((byL h lo i).map (Value.int .u8)) ∧ Below w1.heap.size w1 wr)) (fun _ u _ => wn - (intOf u).toNat)
    case atStart => exact ⟨0, Nat.zero_le _, rfl, ⟨⟨by simp [byL], .inl ⟨rfl, rfl⟩⟩, Below.refl _ _⟩⟩
    case round =>
      obtain ⟨i, hi, rfl, HJ⟩ := hrel
      by_cases hlt : i < wn
      · have i1 : (i : Int) < (wn : Int) := by omega
        have e8 : IntKind.i64.wrap (8 * (i : Int)) = ((8 * i : Nat) : Int) := by rw [IntKind.wrap_i64]; omega
        go_wp2_with (go_at_call 34; refine (HW.out _).mono ?_; rintro e w2 ⟨rfl, hb2⟩; have K2 : Hid (w2.ownsRow w1.heap.size 5 1 u5 i ((byL h lo i).map (Value.int .u8)) ∧ Below w1.heap.size w1 w2) := ⟨own_below HJ.out.1 hb2, HJ.out.2.trans (hb2.mono HJ.out.2.size)⟩; clear hb2 HJ)
        go_loopw [7, 8] (fun x u wr => ∃ k : Nat, k ≤ 8 ∧ u = .int .i64 ((k : Int) - 1) ∧ x = .int .i64 ((byN h lo i / 2 ^ k : Nat) : Int) ∧ Hid (wr.ownsRow w1.heap.size 5 1 u5 i ((byL h lo i).map (Value.int .u8)) ∧ Below w1.heap.size w1 wr)) (fun _ u _ => (intOf u + 1).toNat)
        case atStart =>
          refine ⟨8, Nat.le_refl _, rfl, ?_, K2⟩
          have := HBL.out i
          rw [show byN h lo i / 2 ^ 8 = 0 from Nat.div_eq_of_lt (by simpa using this)]
          rfl
        case round =>
          obtain ⟨k, hk, rfl, rfl, HL⟩ := hrel
          clear K2
          have K5 := K1.out.1.below HL.out.2
          obtain ⟨x1, x0⟩ := K5
          by_cases hk0 : k = 0
          · subst hk0
            rw [show byN h lo i / 2 ^ 0 = byN h lo i by simp]
            have hb := HBL.out i
            have HN : Hid ((byL h lo (i + 1)).map (Value.int .u8) = (byL h lo i).map (Value.int .u8) ++ [Value.int .u8 ((byN h lo i : Nat) : Int)]) := by show _ = _; rw [byL_snoc]; simp
            generalize byN h lo i = bt at *
            have e10 : (bt : Int) % 256 = (bt : Int) := by omega
            have hBq : w1.heap.size ≤ wr.heap.size := HL.out.2.size
            clear x1 x0
            go_wp2_with (at_builtin; refine wpList_append_own _ rfl _ _ 56 rfl w1.heap.size 5 i0 (.int .u8 0) 1 1 Try.underlying56 HI.out.1 HI.out.2.1 HI.out.2.2.1 HI.out.2.2.2 rfl (by decide) _ _ _ rfl (own_below HL.out.1 ((Below.refl _ _).alloc (Nat.le_refl _) _)) ⟨wr.heap.size, 0, none⟩ 1 1 [.int .u8 (bt : Int)] rfl rfl (fun p u hu => by rcases p with _ | p <;> simp at hu <;> subst hu <;> simp [go_sem]) (by intro u hu; simp at hu; rcases hu with rfl; rfl) (by simp only [maxLen]; omega) (by omega) (by simp; omega) ?_; intro v' w7 hown7 hgr7 _)
            refine ⟨⟨i + 1, hlt, by simp, ⟨?_, ?_⟩⟩, by simp [intOf]; omega⟩
            · rw [HN.out]; exact hown7
            · exact (HL.out.2.alloc hBq _).grown hgr7 (by simp; omega) fun g hg => (HL.out.1.lt g hg).1
          · obtain ⟨kk, rfl⟩ : ∃ kk, k = kk + 1 := ⟨k - 1, by omega⟩
            rw [show (((kk + 1 : Nat)) : Int) - 1 = (kk : Int) by omega]
            have hY := HBB.out i kk (by omega) (by omega)
            have hb := HBL.out i
            have hX : byN h lo i / 2 ^ (kk + 1) < 256 := Nat.lt_of_le_of_lt (Nat.div_le_self _ _) hb
            have hY2 : byN h lo i / 2 ^ kk < 256 := Nat.lt_of_le_of_lt (Nat.div_le_self _ _) hb
            have BT := hidE (HB.out (8 * i + kk) (by omega))
            have HYY : Hid (byN h lo i / 2 ^ kk = byN h lo i / 2 ^ kk) := rfl
            obtain ⟨Y, hYe⟩ : ∃ Y, Y = byN h lo i / 2 ^ kk := ⟨_, rfl⟩
            have HYe : Hid (Y = byN h lo i / 2 ^ kk) := hYe
            rw [← hYe] at hY hY2
            generalize byN h lo i / 2 ^ (kk + 1) = X at *
            generalize bitN h lo (8 * i + kk) = bt at *
            have c1 : IntKind.i64.wrap (2 * (X : Int)) = ((2 * X : Nat) : Int) := by rw [IntKind.wrap_i64]; omega
            have c2 : IntKind.i64.wrap (((8 * i : Nat) : Int) + (kk : Int)) = ((8 * i + kk : Nat) : Int) := by rw [IntKind.wrap_i64]; omega
            have c3 : IntKind.i64.wrap (bt : Int) = (bt : Int) := by rw [IntKind.wrap_i64]; omega
            have c4 : IntKind.i64.wrap (((2 * X : Nat) : Int) + (bt : Int)) = (Y : Int) := by rw [IntKind.wrap_i64]; omega
            have c5 : IntKind.i64.wrap ((kk : Int) - 1) = (kk : Int) - 1 := by rw [IntKind.wrap_i64]; omega
            have c6 : (0 : Int) ≤ (kk : Int) := by omega
            have HYc : Hid (wrap64 (2 * (X : Int) + (bt : Int)) = (Y : Int)) := by show _ = _; unfold wrap64; omega
            clear hY hYe HYY hb hX hY2 hk0
            go_wp2_with (go_at_call 35; refine (BT.out.go _).mono ?_; rintro e w6 ⟨rfl, hb6⟩; have K6 : Hid (w6.ownsRow w1.heap.size 5 1 u5 i ((byL h lo i).map (Value.int .u8)) ∧ Below w1.heap.size w1 w6) := ⟨own_below HL.out.1 hb6, HL.out.2.trans (hb6.mono HL.out.2.size)⟩; clear hb6 HL x1 x0)
            refine ⟨⟨kk, by omega, rfl, ?_, K6⟩, by simp [intOf]⟩
            first | rw [HYc.out, HYe.out] | rw [HYe.out]
      · obtain rfl : i = wn := by omega
        have K3 : Hid (Below W.heap.size W wr) := K1.out.2.trans (HJ.out.2.mono K1.out.2.size)
        obtain ⟨g, cap, rfl, hcell⟩ := own_bytes (xs := byL h lo i) (by simp [byL]) hw0 HJ.out.1
        have HC : Hid (∀ j, j < i → wr.cell? ⟨g, 0 + j, none⟩ = some (.int .u8 ((byL h lo i).getD j 0))) := hcell
        clear HJ hcell
        go_upto_region 13 with (go_at_call 34; refine (HW.out _).mono ?_; rintro e w2 ⟨rfl, hb2⟩; have K4 : Hid (Below W.heap.size W w2 ∧ ∀ j, j < i → w2.cell? ⟨g, 0 + j, none⟩ = some (.int .u8 ((byL h lo i).getD j 0))) := ⟨K3.out.trans (hb2.mono K3.out.size), fun j hj => keepc hb2 (HC.out j hj)⟩; clear hb2 K3 HC)
        have cv := run_convert_bytes_arg (P := Try.prog) w2 56 5 Try.underlying56 Try.underlying5 g 0 i cap (byL h lo i) (by simp [byL]) K4.out.2 9 Try.underlying9
        go_wp2
        go_ret
        exact ⟨rfl, K4.out.1⟩
end Go.Proofs.Ytghapohempogkaa
