/- Contracts of steepleref01.Bytes and Elems over the seat's translation. -/
import Derived.Test.YteejjgcfdndnpaaOeB
import Derived.Test.YteejjgcfdndnpaaRefA
namespace Go.Proofs.Yteejjgcfdndnpaa
open Go.RowKit

theorem own_bytes {w : World} {base : Nat} {T : TypeId} {v : Value} {n : Nat} {xs : List Int} (hn : xs.length = n) (h0 : 0 < n) (h : w.ownsRow base T 1 v n (xs.map (Value.int .u8))) : ∃ g cap, v = .slice (some ⟨g, 0, none⟩) n cap ∧ ∀ i, i < n → w.cell? ⟨g, 0 + i, none⟩ = some (.int .u8 (xs.getD i 0)) := by
  rcases h.2 with ⟨h1, h2⟩ | ⟨g, cap, cur, rfl, _⟩
  · omega
  · refine ⟨g, cap, rfl, fun i hi => ?_⟩
    have e := h.cellAt i (by omega)
    rw [Nat.zero_add, e, List.getElem?_map]
    have hi2 : i < xs.length := by omega
    simp [List.getD, hi2]
theorem byL_snoc (h l i : Nat) : byL h l (i + 1) = byL h l i ++ [((byN h l i : Nat) : Int)] := by simp [byL, List.range_succ]
set_option maxHeartbeats 8000000 in
set_option maxRecDepth 100000 in
theorem rbytes (l : Int) (h lo : Nat) (hh : h < 2 ^ 64) (hl : lo < 2 ^ 64) (W : World) :
    Calls Try.prog 11 #[.int .i64 l, .agg #[.int .u64 (h : Int), .int .u64 (lo : Int)]] W fun e w' => e = .returned (.string (elemS l (h : Int) (lo : Int))) ∧ Below W.heap.size W w' := by
  have HO := hidE (rof_any l h lo hh hl)
  have K0 : Hid (El (W.alloc (Obj.cells #[.int .u64 (h : Int), .int .u64 (lo : Int)] 26)) W.heap.size h lo ∧ Below W.heap.size W (W.alloc (Obj.cells #[.int .u64 (h : Int), .int .u64 (lo : Int)] 26))) := ⟨⟨by simp [go_sem], by simp [go_sem]⟩, (Below.refl _ _).alloc (Nat.le_refl _) _⟩
  rcases hof : ofB l (h : Int) (lo : Int) with _ | _
  · rw [hof] at HO
    have e : elemS l (h : Int) (lo : Int) = ⟨#[]⟩ := by unfold elemS; rw [hof]; rfl
    rw [e]
    clear e hof
    go_enter Try.func11, Try.ntmps11
    go_wp2_with (go_at_call 9; refine (HO.out.go _).mono ?_; rintro e w1 ⟨rfl, hb1⟩)
    go_ret
    exact ⟨rfl, K0.out.2.trans (hb1.mono K0.out.2.size)⟩
  · rw [hof] at HO
    obtain ⟨wn, hwn, hw16⟩ := wide_nat l
    have hw0 : 0 < wn := by
      have hlv := level_cases l (by simp [ofB] at hof; exact hof.1)
      rcases hlv with rfl | rfl | rfl | rfl | rfl | rfl | rfl | rfl <;> (simp [wideI] at hwn; omega)
    have e : elemS l (h : Int) (lo : Int) = strOfNums (byL h lo wn) := by
      unfold elemS
      rw [if_pos hof, hwn, Int.toNat_natCast, byL_low h lo wn hh hl hw16]
    rw [e]
    have HW := hidE (fun v => rwide l v)
    rw [hwn] at HW
    have HB := hidE (fun (n : Nat) (hn : n < 128) => bit1_any h lo n hh hl hn)
    obtain ⟨i0, hi0, hz0, hz1, hz2⟩ := info_byte
    have HI : Hid (Try.prog.info? 5 = some i0 ∧ i0.zero = some (.int .u8 0) ∧ i0.size = 1 ∧ i0.bytes = 1) := ⟨hi0, hz0, hz1, hz2⟩
    have HBB : Hid (∀ i k, i < 16 → k < 8 → 2 * (byN h lo i / 2 ^ (k + 1)) + bitN h lo (8 * i + k) = byN h lo i / 2 ^ k) := fun i k hi hk => by rw [← by_bit h lo i k hi hk]; exact by_half _ _
    have HBL : Hid (∀ i, byN h lo i < 256) := fun i => by_lt h lo i
    clear hi0 hz0 hz1 hz2 e hof hwn
    go_enter Try.func11, Try.ntmps11
    obtain ⟨⟨x1, x0⟩, _⟩ := K0.out
    go_wp2_with (go_at_call 9; refine (HO.out.go _).mono ?_; rintro e w1 ⟨rfl, hb1⟩; have K1 : Hid (El w1 W.heap.size h lo ∧ Below W.heap.size W w1) := ⟨K0.out.1.below hb1, K0.out.2.trans (hb1.mono K0.out.2.size)⟩; clear hb1 K0 x1 x0)
    go_loopw [5, 6] (fun s u wr => ∃ i : Nat, i ≤ wn ∧ u = .int .i64 i ∧ Hid (wr.ownsRow w1.heap.size 5 1 s i ((byL h lo i).map (Value.int .u8)) ∧ Below w1.heap.size w1 wr)) (fun _ u _ => wn - (intOf u).toNat)
    case atStart => exact ⟨0, Nat.zero_le _, rfl, ⟨⟨by simp [byL], .inl ⟨rfl, rfl⟩⟩, Below.refl _ _⟩⟩
    case round =>
      obtain ⟨i, hi, rfl, HJ⟩ := hrel
      by_cases hlt : i < wn
      · have i1 : (i : Int) < (wn : Int) := by omega
        have e8 : IntKind.i64.wrap (8 * (i : Int)) = ((8 * i : Nat) : Int) := by rw [IntKind.wrap_i64]; omega
        go_wp2_with (go_at_call 13; refine (HW.out _).mono ?_; rintro e w2 ⟨rfl, hb2⟩; have K2 : Hid (w2.ownsRow w1.heap.size 5 1 u5 i ((byL h lo i).map (Value.int .u8)) ∧ Below w1.heap.size w1 w2) := ⟨own_below HJ.out.1 hb2, HJ.out.2.trans (hb2.mono HJ.out.2.size)⟩; clear hb2 HJ)
        go_loopw [7, 8] (fun x u wr => ∃ k : Nat, k ≤ 8 ∧ u = .int .i64 ((k : Int) - 1) ∧ x = .int .i64 ((byN h lo i / 2 ^ k : Nat) : Int) ∧ Hid (wr.ownsRow w1.heap.size 5 1 u5 i ((byL h lo i).map (Value.int .u8)) ∧ Below w1.heap.size w1 wr)) (fun _ u _ => (intOf u + 1).toNat)
        case atStart =>
          refine ⟨8, Nat.le_refl _, rfl, ?_, K2⟩
          have := HBL.out i
          rw [show byN h lo i / 2 ^ 8 = 0 from Nat.div_eq_of_lt (by simpa using this)]
          rfl
        case round =>
          obtain ⟨k, hk, rfl, rfl, HL⟩ := hrel
          clear K2
          have K5 := K1.out.1.below HL.out.2
          obtain ⟨x1, x0⟩ := K5
          by_cases hk0 : k = 0
          · subst hk0
            rw [show byN h lo i / 2 ^ 0 = byN h lo i by simp]
            have hb := HBL.out i
            have HN : Hid ((byL h lo (i + 1)).map (Value.int .u8) = (byL h lo i).map (Value.int .u8) ++ [Value.int .u8 ((byN h lo i : Nat) : Int)]) := by show _ = _; rw [byL_snoc]; simp
            generalize byN h lo i = bt at *
            have e10 : (bt : Int) % 256 = (bt : Int) := by omega
            have hBq : w1.heap.size ≤ wr.heap.size := HL.out.2.size
            clear x1 x0
            go_wp2_with (at_builtin; refine wpList_append_own _ rfl _ _ 71 rfl w1.heap.size 5 i0 (.int .u8 0) 1 1 Try.underlying71 HI.out.1 HI.out.2.1 HI.out.2.2.1 HI.out.2.2.2 rfl (by decide) _ _ _ rfl (own_below HL.out.1 ((Below.refl _ _).alloc (Nat.le_refl _) _)) ⟨wr.heap.size, 0, none⟩ 1 1 [.int .u8 (bt : Int)] rfl rfl (fun p u hu => by rcases p with _ | p <;> simp at hu <;> subst hu <;> simp [go_sem]) (by intro u hu; simp at hu; rcases hu with rfl; rfl) (by simp only [maxLen]; omega) (by omega) (by simp; omega) ?_; intro v' w7 hown7 hgr7 _)
            refine ⟨⟨i + 1, hlt, by simp, ⟨?_, ?_⟩⟩, by simp [intOf]; omega⟩
            · rw [HN.out]; exact hown7
            · exact (HL.out.2.alloc hBq _).grown hgr7 (by simp; omega) fun g hg => (HL.out.1.lt g hg).1
          · obtain ⟨kk, rfl⟩ : ∃ kk, k = kk + 1 := ⟨k - 1, by omega⟩
            rw [show (((kk + 1 : Nat)) : Int) - 1 = (kk : Int) by omega]
            have hY := HBB.out i kk (by omega) (by omega)
            have hb := HBL.out i
            have hX : byN h lo i / 2 ^ (kk + 1) < 256 := Nat.lt_of_le_of_lt (Nat.div_le_self _ _) hb
            have hY2 : byN h lo i / 2 ^ kk < 256 := Nat.lt_of_le_of_lt (Nat.div_le_self _ _) hb
            have BT := hidE (HB.out (8 * i + kk) (by omega))
            have HYY : Hid (byN h lo i / 2 ^ kk = byN h lo i / 2 ^ kk) := rfl
            obtain ⟨Y, hYe⟩ : ∃ Y, Y = byN h lo i / 2 ^ kk := ⟨_, rfl⟩
            have HYe : Hid (Y = byN h lo i / 2 ^ kk) := hYe
            rw [← hYe] at hY hY2
            generalize byN h lo i / 2 ^ (kk + 1) = X at *
            generalize bitN h lo (8 * i + kk) = bt at *
            have c1 : IntKind.i64.wrap (2 * (X : Int)) = ((2 * X : Nat) : Int) := by rw [IntKind.wrap_i64]; omega
            have c2 : IntKind.i64.wrap (((8 * i : Nat) : Int) + (kk : Int)) = ((8 * i + kk : Nat) : Int) := by rw [IntKind.wrap_i64]; omega
            have c3 : IntKind.i64.wrap (bt : Int) = (bt : Int) := by rw [IntKind.wrap_i64]; omega
            have c4 : IntKind.i64.wrap (((2 * X : Nat) : Int) + (bt : Int)) = (Y : Int) := by rw [IntKind.wrap_i64]; omega
            have c5 : IntKind.i64.wrap ((kk : Int) - 1) = (kk : Int) - 1 := by rw [IntKind.wrap_i64]; omega
            have c6 : (0 : Int) ≤ (kk : Int) := by omega
            have HYc : Hid (wrap64 (2 * (X : Int) + (bt : Int)) = (Y : Int)) := by show _ = _; unfold wrap64; omega
            clear hY hYe HYY hb hX hY2 hk0
            go_wp2_with (go_at_call 34; refine (BT.out.go _).mono ?_; rintro e w6 ⟨rfl, hb6⟩; have K6 : Hid (w6.ownsRow w1.heap.size 5 1 u5 i ((byL h lo i).map (Value.int .u8)) ∧ Below w1.heap.size w1 w6) := ⟨own_below HL.out.1 hb6, HL.out.2.trans (hb6.mono HL.out.2.size)⟩; clear hb6 HL x1 x0)
            refine ⟨⟨kk, by omega, rfl, ?_, K6⟩, by simp [intOf]⟩
            first | rw [HYc.out, HYe.out] | rw [HYe.out]
      · obtain rfl : i = wn := by omega
        have K3 : Hid (Below W.heap.size W wr) := K1.out.2.trans (HJ.out.2.mono K1.out.2.size)
        obtain ⟨g, cap, rfl, hcell⟩ := own_bytes (xs := byL h lo i) (by simp [byL]) hw0 HJ.out.1
        have HC : Hid (∀ j, j < i → wr.cell? ⟨g, 0 + j, none⟩ = some (.int .u8 ((byL h lo i).getD j 0))) := hcell
        clear HJ hcell
        go_upto_region 13 with (go_at_call 13; refine (HW.out _).mono ?_; rintro e w2 ⟨rfl, hb2⟩; have K4 : Hid (Below W.heap.size W w2 ∧ ∀ j, j < i → w2.cell? ⟨g, 0 + j, none⟩ = some (.int .u8 ((byL h lo i).getD j 0))) := ⟨K3.out.trans (hb2.mono K3.out.size), fun j hj => keepc hb2 (HC.out j hj)⟩; clear hb2 K3 HC)
        have cv := run_convert_bytes_arg (P := Try.prog) w2 71 5 Try.underlying71 Try.underlying5 g 0 i cap (byL h lo i) (by simp [byL]) K4.out.2 9 Try.underlying9
        go_wp2
        go_ret
        exact ⟨rfl, K4.out.1⟩
set_option maxHeartbeats 8000000 in
set_option maxRecDepth 100000 in
theorem relems (l : Int) (a : Option Addr) (cap L : Nat) (es : List (Nat × Nat)) (hL : es.length = L) (hes : ltE es) (hn : L ≤ 1000) (W : World) (hr : ERow W a es) :
    Calls Try.prog 15 #[.int .i64 l, .slice a L cap] W fun e w' => e = .returned (.string (elemsS l es)) ∧ Below W.heap.size W w' := by
  obtain ⟨wn, hwn, hw16⟩ := wide_nat l
  have HW := hidE (fun v => rwide l v)
  rw [hwn] at HW
  have HNM := hidE (fun v => rnum_any (L : Int) v)
  have hz := numS_size (L : Int)
  by_cases h0 : wn = 0
  · subst h0
    have hS : elemsS l es = ⟨#[]⟩ := by unfold elemsS; rw [if_pos (by rw [hwn]; rfl)]
    rw [hS]
    clear hS hr hes
    go_enter Try.func15, Try.ntmps15
    go_wp2_with (first | (go_at_call 41; refine (HNM.out _).mono ?_; rintro e w1 ⟨rfl, hb1⟩) | (go_at_call 13; refine (HW.out _).mono ?_; rintro e w2 ⟨rfl, hb2⟩))
    go_ret
    exact ⟨rfl, hb1.trans (hb2.mono hb1.size)⟩
  · have HS : Hid (elemsS l es = if allB l es = true then ⟨((numS L).data.toList ++ elemsL l es).toArray⟩ else ⟨#[]⟩) := by show _ = _; unfold elemsS; rw [if_neg (by rw [hwn]; omega), hL]
    have w0 : ¬ (wn : Int) = 0 := by omega
    have w0' : ((wn : Int) == 0) = false := by rw [beq_eq_false_iff_ne]; exact w0
    have HR : Hid (ERow W a es ∧ es.length = L ∧ ltE es) := ⟨hr, hL, hes⟩
    clear hr hL hes hwn
    go_enter Try.func15, Try.ntmps15
    go_wp2_with (first | (go_at_call 41; refine (HNM.out _).mono ?_; rintro e w1 ⟨rfl, hb1⟩) | (go_at_call 13; refine (HW.out _).mono ?_; rintro e w2 ⟨rfl, hb2⟩; have K2 : Hid (Below W.heap.size W w2) := hb1.trans (hb2.mono hb1.size); clear hb1 hb2))
    go_loopw [5, 6] (fun s u wr => ∃ (k : Nat) (acc : ByteArray), k ≤ L ∧ u = .int .i64 k ∧ s = .string acc ∧ Hid (allB l (es.take k) = true) ∧ Hid (acc.data.toList = (numS L).data.toList ++ elemsL l (es.take k)) ∧ Hid (Below W.heap.size W wr)) (fun _ u _ => L - (intOf u).toNat)
    case atStart => exact ⟨0, _, Nat.zero_le _, rfl, rfl, (by rfl), (by show _ = _; simp [elemsL]), K2⟩
    case round =>
      obtain ⟨k, acc, hk, rfl, rfl, HA, HC, HK⟩ := hrel
      clear K2
      by_cases hlt : k < L
      · have k1 : (k : Int) < (L : Int) := by omega
        have k0 : (0 : Int) ≤ (k : Int) := by omega
        obtain ⟨b0, o0, rfl, hb0, d1, d0⟩ := HR.out.1.cells k (by rw [HR.out.2.1]; exact hlt)
        have D1 := keepc HK.out d1
        have D0 := keepc HK.out d0
        obtain ⟨hlt3, hlt4⟩ := HR.out.2.2.at k
        have HT : Hid (es.take (k + 1) = es.take k ++ [es.getD k (0, 0)]) := take_sn es k (by rw [HR.out.2.1]; exact hlt)
        have HM : Hid (es.getD k (0, 0) ∈ es) := by show _ ∈ _; rw [show es.getD k (0, 0) = es[k]'(by rw [HR.out.2.1]; exact hlt) by simp [HR.out.2.1, hlt]]; exact List.getElem_mem _
        have hlen := elemsL_len l (es.take k)
        have hlk : (es.take k).length = k := by rw [List.length_take, HR.out.2.1]; omega
        rw [hlk] at hlen
        have hsz : acc.size ≤ 4 + k * 16 := by rw [← data_size, HC.out, List.length_append, data_size]; omega
        have hes := elemS_len l ((es.getD k (0, 0)).1 : Int) ((es.getD k (0, 0)).2 : Int)
        rw [data_size] at hes
        have HOF := hidE (rof_any l (es.getD k (0, 0)).1 (es.getD k (0, 0)).2 hlt3 hlt4)
        have HBY := hidE (fun v => rbytes l (es.getD k (0, 0)).1 (es.getD k (0, 0)).2 hlt3 hlt4 v)
        clear d1 d0 hb0 hlk
        generalize es.getD k (0, 0) = e at *
        obtain ⟨hi, lo⟩ := e
        dsimp only at *
        rcases hof : ofB l (hi : Int) (lo : Int) with _ | _
        · rw [hof] at HOF
          have HF : Hid (allB l es = false) := by
            show _ = _
            unfold allB
            rw [List.all_eq_false]
            exact ⟨_, HM.out, by dsimp only; rw [hof]; decide⟩
          clear HT HBY hof
          go_wp2_with (go_at_call 9; refine (HOF.out.go _).mono ?_; rintro e w5 ⟨rfl, hb5⟩)
          go_ret
          exact ⟨by rw [HS.out, HF.out]; rfl, HK.out.trans (hb5.mono HK.out.size)⟩
        · rw [hof] at HOF
          have HA2 : Hid (allB l (es.take (k + 1)) = true) := by
            show _ = _
            have h := HA.out
            unfold allB at h ⊢
            rw [HT.out, List.all_append, h]
            simp [hof]
          have HN : Hid (elemsL l (es.take (k + 1)) = elemsL l (es.take k) ++ (elemS l (hi : Int) (lo : Int)).data.toList) := by show _ = _; rw [HT.out]; exact elemsL_snoc l _ (hi, lo)
          clear HT hof HA HM
          generalize elemS l (hi : Int) (lo : Int) = el at *
          go_wp2_with (first | (go_at_call 9; refine (HOF.out.go _).mono ?_; rintro e w5 ⟨rfl, hb5⟩; have K5 : Hid (Below W.heap.size W w5) := HK.out.trans (hb5.mono HK.out.size); have D1' := keepc hb5 D1; have D0' := keepc hb5 D0; clear hb5 HK D1 D0) | (go_at_call 11; refine (HBY.out _).mono ?_; rintro e w6 ⟨rfl, hb6⟩; have K6 : Hid (Below W.heap.size W w6) := K5.out.trans (hb6.mono K5.out.size); clear hb6 K5 D1' D0'))
          go_roundw
          case rel =>
            refine ⟨k + 1, _, hlt, by go_num, rfl, HA2, ?_, K6⟩
            show _ = _
            rw [data_append, HC.out, HN.out]
            simp
          case measure => simp [intOf]; omega
      · obtain rfl : k = L := by omega
        have ha := HA.out
        have hc := HC.out
        rw [List.take_of_length_le (by rw [HR.out.2.1]; exact Nat.le_refl _)] at ha hc
        have HQ : Hid (acc = elemsS l es) := by
          show _ = _
          rw [HS.out, if_pos ha]
          exact ba_ext (by simpa using hc)
        clear ha hc HA HC
        go_wp2
        go_ret
        exact ⟨ret_str HQ.out, HK.out⟩
end Go.Proofs.Yteejjgcfdndnpaa
