/- The stream of a seed: sponge.Stream and the document's, over the seat's translation. -/
import Derived.Test.YtbfhiemkpmjmoaaGreatRsA
import Derived.Test.YtbfhiemkpmjmoaaGreatRefA
namespace Go.Proofs.YtbfhiemkpmjmoaaGreat
open Go.RowKit

theorem data_ext (s : ByteArray) (i j : Nat) : (s.extract i j).data = s.data.extract i j := ByteArray.data_extract
theorem ba_eq {a b : ByteArray} (h : a.data = b.data) : a = b := by cases a; cases b; cases h; rfl
theorem ext_pre (a b : ByteArray) (i j : Nat) (h : j ≤ a.size) : (a ++ b).extract i j = a.extract i j := by
  apply ba_eq
  have hs : a.data.size = a.size := rfl
  rw [data_ext, data_ext, ByteArray.data_append, Array.extract_append]
  rw [show b.data.extract (i - a.data.size) (j - a.data.size) = #[] by rw [hs, show j - a.size = 0 by omega]; simp]
  simp
theorem ext_post (a b : ByteArray) (i j : Nat) : (a ++ b).extract (a.size + i) (a.size + j) = b.extract i j := by
  apply ba_eq
  have hs : a.data.size = a.size := rfl
  rw [data_ext, data_ext, ByteArray.data_append, Array.extract_append, hs]
  rw [show a.data.extract (a.size + i) (a.size + j) = #[] by rw [← hs]; simp]
  simp
theorem ext_cut (s : ByteArray) (m : Nat) (h : m ≤ s.size) : s.extract 0 m ++ s.extract m s.size = s := by
  apply ba_eq
  have hs : s.data.size = s.size := rfl
  rw [ByteArray.data_append, data_ext, data_ext, Array.extract_append_extract]
  simp [hs, h]
/-- The blocks of two texts, the first of which has whole ones. -/
theorem blks_two (a b : ByteArray) (q : Nat) (ha : a.size = 64 * q) : ∀ r, 64 * r ≤ b.size → blks (a ++ b) (q + r) = blks a q ++ blks b r := by
  intro r hr
  have hz : (a ++ b).size = a.size + b.size := ByteArray.size_append
  unfold blks
  rw [List.range_add, List.map_append, List.map_map]
  congr 1
  · refine List.map_congr_left fun k hk => Subtype.ext ?_
    have hk' : k < q := by simpa using hk
    rw [blk_eq _ _ (by omega), blk_eq _ _ (by omega)]
    exact ext_pre a b _ _ (by omega)
  · refine List.map_congr_left fun k hk => Subtype.ext ?_
    have hk' : k < r := by simpa using hk
    show (blk (a ++ b) (q + k)).1 = (blk b k).1
    rw [blk_eq _ _ (by omega), blk_eq _ _ (by omega), show 64 * (q + k) = a.size + 64 * k by omega, show a.size + 64 * k + 64 = a.size + (64 * k + 64) by omega]
    exact ext_post a b _ _
theorem prl_append (h : ByteArray) (a b : List Blk) : prl h (a ++ b) = prl (prl h a) b := by simp [prl]
/-- The rest of a seed behind its whole blocks. -/
def rst (s : ByteArray) : ByteArray := s.extract (64 * (s.size / 64)) s.size
theorem rst_size (s : ByteArray) : (rst s).size = s.size % 64 := by unfold rst; rw [ByteArray.size_extract]; omega
theorem fin_rst (s x : ByteArray) : fin (prl fst0 (blks s (s.size / 64))) (rst s ++ x) (s.size + x.size) = smv (s ++ x) := by
  unfold smv fin
  have hc : s.extract 0 (64 * (s.size / 64)) ++ rst s = s := ext_cut s _ (by omega)
  have hp : (s.extract 0 (64 * (s.size / 64))).size = 64 * (s.size / 64) := by rw [ByteArray.size_extract]; omega
  have hz : (s ++ x).size = s.size + x.size := ByteArray.size_append
  have e1 : s ++ x ++ fil (s ++ x).size = s.extract 0 (64 * (s.size / 64)) ++ (rst s ++ x ++ fil (s.size + x.size)) := by
    have e0 : s ++ x = s.extract 0 (64 * (s.size / 64)) ++ (rst s ++ x) := by rw [← ByteArray.append_assoc, hc]
    rw [hz, e0, ByteArray.append_assoc]
  have e2 : (s ++ x ++ fil (s ++ x).size).size / 64 = s.size / 64 + (rst s ++ x ++ fil (s.size + x.size)).size / 64 := by
    rw [e1, ByteArray.size_append, hp]; omega
  rw [e2, e1, blks_two _ _ _ hp _ (by omega), prl_append]
  have e3 : blks s (s.size / 64) = blks (s.extract 0 (64 * (s.size / 64))) (s.size / 64) := by
    unfold blks
    refine List.map_congr_left fun k hk => Subtype.ext ?_
    have hk' : k < s.size / 64 := by simpa using hk
    rw [blk_eq _ _ (by omega), blk_eq _ _ (by omega)]
    conv => lhs; rw [← hc]
    exact ext_pre _ _ _ _ (by omega)
  rw [e3]
/-- The digests of a seed and the numbers below k, one behind the other. -/
def catL (s : ByteArray) : Nat → List UInt8
  | 0 => []
  | k + 1 => catL s k ++ (smv (s ++ numS (k : Int))).data.toList
def cat (s : ByteArray) (k : Nat) : ByteArray := ⟨(catL s k).toArray⟩
theorem smv_size (s : ByteArray) : (smv s).size = 32 := fin_size _ _ _
theorem catL_len (s : ByteArray) : ∀ k, (catL s k).length = 32 * k
  | 0 => rfl
  | k + 1 => by
    have h := smv_size (s ++ numS (k : Int))
    have h2 : (smv (s ++ numS (k : Int))).data.toList.length = (smv (s ++ numS (k : Int))).size := by rw [Array.length_toList]; rfl
    show (catL s k ++ _).length = _
    rw [List.length_append, catL_len s k]
    omega
theorem cat_size (s : ByteArray) (k : Nat) : (cat s k).size = 32 * k := by show (catL s k).toArray.size = _; rw [List.size_toArray, catL_len]
theorem cat_succ (s : ByteArray) (k : Nat) : cat s k ++ smv (s ++ numS (k : Int)) = cat s (k + 1) := by
  apply ba_eq
  rw [ByteArray.data_append]
  show (catL s k).toArray ++ _ = (catL s k ++ _).toArray
  simp
theorem cat_pre (s : ByteArray) (k : Nat) : ∀ d, ∃ x, cat s (k + d) = cat s k ++ x
  | 0 => ⟨ByteArray.empty, by rw [Nat.add_zero, ByteArray.append_empty]⟩
  | d + 1 => by
    obtain ⟨x, hx⟩ := cat_pre s k d
    exact ⟨x ++ smv (s ++ numS ((k + d : Nat) : Int)), by rw [← ByteArray.append_assoc, ← hx, cat_succ]; rfl⟩
/-- How many digests n bytes want; the stream. -/
def dgs (n : Nat) : Nat := (n + 31) / 32
def stv (s : ByteArray) (n : Nat) : ByteArray := (cat s (dgs n)).extract 0 n
theorem stv_size (s : ByteArray) (n : Nat) : (stv s n).size = n := by unfold stv; rw [ByteArray.size_extract, cat_size]; unfold dgs; omega
theorem stv_less (s : ByteArray) (n m : Nat) (h : m ≤ n) : (stv s n).extract 0 m = stv s m := by
  unfold stv
  obtain ⟨x, hx⟩ := cat_pre s (dgs m) (dgs n - dgs m)
  rw [show dgs m + (dgs n - dgs m) = dgs n by unfold dgs; omega] at hx
  rw [hx]
  have hz := cat_size s (dgs m)
  apply ba_eq
  rw [data_ext, data_ext, data_ext, Array.extract_extract]
  have := congrArg ByteArray.data (ext_pre (cat s (dgs m)) x 0 m (by rw [hz]; unfold dgs; omega))
  rw [data_ext, data_ext] at this
  rw [← this]
  congr 1
  omega
theorem num_size (k : Nat) (hk : k ≤ 2147483647) : (numS (k : Int)).size = 4 := by
  rw [numS_ok _ (by omega) (by omega), strOfNums_size]; rfl
theorem builder_Len (B b : Nat) (bs : List Value) (w : World) (h : Lib.IsBuilderF 64 5 B b bs w) :
    Calls Tryz.prog 37 #[.pointer (some ⟨b, 0, none⟩)] w fun e w' => e = .returned (.int .i64 (bs.length : Nat)) ∧ w' = w := by
  obtain ⟨p, hB, v, hbk, hown, hne⟩ : ∃ p, Lib.BuilderAtF 64 5 B b p bs w := by
    rcases h with h | h
    · exact ⟨_, h⟩
    · exact ⟨_, h⟩
  obtain ⟨ao, cap, rfl⟩ : ∃ ao cap, v = .slice ao bs.length cap := by
    rcases hown.2 with ⟨hv, h0⟩ | ⟨g, cap, cur, fz, hv, _⟩
    · exact ⟨none, 0, by rw [hv, h0]⟩
    · exact ⟨_, _, hv⟩
  have c1 : w.cell? ⟨b, 1, none⟩ = some (.slice ao bs.length cap) := by rw [Lib.cell_of_heap hbk]; rfl
  clear hown hbk hne h
  generalize bs.length = n at *
  go_enter Tryz.func37, Tryz.ntmps37
  go_wp2
  go_ret
  exact ⟨rfl, rfl⟩
/-- What lies in memory while a stream is drawn. -/
structure Drw (W w : World) (g B b : Nat) (l : List UInt8) : Prop where
  t : Tab w g
  i : Lib.IsBuilderF 64 5 B b (Lib.byteCells l) w
  s : B ≤ w.heap.size
  gb : g < B
  d : Below W.heap.size W w
theorem Drw.below {W w w' : World} {g B b : Nat} {l : List UInt8} (h : Drw W w g B b l) (q : Below w.heap.size w w') : Drw W w' g B b l :=
  ⟨h.t.below q, builder_below h.i q, Nat.le_trans h.s q.size, h.gb, h.d.trans (q.mono h.d.size)⟩
set_option maxHeartbeats 4000000 in
set_option maxRecDepth 100000 in
theorem stream_ok (g n : Nat) (s : ByteArray) (hn : n ≤ 1048576) (hs : s.size ≤ 1048572) (W : World) (hT : Tab W g) :
    Calls Tryz.prog 16 #[.pointer (some ⟨g, 0, none⟩), .string s, .int .i64 (n : Int)] W fun e w' => e = .returned (.string (stv s n)) ∧ Below W.heap.size W w' := by
  have H0 : Hid (∀ w, Calls Tryz.prog 35 #[.int .i64 0] w fun e w' => ∃ x : ByteArray, x.size = 4 ∧ e = .returned (.string x) ∧ Below w.heap.size w w') := fun w => (num_any 0 w).mono fun e w' ⟨h1, h2⟩ => ⟨_, num_size 0 (by omega), h1, h2⟩
  have HN : Hid (∀ (k : Nat) w, Calls Tryz.prog 35 #[.int .i64 (k : Int)] w fun e w' => e = .returned (.string (numS (k : Int))) ∧ Below w.heap.size w w') := fun k w => num_any _ w
  have H1 : Hid (Ret 29 #[] (.string fst0)) := first_any
  have H2 : Hid (∀ w, Tab w g → Calls Tryz.prog 36 #[.pointer (some ⟨g, 0, none⟩), .string fst0, .string s] w fun e w' => e = .returned (.string (prl fst0 (blks s (s.size / 64)))) ∧ Below w.heap.size w w') := fun w t => pressed_ok g fst0 s fst0_size (by omega) w t
  have H3 : Hid (∀ (k : Nat) w, k ≤ 2147483647 → Tab w g → Calls Tryz.prog 28 #[.pointer (some ⟨g, 0, none⟩), .string (prl fst0 (blks s (s.size / 64))), .string (rst s ++ numS (k : Int)), .int .i64 ((s.size : Int) + 4)] w fun e w' => e = .returned (.string (smv (s ++ numS (k : Int)))) ∧ Below w.heap.size w w') := fun k w hk t => by
    have h4 := num_size k hk
    have h5 := rst_size s
    have := finish_ok g (prl fst0 (blks s (s.size / 64))) (rst s ++ numS (k : Int)) (s.size + 4) (prl_size _ fst0_size _) (by rw [ByteArray.size_append]; omega) (by omega) w t
    rw [show s.size + 4 = s.size + (numS (k : Int)).size by rw [h4], fin_rst] at this
    rw [h4] at this
    exact this
  have hr : s.extract (64 * (s.size / 64)) s.size = rst s := rfl
  have hrs : (rst s).size ≤ 63 := by have := rst_size s; omega
  have q1 : (s.size : Int).tdiv 64 = ((s.size / 64 : Nat) : Int) := by rw [Int.tdiv_eq_ediv_of_nonneg (by omega)]; omega
  obtain ⟨m, hm⟩ : ∃ m, m = s.size / 64 := ⟨_, rfl⟩
  obtain ⟨mm, hmm⟩ : ∃ mm, mm = 64 * m := ⟨_, rfl⟩
  rw [← hm] at q1 hr
  rw [← hmm] at hr
  have q2 : (s.size : Int) / 64 = (m : Int) := by omega
  have q3 : (m : Int) * 64 = (mm : Int) := by omega
  have q4 : (mm : Int) ≤ (s.size : Int) := by omega
  have q5 : (0 : Int) ≤ (mm : Int) := by omega
  have n0 : ¬ (n : Int) < 0 := by omega
  have n1 : ¬ (1048576 : Int) < (n : Int) := by omega
  obtain ⟨L, hL⟩ : ∃ L, L = s.size + 4 := ⟨_, rfl⟩
  have l1 : (s.size : Int) + 4 = (L : Int) := by omega
  have n2 : ¬ (1048576 : Int) < (L : Int) := by omega
  rw [l1] at H3
  clear hL
  have HM : Hid (dgs n * 32 ≥ n ∧ (∀ k, k < dgs n → 32 * k < n)) := ⟨by unfold dgs; omega, fun k hk => by unfold dgs at hk; omega⟩
  have hd : dgs n ≤ 40000 := by unfold dgs; omega
  have HV : Hid (stv s n = (cat s (dgs n)).extract 0 n) := (rfl : stv s n = (cat s (dgs n)).extract 0 n)
  have HT : Hid (Hold W W g) := ⟨hT, Below.refl _ _⟩
  have hgl : g < W.heap.size := World.rowIs.lt hT
  clear hT hm hmm
  generalize prl fst0 (blks s (s.size / 64)) = h0 at *
  generalize hdd : dgs n = d at *
  clear hdd
  generalize rst s = rs at *
  generalize fst0 = f0 at *
  generalize stv s n = R at *
  go_enter Tryz.func16, Tryz.ntmps16
  go_wp2_with (first | (go_at_call 35; refine (H0.out _).mono ?_; rintro e w1 ⟨x4, hx4, rfl, hb1⟩; have HT1 : Hid (Hold W w1 g) := HT.out.below hb1; clear hb1) | (go_at_call 29; refine (H1.out.go _).mono ?_; rintro e w2 ⟨rfl, hb2⟩; have HT2 : Hid (Hold W w2 g) := HT1.out.below hb2; clear hb2) | (go_at_call 36; refine (H2.out _ HT2.out.t).mono ?_; rintro e w3 ⟨rfl, hb3⟩; have HT3 : Hid (Hold W w3 g) := HT2.out.below hb3; clear hb3))
  have HD0 : Hid (Drw W (w3.alloc (.cells #[.pointer none, .slice none 0 0] 64)) g w3.heap.size w3.heap.size []) := ⟨HT3.out.t.below (below_laid _ _), Lib.IsBuilderF.of (Lib.fresh_isBuilder 64 5 w3), by simp, Nat.lt_of_lt_of_le hgl HT3.out.d.size, HT3.out.d.alloc HT3.out.d.size _⟩
  have hWB : W.heap.size ≤ w3.heap.size := HT3.out.d.size
  clear HT HT1 HT2 HT3 H0 H1 H2
  generalize w3.alloc (.cells #[.pointer none, .slice none 0 0] 64) = w4 at *
  generalize w3.heap.size = B at *
  clear q1 q2 q3 q4 q5 n0 n1 n2 hr l1
  go_loopw [11] (fun u wr => ∃ k : Nat, k ≤ d ∧ u = .int .i64 k ∧ Hid (Drw W wr g B B (catL s k))) (fun u _ => d - (intOf u).toNat)
  case atStart => exact ⟨0, Nat.zero_le _, rfl, HD0⟩
  case round =>
    obtain ⟨k, hk, rfl, HD⟩ := hrel
    clear HD0
    have HL : Hid (Calls Tryz.prog 37 #[.pointer (some ⟨B, 0, none⟩)] wr fun e w' => e = .returned (.int .i64 ((32 * k : Nat) : Int)) ∧ w' = wr) := by
      have := builder_Len B B _ wr HD.out.i
      rw [Lib.byteCells_length, catL_len] at this
      exact this
    obtain ⟨kk, hkk⟩ : ∃ kk, kk = 32 * k := ⟨_, rfl⟩
    rw [← hkk] at HL
    have hM := HM.out
    by_cases hlt : k < d
    · have k1 : (kk : Int) < (n : Int) := by have := hM.2 k hlt; omega
      have HS := H3.out k
      have hns := num_size k (by omega)
      have HW : Hid (∀ w, Drw W w g B B (catL s k) → Calls Tryz.prog 38 #[.pointer (some ⟨B, 0, none⟩), .string (smv (s ++ numS (k : Int)))] w fun e w' => ∃ r, e = .returned r ∧ Drw W w' g B B (catL s (k + 1))) := fun w D => by
        refine (builder_WriteString B B _ (smv (s ++ numS (k : Int))) w D.i (by rw [Lib.byteCells_length, catL_len, smv_size]; omega) D.s).mono ?_
        rintro e w' ⟨rfl, h4, hb4, _⟩
        refine ⟨_, rfl, World.rowIs.of_block D.t (hb4.block g D.gb), .inr ?_, Nat.le_trans D.s hb4.size, D.gb, D.d.trans (hb4.mono hWB)⟩
        have e1 : Lib.byteCells (catL s (k + 1)) = Lib.byteCells (catL s k) ++ Lib.strCells (smv (s ++ numS (k : Int))) := by
          show Lib.byteCells (catL s k ++ _) = _
          rw [Lib.byteCells_append, Lib.strCells_eq]
        rw [e1]
        exact h4
      have HSm : Hid (∀ w, Tab w g → Calls Tryz.prog 28 #[.pointer (some ⟨g, 0, none⟩), .string h0, .string (rs ++ numS (k : Int)), .int .i64 (L : Int)] w fun e w' => e = .returned (.string (smv (s ++ numS (k : Int)))) ∧ Below w.heap.size w w') := fun w t => HS w (by omega) t
      have HNk : Hid (∀ w, Calls Tryz.prog 35 #[.int .i64 (k : Int)] w fun e w' => e = .returned (.string (numS (k : Int))) ∧ Below w.heap.size w w') := fun w => HN.out k w
      clear HS hM hkk
      generalize smv (s ++ numS (k : Int)) = dg at *
      generalize numS (k : Int) = nm at *
      go_wp2_with (first | (go_at_call 37; refine HL.out.mono ?_; rintro e w9 ⟨rfl, hw⟩; obtain rfl := hw.symm; clear hw) | (go_at_call 35; refine (HNk.out _).mono ?_; rintro e w5 ⟨rfl, hb5⟩; have HD5 : Hid (Drw W w5 g B B (catL s k)) := HD.out.below hb5; clear hb5) | (go_at_call 28; refine (HSm.out _ HD5.out.t).mono ?_; rintro e w6 ⟨rfl, hb6⟩; have HD6 : Hid (Drw W w6 g B B (catL s k)) := HD5.out.below hb6; clear hb6) | (go_at_call 38; refine (HW.out _ HD6.out).mono ?_; rintro e w7 ⟨r7, rfl, hD7⟩; have HD7 : Hid (Drw W w7 g B B (catL s (k + 1))) := hD7; clear hD7))
      exact ⟨⟨k + 1, hlt, by simp, HD7⟩, by simp [intOf]; omega⟩
    · obtain rfl : k = d := by omega
      have k1 : ¬ (kk : Int) < (n : Int) := by omega
      have HStr : Hid (Calls Tryz.prog 39 #[.pointer (some ⟨B, 0, none⟩)] wr fun e w' => e = .returned (.string (cat s k)) ∧ Below W.heap.size wr w') := (builder_String B B _ wr HD.out.i HD.out.s).mono fun e w' ⟨h1, _, h3, _⟩ => ⟨h1, h3.mono hWB⟩
      have hcz : (cat s k).size = kk := by rw [cat_size]; omega
      have c1 : (n : Int) ≤ ((cat s k).size : Int) := by omega
      clear hM hkk hcz
      generalize cat s k = C at *
      go_wp2_with (first | (go_at_call 37; refine HL.out.mono ?_; rintro e w9 ⟨rfl, hw⟩; obtain rfl := hw.symm; clear hw) | (go_at_call 39; refine HStr.out.mono ?_; rintro e w5 ⟨rfl, hb5⟩))
      go_ret
      exact ⟨by rw [HV.out]; rfl, HD.out.d.trans hb5⟩
end Go.Proofs.YtbfhiemkpmjmoaaGreat
