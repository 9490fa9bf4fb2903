/- The contracts of the document's zeros, Fill and Sum of layer 11 over the seat's translation. -/
import Derived.Test.YtopmkooegpaeaaaGreatSpG
import Derived.Laws.AppendOwn
import Derived.Laws.BytesArg
import Derived.Laws.IdiomStrings
import Derived.Deep.OwnRows
import Derived.Deep.RegionHeld3
namespace Go.Proofs.YtopmkooegpaeaaaGreat
open Go.RowKit

/-- So many bytes 0. -/
def zrs (n : Nat) : ByteArray := ⟨(Lib.repeatL [0] n).toArray⟩
theorem rep_replicate (n : Nat) : Lib.repeatL [(0 : UInt8)] n = List.replicate n 0 := by
  induction n with
  | zero => rfl
  | succ n ih => unfold Lib.repeatL; rw [ih]; rfl
theorem zrs_size (n : Nat) : (zrs n).size = n := by show (Lib.repeatL [(0 : UInt8)] n).toArray.size = n; rw [List.size_toArray, rep_len]
def zcs (n : Nat) : List Value := List.replicate n (.int .u8 0)
theorem zcs_succ (n : Nat) : zcs (n + 1) = zcs n ++ [.int .u8 0] := List.replicate_succ'
/-- Zeros that are owned, as a text. -/
theorem conv_zeros {w : World} {base : Nat} {v : Value} {n : Nat} (h : w.ownsRow base 5 1 v n (zcs n)) : (convert 51 9 v).run Tryz.prog w = .ok (.string (zrs n)) w := by
  rcases h.2 with ⟨rfl, rfl⟩ | ⟨g, cap, cur, rfl, _, hg, hle, _, hs, ht⟩
  · exact run_convert_bytes_nil (P := Tryz.prog) w 51 5 Tryz.underlying51 Tryz.underlying5 0 0 9 Tryz.underlying9
  · have hcv := run_convert_bytes_back (P := Tryz.prog) w 51 9 5 ⟨g, 0, none⟩ cap (List.replicate n (0 : UInt8)) Tryz.underlying51 Tryz.underlying5 Tryz.underlying9 (fun j hj => by
      have hj' : j < n := by simpa using hj
      rw [Addr.add_mid, Nat.zero_add]
      have h1 : (cur.toList.take (n * 1))[j]? = (zcs n)[j]? := by rw [ht]
      rw [List.getElem?_take_of_lt (by omega)] at h1
      have h2 : (zcs n)[j]? = some (.int .u8 0) := by unfold zcs; rw [List.getElem?_replicate, if_pos hj']
      rw [h2] at h1
      simp [World.cell?, hg, ← h1])
    rw [List.length_replicate] at hcv
    rw [hcv]
    unfold zrs
    rw [rep_replicate]
set_option maxHeartbeats 2000000 in
set_option maxRecDepth 100000 in
theorem rzeros_any (n : Nat) (hn : n ≤ 100) : Ret 49 #[.int .i64 (n : Int)] (.string (zrs n)) := by
  intro W
  obtain ⟨j0, hj0, jz0, jz1, jz2⟩ := info_u8
  have HJ : Hid (Tryz.prog.info? 5 = some j0 ∧ j0.zero = some (.int .u8 0) ∧ j0.size = 1 ∧ j0.bytes = 1) := ⟨hj0, jz0, jz1, jz2⟩
  clear hj0 jz0 jz1 jz2
  go_enter Tryz.func49, Tryz.ntmps49
  go_wp2
  go_loopw [3, 4] (fun v u wr => ∃ j : Nat, j ≤ n ∧ u = .int .i64 j ∧ Hid (wr.ownsRow W.heap.size 5 1 v j (zcs j)) ∧ Hid (Below W.heap.size W wr)) (fun _ u _ => n - (intOf u).toNat)
  case atStart => exact ⟨0, by omega, rfl, World.ownsRow_nil _ _ _ _, Below.refl _ _⟩
  case round =>
    obtain ⟨j, hj, rfl, HO, HB⟩ := hrel
    by_cases hlt : j < n
    · have i1 : (j : Int) < (n : Int) := by omega
      go_wp2_with (at_builtin; refine wpList_append_own _ rfl _ _ 51 rfl W.heap.size 5 j0 (.int .u8 0) 1 1 Tryz.underlying51 HJ.out.1 HJ.out.2.1 HJ.out.2.2.1 HJ.out.2.2.2 rfl (by decide) u3 j (zcs j) rfl (own_below HO.out (below_laid _ _)) ⟨wr.heap.size, 0, none⟩ 1 1 [.int .u8 0] rfl rfl ?c1 ?c2 (by simp only [maxLen]; omega) (by omega) ?c3 ?c4)
      case c1 => exact fun p u hu => by rcases p with _ | p <;> simp at hu; subst hu; simp [go_sem]
      case c2 => intro u hu; simp at hu; subst hu; rfl
      case c3 => have := HB.out.size; simp; omega
      case c4 =>
        intro v' w' hown' hgr _
        go_wp2
        refine ⟨⟨j + 1, hlt, by simp, ?_, ?_⟩, by simp [intOf]; omega⟩
        · rw [zcs_succ]; exact hown'
        · exact (HB.out.alloc HB.out.size _).grown hgr (by have := HB.out.size; simp; omega) fun q hq => (HO.out.lt q hq).1
    · obtain rfl : j = n := by omega
      have i1 : ¬ (j : Int) < (j : Int) := by omega
      have hcv := conv_zeros HO.out
      clear HO
      generalize hz : zrs j = z at *
      have HZ : Hid (zrs j = z) := hz
      clear hz
      go_wp2
      go_ret
      exact ⟨by rw [HZ.out]; rfl, HB.out⟩
/-- A row that is owned, as a row by the index. -/
theorem own_row1 {w : World} {base : Nat} {T : TypeId} {v : Value} {n : Nat} {xs : List Value} (h : w.ownsRow base T 1 v n xs) (hn : 0 < n) : ∃ g cap f, v = .slice (some ⟨g, 0, none⟩) n cap ∧ n ≤ cap ∧ base ≤ g ∧ w.rowIs g T cap f := by
  rcases h.2 with ⟨_, h0⟩ | ⟨g, cap, cur, rfl, hb, hg, hle, _, hs, _⟩
  · omega
  · exact ⟨g, cap, fun i => cur.getD i undef, rfl, hle, hb, cur, hg, by omega, fun i hi => by
      show cur[i]? = some (cur.getD i undef)
      rw [Array.getD_eq_getD_getElem?, Array.getElem?_eq_getElem (by omega)]; rfl⟩
/-- How many zeros a text of n bytes is filled up with. -/
def gap (n : Nat) : Nat := nb n * 64 - n - 9
theorem gap_le (n : Nat) : gap n ≤ 63 := by unfold gap nb; omega
theorem gap_end (n : Nat) : (n + 1 + gap n + 8) % 64 = 0 := by unfold gap nb; omega
theorem gap_ne (n j : Nat) (h : j < gap n) : (n + 1 + j + 8) % 64 ≠ 0 := by unfold gap nb at h; omega
theorem gap_nb (n : Nat) : (n + 1 + gap n + 8) / 64 = nb n := by unfold gap nb; omega
theorem ful_zrs (s : ByteArray) : s ++ ByteArray.mk #[128] ++ zrs (gap s.size) ++ hf8 (nb s.size) = ful s := by
  unfold ful fil zrs gap
  rw [ByteArray.append_assoc, ByteArray.append_assoc, ByteArray.append_assoc]
set_option maxHeartbeats 4000000 in
set_option maxRecDepth 100000 in
theorem rfill_any (s : ByteArray) (hs : s.size ≤ 1000000) : Ret 50 #[.string s] (.string (ful s)) := by
  intro W
  obtain ⟨j0, hj0, jz0, jz1, jz2⟩ := info_u8
  have HJ : Hid (Tryz.prog.info? 5 = some j0 ∧ j0.zero = some (.int .u8 0) ∧ j0.size = 1 ∧ j0.bytes = 1) := ⟨hj0, jz0, jz1, jz2⟩
  clear hj0 jz0 jz1 jz2
  have HZ : Hid (Ret 49 #[.int .i64 ((gap s.size : Nat) : Int)] (.string (zrs (gap s.size)))) := rzeros_any _ (by have := gap_le s.size; omega)
  have HF : Hid (s ++ ByteArray.mk #[128] ++ zrs (gap s.size) ++ hf8 (nb s.size) = ful s) := ful_zrs s
  have HG1 : Hid ((s.size + 1 + gap s.size + 8) % 64 = 0 ∧ ∀ j, j < gap s.size → (s.size + 1 + j + 8) % 64 ≠ 0) := ⟨gap_end _, gap_ne _⟩
  have hq1 : ((s.size : Int) + 1 + ((gap s.size : Nat) : Int) + 8) / 64 = ((nb s.size : Nat) : Int) := by have := gap_nb s.size; omega
  have hq2 : ((s.size : Int) + 1 + ((gap s.size : Nat) : Int) + 8).tdiv 64 = ((nb s.size : Nat) : Int) := by rw [Int.tdiv_eq_ediv_of_nonneg (by omega)]; exact hq1
  have hgl := gap_le s.size
  have hnl : nb s.size ≤ 20000 := by unfold nb; omega
  have s1 : (ByteArray.mk #[128]).size = 1 := rfl
  have s2 : (s ++ ByteArray.mk #[128]).size = s.size + 1 := by rw [ByteArray.size_append]; rfl
  have s3 : (zrs (gap s.size)).size = gap s.size := zrs_size _
  have s4 : (s ++ ByteArray.mk #[128] ++ zrs (gap s.size)).size = s.size + 1 + gap s.size := by rw [ByteArray.size_append, s2, s3]
  have s5 := hf8_size (nb s.size)
  generalize ful s = R at *
  generalize zrs (gap s.size) = z at *
  generalize gap s.size = q at *
  generalize hm : nb s.size = m at *
  clear hm
  generalize hn : s.size = n at *
  go_enter Tryz.func50, Tryz.ntmps50
  go_wp2
  go_loopw [3] (fun u wr => ∃ j : Nat, j ≤ q ∧ u = .int .i64 j ∧ W = wr) (fun u _ => q - (intOf u).toNat)
  case atStart => exact ⟨0, Nat.zero_le _, rfl, rfl⟩
  case round =>
    obtain ⟨j, hj, rfl, rfl⟩ := hrel
    by_cases hlt : j < q
    · have h1 := HG1.out.2 j hlt
      have i1 : ¬ ((n : Int) + 1 + (j : Int) + 8).tmod 64 = 0 := by rw [Int.tmod_eq_emod_of_nonneg (by omega)]; omega
      have i2 : ¬ ((n : Int) + 1 + (j : Int) + 8) % 64 = 0 := by omega
      clear h1
      go_wp2
      exact ⟨⟨j + 1, hlt, by simp, by first | rfl | trivial⟩, by simp [intOf]; omega⟩
    · obtain rfl : j = q := by omega
      have h1 := HG1.out.1
      have i1 : ((n : Int) + 1 + (j : Int) + 8).tmod 64 = 0 := by rw [Int.tmod_eq_emod_of_nonneg (by omega)]; omega
      have i2 : ((n : Int) + 1 + (j : Int) + 8) % 64 = 0 := by omega
      clear h1 HG1
      go_wp2_with (go_at_call 49; refine (HZ.out.go _).mono ?_; rintro e w1 ⟨rfl, hb1⟩)
      have HB1 : Hid (Below W.heap.size W w1) := hb1
      clear hb1 i1 i2 hq1 hq2 HZ
      generalize s ++ ByteArray.mk #[128] ++ z = t at *
      go_loopw [6, 7] (fun v u wr => ∃ k : Nat, k ≤ 8 ∧ u = .int .i64 k ∧ Hid (wr.ownsRow W.heap.size 5 1 v k (zcs k)) ∧ Hid (Below W.heap.size W wr)) (fun _ u _ => 8 - (intOf u).toNat)
      case atStart => exact ⟨0, by omega, rfl, World.ownsRow_nil _ _ _ _, HB1⟩
      case round =>
        rename World => w2
        obtain ⟨k, hk, rfl, HO, HB⟩ := hrel
        clear HB1
        by_cases hkl : k < 8
        · have i1 : (k : Int) < 8 := by omega
          go_wp2_with (at_builtin; refine wpList_append_own _ rfl _ _ 51 rfl W.heap.size 5 j0 (.int .u8 0) 1 1 Tryz.underlying51 HJ.out.1 HJ.out.2.1 HJ.out.2.2.1 HJ.out.2.2.2 rfl (by decide) u6 k (zcs k) rfl (own_below HO.out (below_laid _ _)) ⟨w2.heap.size, 0, none⟩ 1 1 [.int .u8 0] rfl rfl ?c1 ?c2 (by simp only [maxLen]; omega) (by omega) ?c3 ?c4)
          case c1 => exact fun p u hu => by rcases p with _ | p <;> simp at hu; subst hu; simp [go_sem]
          case c2 => intro u hu; simp at hu; subst hu; rfl
          case c3 => have := HB.out.size; simp; omega
          case c4 =>
            intro v' w' hown' hgr _
            go_wp2
            refine ⟨⟨k + 1, hkl, by simp, ?_, ?_⟩, by simp [intOf]; omega⟩
            · rw [zcs_succ]; exact hown'
            · exact (HB.out.alloc HB.out.size _).grown hgr (by have := HB.out.size; simp; omega) fun q hq => (HO.out.lt q hq).1
        · have e8 : k = 8 := by omega
          have i1 : ¬ (k : Int) < 8 := by omega
          rw [e8] at HO
          obtain ⟨g, cap, f0, rfl, hcap, hgb, hR0⟩ := own_row1 HO.out (by decide)
          have R0 : Hid (w2.rowIs g 5 cap f0) := hR0
          clear HO hR0
          go_wp2
          go_loopw [5, 8] (fun v u wr => ∃ (i : Nat) (y : Nat) (f : Nat → Value), i ≤ 8 ∧ u = .int .i64 ((i : Int) - 1) ∧ v = .int .i64 (y : Int) ∧ Hid (y = m / 2 ^ (8 * (8 - i))) ∧ Hid (wr.rowIs g 5 cap f) ∧ Hid (∀ p, i ≤ p → p < 8 → f p = .int .u8 ((m / 2 ^ (8 * (7 - p)) % 256 : Nat) : Int)) ∧ Hid (Below W.heap.size W wr)) (fun _ u _ => (intOf u + 1).toNat)
          case atStart => exact ⟨8, m, f0, by omega, by simp, rfl, (by simp : m = m / 2 ^ (8 * (8 - 8))), R0, (fun p h1 h2 => by omega), HB⟩
          case round =>
            rename World => w3
            obtain ⟨i, y, f, hi, rfl, rfl, HY, HR, HP, HD⟩ := hrel
            clear R0 HB
            rcases i with _ | i
            · have hcv : (convert 51 9 (.slice (some ⟨g, 0, none⟩) 8 cap)).run Tryz.prog w3 = .ok (.string (hf8 m)) w3 := by
                have := run_convert_bytes_back (P := Tryz.prog) w3 51 9 5 ⟨g, 0, none⟩ cap ((List.range 8).map fun j => UInt8.ofNat (m / 2 ^ (8 * (7 - j)))) Tryz.underlying51 Tryz.underlying5 Tryz.underlying9 (fun j hj => by
                  have hj' : j < 8 := by simpa using hj
                  rw [Addr.add_mid, Nat.zero_add, HR.out.cell (by omega), HP.out j (by omega) hj']
                  simp)
                rw [show ((List.range 8).map fun j => UInt8.ofNat (m / 2 ^ (8 * (7 - j)))).length = 8 by simp] at this
                exact this
              generalize hf8 m = y8 at *
              go_wp2
              go_ret
              exact ⟨by rw [← HF.out]; rfl, HD.out⟩
            · have i0 : ((i + 1 : Nat) : Int) - 1 = (i : Int) := by omega
              rw [i0]
              have i1 : (0 : Int) ≤ (i : Int) := by omega
              have i2 : (i : Int) < 8 := by omega
              have yl : y ≤ 20000 := by rw [HY.out]; exact Nat.le_trans (Nat.div_le_self _ _) hnl
              have t1 : (y : Int).tmod 256 = ((y % 256 : Nat) : Int) := by rw [Int.tmod_eq_emod_of_nonneg (by omega)]; omega
              have t2 : (y : Int).tdiv 256 = ((y / 256 : Nat) : Int) := by rw [Int.tdiv_eq_ediv_of_nonneg (by omega)]; omega
              have t3 : (y : Int) % 256 = ((y % 256 : Nat) : Int) := by omega
              have t4 : (y : Int) / 256 = ((y / 256 : Nat) : Int) := by omega
              have HY2 : Hid (y / 256 = m / 2 ^ (8 * (8 - i))) := by
                show _ = _
                rw [HY.out, Nat.div_div_eq_div_mul, show (256 : Nat) = 2 ^ 8 by decide, ← Nat.pow_add]
                congr 2
                omega
              have HY3 : Hid (y % 256 = m / 2 ^ (8 * (7 - i)) % 256) := by
                show _ = _
                rw [HY.out, show 8 - (i + 1) = 7 - i by omega]
              have hx : y % 256 < 256 := Nat.mod_lt _ (by decide)
              generalize hxx : y % 256 = x at *
              generalize hyy : y / 256 = y2 at *
              clear hxx hyy
              have w1 : IntKind.u8.wrap (x : Int) = (x : Int) := by rw [IntKind.wrap_u8]; omega
              have w2' : (x : Int) % 256 = (x : Int) := by omega
              have c0 := HR.out.cell (i := i) (by omega)
              have z0 := HR.out.frozen i
              go_wp2
              refine ⟨⟨i, y2, _, by omega, by simp, rfl, HY2, HR.out.set i _, fun p h1 h2 => ?_, HD.out.setCell hgb _⟩, by simp [intOf]⟩
              by_cases e : p = i
              · rw [if_pos e, e, ← HY3.out]
              · rw [if_neg e]; exact HP.out p (by omega) h2
set_option maxHeartbeats 1000000 in
set_option maxRecDepth 100000 in
theorem rsum_ok (gB cB gT cT : Nat) (gs cs : Nat → Nat) (s : ByteArray) (hs : s.size ≤ 1000000) (W : World) (hR : RTab W gB gT gs cs) :
    Calls Tryz.prog 26 #[.agg #[.slice (some ⟨gB, 0, none⟩) 256 cB, .slice (some ⟨gT, 0, none⟩) 8 cT], .string s] W fun e w' => e = .returned (.string (smv s)) ∧ Below W.heap.size W w' := by
  have HZ : Hid (Ret 49 #[.int .i64 62] (.string (zrs 62))) := rzeros_any 62 (by decide)
  have HF : Hid (Ret 50 #[.string s] (.string (ful s))) := rfill_any s hs
  have H0 : Hid (zrs 62 ++ ByteArray.mk #[1, 0] = fst0) := (rfl : zrs 62 ++ ByteArray.mk #[1, 0] = fst0)
  have z1 : (zrs 62).size = 62 := zrs_size _
  have z2 : (ByteArray.mk #[1, 0]).size = 2 := rfl
  have HS : Hid (smv s = cls (prl fst0 (blks (ful s) ((ful s).size / 64)))) := (rfl : smv s = cls (prl fst0 (blks (ful s) ((ful s).size / 64))))
  have HN : Hid ((ful s).size = 64 * nb s.size) := by have := ful_size s; show _ = _; omega
  have hnl : nb s.size ≤ 20000 := by unfold nb; omega
  have hfl : (ful s).size ≤ 2000000 := by rw [HN.out]; omega
  have HK0 : Hid (RTab W gB gT gs cs) := hR
  clear hR
  generalize nb s.size = m at *
  generalize hF : ful s = F at *
  clear hF
  generalize smv s = R at *
  generalize zrs 62 = z at *
  go_enter Tryz.func26, Tryz.ntmps26
  go_wp2_with fail
  have K : Pk W (W.alloc (Obj.cells #[.slice (some ⟨gB, 0, none⟩) 256 cB, .slice (some ⟨gT, 0, none⟩) 8 cT] 31)) gB cB gT cT gs cs W.heap.size := ⟨HK0.out.below ((Below.refl _ _).alloc (Nat.le_refl _) _), by simp [go_sem], by simp [go_sem], (Below.refl _ _).alloc (Nat.le_refl _) _⟩
  clear HK0
  generalize W.alloc (Obj.cells #[.slice (some ⟨gB, 0, none⟩) 256 cB, .slice (some ⟨gT, 0, none⟩) 8 cT] 31) = w0 at *
  have HK : Hid (Pk W w0 gB cB gT cT gs cs W.heap.size) := K
  clear K
  generalize hb : W.heap.size = b at *
  go_wp2_with (first | (go_at_call 49; refine (HZ.out.go _).mono ?_; rintro e w1 ⟨rfl, hb1⟩; have HK1 : Hid (Pk W w1 gB cB gT cT gs cs b) := HK.out.below hb1; clear hb1) | (go_at_call 50; refine (HF.out.go _).mono ?_; rintro e w2 ⟨rfl, hb2⟩; have HK2 : Hid (Pk W w2 gB cB gT cT gs cs b) := HK1.out.below hb2; clear hb2))
  rw [H0.out]
  clear HK HK1 HZ HF z1 z2 H0
  go_loopw [5, 7] (fun v u wr => ∃ (k i : Nat) (h : ByteArray), k ≤ m ∧ Hid (i = 64 * k) ∧ v = .string h ∧ u = .int .i64 (i : Int) ∧ Hid (h = prl fst0 (blks F k)) ∧ Hid (Pk W wr gB cB gT cT gs cs b)) (fun _ u _ => 64 * m + 64 - (intOf u).toNat)
  case atStart => exact ⟨0, 0, fst0, Nat.zero_le _, (rfl : 0 = 64 * 0), rfl, rfl, (rfl : fst0 = prl fst0 (blks F 0)), HK2⟩
  case round =>
    obtain ⟨k, i, h, hk, HIK, rfl, rfl, HH, HK⟩ := hrel
    clear HK2
    have hN := HN.out
    have hik := HIK.out
    have il : i ≤ 1280000 := by omega
    by_cases hlt : k < m
    · obtain ⟨q, he⟩ : ∃ q, q = i + 64 := ⟨_, rfl⟩
      have i1 : (i : Int) + 64 = (q : Int) := by omega
      have e1 : (q : Int) ≤ (F.size : Int) := by omega
      have e2 : (i : Int) ≤ (q : Int) := by omega
      have e3 : (0 : Int) ≤ (q : Int) := by omega
      have i2 : (0 : Int) ≤ (i : Int) := by omega
      have e4 : IntKind.i64.wrap (q : Int) = (q : Int) := by rw [IntKind.wrap_i64]; omega
      have hx : (blk F k).1 = F.extract i q := by rw [he, hik]; exact blk_eq F k (by omega)
      have hsz : (F.extract i q).size = 64 := by rw [ByteArray.size_extract]; omega
      have HE : Hid (q = i + 64) := he
      clear he
      have hh : h.size = 64 := by rw [HH.out]; exact prl_size _ fst0_size _
      have HP : Hid (∀ w, RTab w gB gT gs cs → Calls Tryz.prog 51 #[.agg #[.slice (some ⟨gB, 0, none⟩) 256 cB, .slice (some ⟨gT, 0, none⟩) 8 cT], .string h, .string (F.extract i q)] w fun e w' => e = .returned (.string (prs h (F.extract i q))) ∧ Below w.heap.size w w') := fun w r => rpress_any gB cB gT cT gs cs h _ hh hsz w r
      have HX : Hid (prs h (F.extract i q) = prl fst0 (blks F (k + 1))) := by show _ = _; rw [blks_succ, prl_snoc, ← HH.out, hx]
      generalize prs h (F.extract i q) = h2 at *
      have F0 := HK.out.facts
      have K := HK.out
      clear HK hx hsz hh hN hik
      go_wp2
      go_region_held3 (fun w => w.cell? ⟨b, 0, none⟩ = some (.slice (some ⟨gB, 0, none⟩) 256 cB) ∧ w.cell? ⟨b, 1, none⟩ = some (.slice (some ⟨gT, 0, none⟩) 8 cT)) (go_keep) (first | (go_at_call 51; refine (HP.out _ (by first | exact K.t | exact K.drew.t)).mono ?_; rintro e w' ⟨rfl, hb'⟩; have K' := Pk.below (w' := w') (by first | exact K | exact K.drew) hb'; clear F0 K hb'; have K := K'; clear K'; have F0 := K.facts))
      go_wp2
      have hE := HE.out
      have hik := HIK.out
      exact ⟨⟨k + 1, q, h2, hlt, (by show q = 64 * (k + 1); omega), rfl, by simp, HX, K⟩, by simp [intOf]; omega⟩
    · obtain rfl : k = m := by omega
      have i1 : ¬ (i : Int) + 64 ≤ (F.size : Int) := by omega
      have hh : h.size = 64 := by rw [HH.out]; exact prl_size _ fst0_size _
      have HC : Hid (∀ w, RTab w gB gT gs cs → Calls Tryz.prog 52 #[.agg #[.slice (some ⟨gB, 0, none⟩) 256 cB, .slice (some ⟨gT, 0, none⟩) 8 cT], .string h] w fun e w' => e = .returned (.string (cls h)) ∧ Below w.heap.size w w') := fun w r => rclose_any gB cB gT cT gs cs h hh w r
      have HX : Hid (cls h = R) := by show _ = _; rw [HS.out, HH.out, show F.size / 64 = k by omega]
      generalize cls h = c at *
      have F0 := HK.out.facts
      clear hh hN hik
      go_wp2_with (go_at_call 52; refine (HC.out _ HK.out.t).mono ?_; rintro e w' ⟨rfl, hb'⟩; have HK' := HK.out.below hb')
      go_ret
      exact ⟨by rw [HX.out]; rfl, HK'.d⟩
end Go.Proofs.YtopmkooegpaeaaaGreat
