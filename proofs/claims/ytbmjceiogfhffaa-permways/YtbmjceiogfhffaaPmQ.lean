/- The contracts of perm's addPlaces and of both ways' adding, over the seat's translation. -/
import Derived.Test.YtbmjceiogfhffaaPmN
namespace Go.Proofs.Ytbmjceiogfhffaa
open Go.RowKit

/-- A state with numbers added in a row, in its first c columns. -/
def apl (f : Nat → Nat) (row i c : Nat) (p : Nat) : Nat := if p % 8 = row ∧ p / 8 < c then f p ^^^ ((16 * (p / 8) + i) % 256) else f p
theorem apl_lt {f : Nat → Nat} (hf : ∀ p, f p < 256) (row i c p : Nat) : apl f row i c p < 256 := by
  unfold apl
  split
  · exact Nat.xor_lt_two_pow (n := 8) (hf p) (Nat.mod_lt _ (by decide))
  · exact hf p
set_option maxHeartbeats 1600000 in
set_option maxRecDepth 100000 in
theorem places_any (f : Nat → Nat) (row i : Nat) (hf : ∀ p, f p < 256) (hr : row < 8) (hi : i < 16) (W : World) :
    Calls Try.prog 57 #[.agg (st f).toArray, .int .i64 (row : Int), .int .i64 (i : Int)] W fun e w' => e = .returned (.agg (st (apl f row i 8)).toArray) ∧ Below W.heap.size W w' := by
  have HF : Hid (∀ p, f p < 256) := hf
  have H0 : Hid (Stt ((W.alloc (Obj.cells (st f).toArray 84)).alloc (Obj.cells (st fun _ => 0).toArray 84)) W.heap.size f ∧ Stt ((W.alloc (Obj.cells (st f).toArray 84)).alloc (Obj.cells (st fun _ => 0).toArray 84)) (W.heap.size + 1) (fun _ => 0) ∧ Below W.heap.size W ((W.alloc (Obj.cells (st f).toArray 84)).alloc (Obj.cells (st fun _ => 0).toArray 84))) := by
    refine ⟨(Stt.new W f).alloc _, ?_, by go_grown⟩
    have := Stt.new (W.alloc (Obj.cells (st f).toArray 84)) (fun _ => 0)
    simp only [World.size_alloc] at this
    exact this
  clear hf
  go_enter Try.func57, Try.ntmps57
  go_wp2_with (refine wp_new rfl rfl ?_)
  generalize (W.alloc (Obj.cells (st f).toArray 84)).alloc (Obj.cells (st fun _ => 0).toArray 84) = w0 at *
  have HN : Hid (W.heap.size ≠ W.heap.size + 1 ∧ W.heap.size ≤ W.heap.size ∧ W.heap.size ≤ W.heap.size + 1) := ⟨by omega, by omega, by omega⟩
  generalize W.heap.size + 1 = b1 at *
  generalize hb0 : W.heap.size = b0 at *
  have HB : Hid (W.heap.size = b0) := hb0
  clear hb0
  generalize (st f).toArray = cs at *
  go_loopw [8] (fun u wr => ∃ (c : Nat) (o : Nat → Nat), c ≤ 8 ∧ u = .int .i64 c ∧ Hid (Stt wr b0 o ∧ Stt wr b1 (fun _ => 0) ∧ Below b0 W wr) ∧ Hid (∀ p, p < 64 → o p = apl f row i c p)) (fun u _ => 8 - (intOf u).toNat)
  case atStart => exact ⟨0, _, by omega, rfl, H0, (fun p hp => by unfold apl; rw [if_neg (by omega)])⟩
  case round =>
    obtain ⟨c, o, hc, rfl, HS, HO⟩ := hrel
    clear H0
    by_cases hcl : c < 8
    · have HP : Hid (Same 71 #[.int .i64 (c : Int), .int .i64 (row : Int)] (.int .i64 ((8 * c + row : Nat) : Int))) := by have := pl_any c row (by omega) hr; rwa [Nat.mod_eq_of_lt (show 8 * c + row < 64 by omega)] at this
      have hq : 8 * c + row < 64 := by omega
      have d1 := HS.out.1.cell hq
      have z1 := HS.out.1.frozen (8 * c + row)
      have ho : o (8 * c + row) < 256 := by rw [HO.out _ hq]; exact apl_lt HF.out _ _ _ _
      have hx : bits .xor .u8 ((o (8 * c + row) : Nat) : Int) (16 * (c : Int) + (i : Int)) = ((o (8 * c + row) ^^^ ((16 * c + i) % 256) : Nat) : Int) := by
        have := u8_xor_nat (o (8 * c + row)) ((16 * c + i) % 256) ho (Nat.mod_lt _ (by decide))
        rw [← this, show (((16 * c + i) % 256 : Nat) : Int) = 16 * (c : Int) + (i : Int) by omega]
      have HZ : Hid (o (8 * c + row) ^^^ ((16 * c + i) % 256) = f (8 * c + row) ^^^ ((16 * c + i) % 256)) := by
        have e := HO.out _ hq
        unfold apl at e
        rw [if_neg (by omega)] at e
        rw [e]
        exact (rfl : f (8 * c + row) ^^^ ((16 * c + i) % 256) = f (8 * c + row) ^^^ ((16 * c + i) % 256))
      generalize o (8 * c + row) ^^^ ((16 * c + i) % 256) = y at *
      generalize o (8 * c + row) = x at *
      generalize hqq : 8 * c + row = q at *
      have HQ : Hid (8 * c + row = q) := hqq
      clear hqq
      have i1 : (0 : Int) ≤ (q : Int) := by omega
      have i2 : (q : Int) < 64 := by omega
      have i3 : (c : Int) < 8 := by omega
      go_wp2_with (first | (go_at_call 71; refine (HP.out.go _).mono ?_; rintro e w' ⟨rfl, rfl⟩))
      refine ⟨⟨c + 1, _, hcl, by simp, ⟨HS.out.1.set q y, HS.out.2.1.setOther (fun e => HN.out.1 e.symm) _, HS.out.2.2.setCell HN.out.2.1 _⟩, (fun p hp => ?_)⟩, by simp [intOf]; omega⟩
      have e := HQ.out
      unfold upd
      by_cases h : p = q
      · rw [if_pos h]
        unfold apl
        rw [if_pos (by omega), HZ.out, h, show q / 8 = c by omega]
      · rw [if_neg h, HO.out p hp]
        unfold apl
        by_cases h2 : p % 8 = row ∧ p / 8 < c
        · rw [if_pos h2, if_pos (by omega)]
        · rw [if_neg h2, if_neg (by omega)]
    · have HF2 : Hid (∀ p, p < 64 → o p = apl f row i 8 p) := (fun p hp => by rw [HO.out p hp, show c = 8 by omega])
      have hcn : ¬ ((c : Int) < 8) := by omega
      have HR : Hid (wr.rangeAt b0 0 (st o)) := HS.out.1.range
      have HH : Hid (wr.there b1 0 (st o).toArray.size) := by rw [List.size_toArray, st_len]; exact HS.out.2.1.there
      have HI1 : Hid ((Try.prog.info? 84).map (·.size) = some (st o).length) := info_st o
      have HI2 : Hid ((Try.prog.info? 84).map (·.size) = some (st o).toArray.size) := info_st2 o
      have HI3 : Hid ((st o).toArray.all (·.oneCell') = true) := one_st o
      have HC : Hid (st o = st o) := rfl
      generalize hcs2 : st o = cs2 at *
      replace HC : Hid (st o = cs2) := hcs2
      clear hcs2
      go_wp2_with (first | (refine wpList_load_mid rfl 84 _ rfl b0 0 rfl cs2 _ HR.out Try.underlying84 rfl HI1.out ?_) | (refine wpList_store_mid rfl 84 _ _ rfl b1 0 cs2.toArray rfl rfl HH.out HI2.out HI3.out ?_))
      have HX : Hid (Stt (wr.setCells b1 0 cs2) b1 o) := by rw [← HC.out]; exact HS.out.2.1.setAll o
      have hld : (loadVar 84 ⟨b1, 0, none⟩).run Try.prog (wr.setCells b1 0 cs2) = .ok (.agg (st (apl f row i 8)).toArray) (wr.setCells b1 0 cs2) := by
        rw [← st_congr HF2.out]
        exact run_loadVar_mid _ b1 0 84 (st o) _ HX.out.range Try.underlying84 rfl (info_st o)
      refine bodyPost_ret (v := .agg (st (apl f row i 8)).toArray) ?_ rfl ⟨rfl, ?_⟩
      · exact results_cell1 Try.results57 rfl hld
      · rw [HB.out]
        exact below_setCells HN.out.2.2 _ _ _ HS.out.2.2


/-- What a round of the way P adds. -/
def adP (f : Nat → Nat) (i : Nat) : Nat → Nat := apl f 0 i 8
/-- What a round of the way Q adds. -/
def adQ (f : Nat → Nat) (i : Nat) : Nat → Nat := apl (fun p => f p ^^^ 255) 7 i 8
theorem adP_lt {f : Nat → Nat} (hf : ∀ p, f p < 256) (i p : Nat) : adP f i p < 256 := apl_lt hf 0 i 8 p
theorem not_lt {f : Nat → Nat} (hf : ∀ p, f p < 256) (p : Nat) : f p ^^^ 255 < 256 := Nat.xor_lt_two_pow (n := 8) (hf p) (by decide)
theorem adQ_lt {f : Nat → Nat} (hf : ∀ p, f p < 256) (i p : Nat) : adQ f i p < 256 := apl_lt (not_lt hf) 7 i 8 p
theorem two_new (f : Nat → Nat) (W : World) : Stt ((W.alloc (Obj.cells (st f).toArray 84)).alloc (Obj.cells (st fun _ => 0).toArray 84)) W.heap.size f ∧ Stt ((W.alloc (Obj.cells (st f).toArray 84)).alloc (Obj.cells (st fun _ => 0).toArray 84)) (W.heap.size + 1) (fun _ => 0) ∧ Below W.heap.size W ((W.alloc (Obj.cells (st f).toArray 84)).alloc (Obj.cells (st fun _ => 0).toArray 84)) := by
  refine ⟨(Stt.new W f).alloc _, ?_, by go_grown⟩
  have := Stt.new (W.alloc (Obj.cells (st f).toArray 84)) (fun _ => 0)
  simp only [World.size_alloc] at this
  exact this
set_option maxHeartbeats 1600000 in
set_option maxRecDepth 100000 in
theorem stepP_any (f : Nat → Nat) (i : Nat) (hf : ∀ p, f p < 256) (hi : i < 16) (W : World) :
    Calls Try.prog 56 #[.agg (st f).toArray, .int .i64 (i : Int)] W fun e w' => e = .returned (.agg (st (adP f i)).toArray) ∧ Below W.heap.size W w' := by
  have HA : Hid (∀ W, Calls Try.prog 57 #[.agg (st f).toArray, .int .i64 0, .int .i64 (i : Int)] W fun e w' => e = .returned (.agg (st (adP f i)).toArray) ∧ Below (World.heap W).size W w') := fun W => places_any f 0 i hf (by decide) hi W
  have H0 := two_new f W
  have HR : Hid (World.rangeAt ((W.alloc (Obj.cells (st f).toArray 84)).alloc (Obj.cells (st fun _ => 0).toArray 84)) W.heap.size 0 (st f)) := H0.1.range
  have HI : Hid ((Try.prog.info? 84).map (·.size) = some (st f).length) := info_st f
  have HT : Hid (Stt ((W.alloc (Obj.cells (st f).toArray 84)).alloc (Obj.cells (st fun _ => 0).toArray 84)) (W.heap.size + 1) (fun _ => 0) ∧ Below W.heap.size W ((W.alloc (Obj.cells (st f).toArray 84)).alloc (Obj.cells (st fun _ => 0).toArray 84))) := ⟨H0.2.1, H0.2.2⟩
  have HI2 : Hid ((Try.prog.info? 84).map (·.size) = some (st (adP f i)).toArray.size) := info_st2 _
  have HI3 : Hid ((st (adP f i)).toArray.all (·.oneCell') = true) := one_st _
  have HL : Hid ((st (adP f i)).toArray.size = 64) := by rw [List.size_toArray, st_len]; exact (rfl : 64 = 64)
  have HC : Hid (st (adP f i) = st (adP f i)) := rfl
  clear H0
  generalize hcs : st (adP f i) = cs at *
  replace HC : Hid (st (adP f i) = cs) := hcs
  clear hcs
  generalize st f = ds at *
  go_enter Try.func56, Try.ntmps56
  go_wp2_with (first | (refine wp_new rfl rfl ?_) | (refine wpList_load_mid rfl 84 _ rfl W.heap.size 0 rfl ds _ HR.out Try.underlying84 rfl HI.out ?_) | (go_at_call 57; refine (HA.out _).mono ?_; rintro e w1 ⟨rfl, hb1⟩; have R1 : Hid (Stt w1 (W.heap.size + 1) (fun _ => 0)) := HT.out.1.below hb1; have D1 : Hid (Below W.heap.size W w1) := HT.out.2.trans (hb1.mono HT.out.2.size)) | (refine wpList_store_mid rfl 84 _ _ rfl (W.heap.size + 1) 0 cs.toArray rfl rfl (by rw [HL.out]; exact R1.out.there) HI2.out HI3.out ?_))
  have HX : Hid (Stt (w1.setCells (W.heap.size + 1) 0 cs) (W.heap.size + 1) (adP f i)) := by rw [← HC.out]; exact R1.out.setAll _
  have hld : (loadVar 84 ⟨W.heap.size + 1, 0, none⟩).run Try.prog (w1.setCells (W.heap.size + 1) 0 cs) = .ok (.agg cs.toArray) (w1.setCells (W.heap.size + 1) 0 cs) := run_loadVar_mid _ _ 0 84 cs _ (by have := HX.out.range; rwa [HC.out] at this) Try.underlying84 rfl (by have := info_st (adP f i); rwa [HC.out] at this)
  exact bodyPost_ret (v := .agg cs.toArray) (results_cell1 Try.results56 rfl hld) rfl ⟨rfl, below_setCells (Nat.le_succ _) _ _ _ D1.out⟩
set_option maxHeartbeats 1600000 in
set_option maxRecDepth 100000 in
theorem stepQ_any (f : Nat → Nat) (i : Nat) (hf : ∀ p, f p < 256) (hi : i < 16) (W : World) :
    Calls Try.prog 58 #[.agg (st f).toArray, .int .i64 (i : Int)] W fun e w' => e = .returned (.agg (st (adQ f i)).toArray) ∧ Below W.heap.size W w' := by
  have HF : Hid (∀ p, f p < 256) := hf
  have HI0 : Hid (i < 16) := hi
  have HT : Hid (Stt ((W.alloc (Obj.cells (st f).toArray 84)).alloc (Obj.cells (st fun _ => 0).toArray 84)) W.heap.size f ∧ Stt ((W.alloc (Obj.cells (st f).toArray 84)).alloc (Obj.cells (st fun _ => 0).toArray 84)) (W.heap.size + 1) (fun _ => 0) ∧ Below W.heap.size W ((W.alloc (Obj.cells (st f).toArray 84)).alloc (Obj.cells (st fun _ => 0).toArray 84))) := two_new f W
  clear hf hi
  go_enter Try.func58, Try.ntmps58
  go_wp2_with (first | (refine wp_new rfl rfl ?_))
  generalize ((W.alloc (Obj.cells (st f).toArray 84)).alloc (Obj.cells (st fun _ => 0).toArray 84)) = w0 at *
  generalize hb1 : W.heap.size + 1 = b1 at *
  generalize hb0 : W.heap.size = b0 at *
  have HB : Hid (W.heap.size = b0 ∧ b0 + 1 = b1) := ⟨hb0, hb1⟩
  clear hb0 hb1
  generalize (st f).toArray = cs0 at *
  go_loopw [6] (fun u wr => ∃ (n : Nat) (o : Nat → Nat), n ≤ 64 ∧ u = .int .i64 n ∧ Hid (Stt wr b0 o ∧ Stt wr b1 (fun _ => 0) ∧ Below b0 W wr) ∧ Hid (∀ p, p < 64 → o p = if p < n then f p ^^^ 255 else f p)) (fun u _ => 64 - (intOf u).toNat)
  case atStart => exact ⟨0, _, by omega, rfl, HT, (fun p hp => by rw [if_neg (by omega)])⟩
  case round =>
    obtain ⟨n, o, hn, rfl, HS, HO⟩ := hrel
    clear HT
    by_cases hnl : n < 64
    · have d1 := HS.out.1.cell hnl
      have z1 := HS.out.1.frozen n
      have HE : Hid (o n = f n) := by have := HO.out n hnl; rw [if_neg (by omega)] at this; exact this
      have hx : bits .xor .u8 ((o n : Nat) : Int) 255 = ((f n ^^^ 255 : Nat) : Int) := by rw [HE.out]; exact u8_xor_nat (f n) 255 (HF.out n) (by decide)
      generalize o n = x at *
      generalize hy : f n ^^^ 255 = y at *
      have HY : Hid (f n ^^^ 255 = y) := hy
      clear hy
      have i1 : (0 : Int) ≤ (n : Int) := by omega
      have i2 : (n : Int) < 64 := by omega
      go_wp2
      refine ⟨⟨n + 1, _, hnl, by simp, ⟨HS.out.1.set n y, HS.out.2.1.setOther (fun e => absurd (show b1 = b0 from e) (by have := HB.out.2; omega)) _, HS.out.2.2.setCell (Nat.le_refl _) _⟩, (fun p hp => ?_)⟩, by simp [intOf]; omega⟩
      unfold upd
      by_cases h : p = n
      · rw [if_pos h, if_pos (by omega), h]; exact HY.out.symm
      · rw [if_neg h, HO.out p hp]
        by_cases h2 : p < n
        · rw [if_pos h2, if_pos (by omega)]
        · rw [if_neg h2, if_neg (by omega)]
    · have hnn : ¬ ((n : Int) < 64) := by omega
      have HE : Hid (st o = st (fun p => f p ^^^ 255)) := st_congr fun p hp => by rw [HO.out p hp, if_pos (by omega)]
      have HA : Hid (∀ W, Calls Try.prog 57 #[.agg (st o).toArray, .int .i64 7, .int .i64 (i : Int)] W fun e w' => e = .returned (.agg (st (adQ f i)).toArray) ∧ Below (World.heap W).size W w') := fun W => by rw [HE.out]; exact places_any (fun p => f p ^^^ 255) 7 i (not_lt HF.out) (by decide) HI0.out W
      have HR : Hid (World.rangeAt wr b0 0 (st o)) := HS.out.1.range
      have HI : Hid ((Try.prog.info? 84).map (·.size) = some (st o).length) := info_st o
      have HI2 : Hid ((Try.prog.info? 84).map (·.size) = some (st (adQ f i)).toArray.size) := info_st2 _
      have HI3 : Hid ((st (adQ f i)).toArray.all (·.oneCell') = true) := one_st _
      have HL : Hid ((st (adQ f i)).toArray.size = 64) := by rw [List.size_toArray, st_len]; exact (rfl : 64 = 64)
      have HC : Hid (st (adQ f i) = st (adQ f i)) := rfl
      clear HO HE
      generalize hcs : st (adQ f i) = cs at *
      replace HC : Hid (st (adQ f i) = cs) := hcs
      clear hcs
      generalize st o = ds at *
      go_wp2_with (first | (refine wpList_load_mid rfl 84 _ rfl b0 0 rfl ds _ HR.out Try.underlying84 rfl HI.out ?_) | (go_at_call 57; refine (HA.out _).mono ?_; rintro e w1 ⟨rfl, hb1⟩; have R1 : Hid (Stt w1 b1 (fun _ => 0)) := HS.out.2.1.below hb1; have D1 : Hid (Below b0 W w1) := HS.out.2.2.trans (hb1.mono (Nat.le_of_lt HS.out.1.lt))) | (refine wpList_store_mid rfl 84 _ _ rfl b1 0 cs.toArray rfl rfl (by rw [HL.out]; exact R1.out.there) HI2.out HI3.out ?_))
      have HX : Hid (Stt (w1.setCells b1 0 cs) b1 (adQ f i)) := by rw [← HC.out]; exact R1.out.setAll _
      have hld : (loadVar 84 ⟨b1, 0, none⟩).run Try.prog (w1.setCells b1 0 cs) = .ok (.agg (st (adQ f i)).toArray) (w1.setCells b1 0 cs) := run_loadVar_mid _ _ 0 84 (st (adQ f i)) _ HX.out.range Try.underlying84 rfl (info_st (adQ f i))
      refine bodyPost_ret (v := .agg (st (adQ f i)).toArray) (results_cell1 Try.results58 rfl hld) rfl ⟨rfl, ?_⟩
      rw [HB.out.1]
      exact below_setCells (by have := HB.out.2; omega) _ _ _ D1.out
end Go.Proofs.Ytbmjceiogfhffaa
