/- The document's side of layer 18 over the seat's translation: steepleref15.Two, steepleref18.Fits, Was, Bits. -/
import Derived.Test.YthfebbmmhjkglaaTuD
namespace Go.Proofs.Ythfebbmmhjkglaa
open Go.RowKit

theorem rtwoT (n : Nat) (hn : n ≤ 16) : Ret 41 #[.int .i64 (n : Int)] (.int .i64 ((2 ^ n : Nat) : Int)) := by
  intro W
  go_enter Try.func41, Try.ntmps41
  go_wp2_with fail
  go_loopw [3, 4] (fun v u wr => ∃ j q : Nat, j ≤ n ∧ Hid (q = 2 ^ j) ∧ v = .int .i64 (q : Int) ∧ u = .int .i64 j ∧ W = wr) (fun _ u _ => n - (intOf u).toNat)
  case atStart => exact ⟨0, 1, Nat.zero_le _, (by rfl), rfl, rfl, rfl⟩
  case round =>
    obtain ⟨j, q, hj, HQ, rfl, rfl, rfl⟩ := hrel
    by_cases hlt : j < n
    · have hq : q ≤ 65536 := by rw [HQ.out]; exact Nat.pow_le_pow_right (by decide) (show j ≤ 16 by omega)
      have hw : IntKind.i64.wrap (2 * (q : Int)) = ((2 * q : Nat) : Int) := by rw [IntKind.wrap_i64]; omega
      go_wp2
      exact ⟨⟨j + 1, 2 * q, hlt, (by show _ = _; rw [HQ.out, Nat.pow_succ]; omega), by simp, by simp, by first | rfl | trivial⟩, by simp [intOf]; omega⟩
    · obtain rfl : j = n := by omega
      go_wp2
      go_ret
      exact ⟨by rw [← HQ.out]; rfl, Below.refl _ _⟩
theorem rtwoP (k n : Nat) (hk : k ≤ 6) (hn : pw (k : Int) = n) : Ret 41 #[.int .i64 (k : Int)] (.int .i64 (n : Int)) := by
  have := rtwoT k (by omega)
  unfold pw at hn
  rw [Int.toNat_natCast] at hn
  rw [hn] at this
  exact this
set_option maxHeartbeats 2000000 in
theorem rfits18 (k w s : Int) : Ret 12 #[.int .i64 k, .int .i64 w, .int .i64 s] (.bool (ftB k w s)) := by
  intro W
  obtain ⟨z, hz⟩ : ∃ z, z = ftB k w s := ⟨_, rfl⟩
  rw [← hz]
  by_cases k0 : k < 0
  · have HZ : Hid (z = false) := by show _ = _; rw [hz]; exact decide_eq_false (by omega)
    clear hz
    go_enter Try.func12, Try.ntmps12
    go_wp2
    go_ret
    exact ⟨by rw [HZ.out]; rfl, Below.refl _ _⟩
  · by_cases k3 : 3 < k
    · have HZ : Hid (z = false) := by show _ = _; rw [hz]; exact decide_eq_false (by omega)
      clear hz
      go_enter Try.func12, Try.ntmps12
      go_wp2
      go_ret
      exact ⟨by rw [HZ.out]; rfl, Below.refl _ _⟩
    · by_cases w0 : w < 0
      · have HZ : Hid (z = false) := by show _ = _; rw [hz]; exact decide_eq_false (by omega)
        clear hz
        go_enter Try.func12, Try.ntmps12
        go_wp2
        go_ret
        exact ⟨by rw [HZ.out]; rfl, Below.refl _ _⟩
      · by_cases w6 : 6 < w
        · have HZ : Hid (z = false) := by show _ = _; rw [hz]; exact decide_eq_false (by omega)
          clear hz
          go_enter Try.func12, Try.ntmps12
          go_wp2
          go_ret
          exact ⟨by rw [HZ.out]; rfl, Below.refl _ _⟩
        · by_cases s0 : s < 0
          · have HZ : Hid (z = false) := by show _ = _; rw [hz]; exact decide_eq_false (by omega)
            clear hz
            go_enter Try.func12, Try.ntmps12
            go_wp2
            go_ret
            exact ⟨by rw [HZ.out]; rfl, Below.refl _ _⟩
          · obtain ⟨q, rfl⟩ : ∃ q : Nat, w = (q : Int) := ⟨w.toNat, by omega⟩
            obtain ⟨n, hn, _, _, _⟩ := pw_nat q (by omega)
            have H2 := Hid.mkT (rtwoP q n (by omega) hn)
            have HZ : Hid (z = decide (s < (n : Int) ∧ (k = 0 → s = 0))) := by
              show _ = _
              rw [hz]
              unfold ftB
              rw [hn]
              exact decide_eq_decide.2 (by omega)
            clear hz hn
            go_enter Try.func12, Try.ntmps12
            go_wp2_with (go_at_call 41; refine (H2.out.go _).mono ?_; rintro e w1 ⟨rfl, hb1⟩; have D : Hid (Below W.heap.size W w1) := hb1; clear hb1)
            all_goals
              go_ret
              refine ⟨?_, D.out⟩
              rw [HZ.out]
              simp_all
              try (first | rfl | omega)
/-- Is the bit x what the bit y was? -/
def wsB (k : Int) (n t x y : Nat) : Bool := if k = 2 then decide (y = x + t) else if k = 3 then decide ((y + t) % n = x) else decide (x = y + t)
set_option maxHeartbeats 2000000 in
theorem rwas (k : Int) (q n t x y : Nat) (hq : q ≤ 6) (hn : pw (q : Int) = n) (hx : x ≤ 1000) (hy : y ≤ 1000) (ht : t ≤ 1000) : Ret 14 #[.int .i64 k, .int .i64 (q : Int), .int .i64 (t : Int), .int .i64 (x : Int), .int .i64 (y : Int)] (.bool (wsB k n t x y)) := by
  intro W
  have H2 := Hid.mkT (rtwoP q n hq hn)
  have hn1 := pw_le (w := (q : Int)) (by omega)
  rw [hn] at hn1
  unfold wsB
  by_cases k2 : k = 2
  · rw [if_pos k2]
    subst k2
    have e1 : IntKind.i64.wrap ((x : Int) + (t : Int)) = (x : Int) + (t : Int) := by rw [IntKind.wrap_i64]; omega
    have hz : decide (y = x + t) = ((y : Int) == (x : Int) + (t : Int)) := by rw [Bool.eq_iff_iff]; simp; omega
    rw [hz]
    clear hn hz
    go_enter Try.func14, Try.ntmps14
    go_wp2_with (go_at_call 41; refine (H2.out.go _).mono ?_; rintro e w1 ⟨rfl, hb1⟩)
    go_ret
    exact ⟨rfl, hb1⟩
  · rw [if_neg k2]
    have g2 : (k == 2) = false := by rw [beq_eq_false_iff_ne]; exact k2
    have e1 : IntKind.i64.wrap ((y : Int) + (t : Int)) = (y : Int) + (t : Int) := by rw [IntKind.wrap_i64]; omega
    by_cases k3 : k = 3
    · rw [if_pos k3]
      subst k3
      have hn0 : ¬ (n : Int) = 0 := by omega
      have hn2 : ¬ n = 0 := by omega
      obtain ⟨r, hr⟩ : ∃ r, r = (y + t) % n := ⟨_, rfl⟩
      have m1 : ((y : Int) + (t : Int)).tmod (n : Int) = (r : Int) := by rw [hr, Int.tmod_eq_emod_of_nonneg (by omega), show (y : Int) + (t : Int) = ((y + t : Nat) : Int) by omega]; simp
      have m2 : ((y : Int) + (t : Int)) % (n : Int) = (r : Int) := by rw [hr, show (y : Int) + (t : Int) = ((y + t : Nat) : Int) by omega]; simp
      rw [← hr]
      have hz : decide (r = x) = ((r : Int) == (x : Int)) := by rw [Bool.eq_iff_iff]; simp <;> omega
      rw [hz]
      clear hn hz hr k2
      go_enter Try.func14, Try.ntmps14
      go_wp2_with (go_at_call 41; refine (H2.out.go _).mono ?_; rintro e w1 ⟨rfl, hb1⟩)
      go_ret
      exact ⟨rfl, hb1⟩
    · rw [if_neg k3]
      have g3 : (k == 3) = false := by rw [beq_eq_false_iff_ne]; exact k3
      have hz : decide (x = y + t) = ((x : Int) == (y : Int) + (t : Int)) := by rw [Bool.eq_iff_iff]; simp; omega
      rw [hz]
      clear hn hz k2 k3
      go_enter Try.func14, Try.ntmps14
      go_wp2_with (go_at_call 41; refine (H2.out.go _).mono ?_; rintro e w1 ⟨rfl, hb1⟩)
      go_ret
      exact ⟨rfl, hb1⟩
theorem ws_fr {k : Int} {q n t x y : Nat} (hn : pw (q : Int) = n) (hf : ftB k (q : Int) (t : Int) = true) (hx : x < n) (hy : y < n) : wsB k n t x y = decide (frI k (q : Int) (t : Int) (x : Int) = (y : Int)) := by
  obtain ⟨_, ⟨_, ht⟩, hk⟩ := ftB_true hf
  rw [hn] at ht
  rw [frI_yes ⟨hf, by omega, by rw [hn]; omega⟩, hn]
  unfold wsB
  have ht' : t < n := by omega
  by_cases k1 : k = 1
  · subst k1
    rw [if_neg (by decide), if_neg (by decide), if_pos rfl]
    rw [decide_eq_decide]
    split <;> omega
  · rw [if_neg k1]
    by_cases k2 : k = 2
    · rw [if_pos k2, if_pos k2, decide_eq_decide]
      split <;> omega
    · rw [if_neg k2, if_neg k2]
      by_cases k3 : k = 3
      · rw [if_pos k3, if_pos k3, decide_eq_decide]
        have hm : (y + t) % n = if y + t < n then y + t else y + t - n := by
          split
          · exact Nat.mod_eq_of_lt (by assumption)
          · rw [Nat.mod_eq_sub_mod (by omega), Nat.mod_eq_of_lt (by omega)]
        rw [hm]
        split <;> split <;> omega
      · rw [if_neg k3, if_neg k3, decide_eq_decide]
        omega
theorem frI_neg {k w s i : Int} (h : ¬ 0 ≤ frI k w s i) : frI k w s i = -1 := by
  by_cases hc : ftB k w s = true ∧ 0 ≤ i ∧ i < pw w
  · obtain ⟨_, ⟨h3, h4⟩, _⟩ := ftB_true hc.1
    rw [frI_yes hc] at h ⊢
    split at * <;> (try split at *) <;> (try split at *) <;> omega
  · exact frI_no hc
/-- Bools in memory. -/
def blv (bs : List Bool) : List Value := bs.map fun b => .bool b
theorem blv_snoc (bs : List Bool) (b : Bool) : blv (bs ++ [b]) = blv bs ++ [.bool b] := by simp [blv]
theorem own_bow {w : World} {base : Nat} {T : TypeId} {v : Value} {n : Nat} {bs : List Bool} (hn : bs.length = n) (h : w.ownsRow base T 1 v n (blv bs)) : ∃ a cap, v = .slice a n cap ∧ Bow w a bs := by
  rcases h.2 with ⟨h1, h0⟩ | ⟨g, cap, cur, rfl, _⟩
  · refine ⟨none, 0, ?_, ⟨fun i hi => by omega⟩⟩
    rw [h1, h0]
  · refine ⟨_, cap, rfl, ⟨fun i hi => ?_⟩⟩
    have e1 := h.cellAt i (by omega)
    rw [show (blv bs)[i]? = some (.bool (bs.getD i false)) by simp [blv, List.getD, hi]] at e1
    exact ⟨g, 0, rfl, cell_lt e1, by rw [Nat.zero_add]; exact e1⟩
set_option maxHeartbeats 8000000 in
set_option maxRecDepth 100000 in
theorem rbits18 (k : Int) (q n t : Nat) (hq : q ≤ 6) (hn : pw (q : Int) = n) (hf : ftB k (q : Int) (t : Int) = true) (a : Option Addr) (cap : Nat) (bs : List Bool) (hl : bs.length = n) (W : World) (hr : Bow W a bs) :
    Calls Try.prog 16 #[.int .i64 k, .int .i64 (q : Int), .int .i64 (t : Int), .slice a n cap] W fun e w' => ∃ a' cap', e = .returned (.slice a' n cap') ∧ Bow w' a' (trn n (fun i : Nat => frI k (q : Int) (t : Int) (i : Int)) bs) ∧ Below W.heap.size W w' := by
  have hn1 := pw_le (w := (q : Int)) (by omega)
  obtain ⟨_, ⟨_, ht⟩, _⟩ := ftB_true hf
  rw [hn] at hn1 ht
  have ht' : t < n := by omega
  obtain ⟨fr, hfr⟩ : ∃ fr : Nat → Int, fr = fun i : Nat => frI k (q : Int) (t : Int) (i : Int) := ⟨_, rfl⟩
  rw [← hfr]
  have HW : Hid (∀ x y : Nat, x < n → y < n → Ret 14 #[.int .i64 k, .int .i64 (q : Int), .int .i64 (t : Int), .int .i64 (x : Int), .int .i64 (y : Int)] (.bool (decide (fr x = (y : Int))))) := fun x y hx hy => by
    have := rwas k q n t x y hq hn (by omega) (by omega) (by omega)
    rw [ws_fr hn hf hx hy] at this
    subst hfr
    exact this
  have HB : Hid (∀ x, x < n → (trn n fr bs).getD x false = if 0 ≤ fr x ∧ fr x < (n : Int) then bs.getD (fr x).toNat false else false) := fun x hx => by
    rw [trn_one hl hx]
    by_cases h : 0 ≤ fr x
    · have h2 : fr x < (n : Int) := by subst hfr; exact frI_lt hn h
      rw [if_pos h, if_pos ⟨h, h2⟩]
    · rw [if_neg h, if_neg (fun h2 => h h2.1)]
  have HT : Hid ((trn n fr bs).length = n) := by show _ = _; rw [trn_len, hl]
  generalize trn n fr bs = R at *
  obtain ⟨i0, hi, hz0, hz1, hz2⟩ := info_bool
  have HN : Hid (Try.prog.info? 4 = some i0 ∧ i0.zero = some (.bool false) ∧ i0.size = 1 ∧ i0.bytes = 1) := ⟨hi, hz0, hz1, hz2⟩
  have HR : Hid (Bow W a bs) := hr
  have HL : Hid (bs.length = n) := hl
  clear hi hz0 hz1 hz2 hr hl hfr hf hn ht
  go_enter Try.func16, Try.ntmps16
  go_wp2_with fail
  go_loopw [9, 10] (fun s u wr => ∃ x : Nat, x ≤ n ∧ u = .int .i64 x ∧ Hid (wr.ownsRow W.heap.size 4 1 s x (blv (R.take x)) ∧ Below W.heap.size W wr)) (fun _ u _ => n - (intOf u).toNat)
  case atStart => exact ⟨0, Nat.zero_le _, rfl, ⟨⟨by simp [blv], .inl ⟨rfl, rfl⟩⟩, Below.refl _ _⟩⟩
  case round =>
    obtain ⟨x, hx, rfl, HO⟩ := hrel
    by_cases hlt : x < n
    · have b1 : (x : Int) < (n : Int) := by omega
      have HS : Hid (R.take (x + 1) = R.take x ++ [R.getD x false]) := take_bs R x (by rw [HT.out]; exact hlt)
      have HX := Hid.mkT (HB.out x hlt)
      have HWx := Hid.mkT (fun y hy => HW.out x y hlt hy)
      clear HB
      generalize R.getD x false = rx at *
      generalize fr x = f at *
      go_wp2_with fail
      go_loopw [11, 12] (fun b u wr2 => ∃ y : Nat, y ≤ n ∧ b = .bool (if 0 ≤ f ∧ f < (y : Int) then bs.getD f.toNat false else false) ∧ u = .int .i64 y ∧ Hid (wr2.ownsRow W.heap.size 4 1 u9 x (blv (R.take x)) ∧ Below W.heap.size W wr2)) (fun _ u _ => n - (intOf u).toNat)
      case atStart => exact ⟨0, Nat.zero_le _, by rw [if_neg (by omega)], rfl, HO⟩
      case round =>
        obtain ⟨y, hy, rfl, rfl, HI⟩ := hrel
        clear HO
        by_cases hy2 : y < n
        · have b2 : (y : Int) < (n : Int) := by omega
          have b3 : (0 : Int) ≤ (y : Int) := by omega
          have H1 := Hid.mkT (HWx.out y hy2)
          obtain ⟨b0, off, rfl, hb0, c0⟩ := HR.out.cells y (by rw [HL.out]; exact hy2)
          have C0 := keepc HI.out.2 c0
          have HZ : Hid ((if 0 ≤ f ∧ f < ((y + 1 : Nat) : Int) then bs.getD f.toNat false else false) = ((if 0 ≤ f ∧ f < (y : Int) then bs.getD f.toNat false else false) || (decide (f = (y : Int)) && bs.getD y false))) := by
            show _ = _
            by_cases h1 : f = (y : Int)
            · subst h1
              rw [if_pos (by omega), if_neg (by omega)]
              simp
            · rw [decide_eq_false h1, Bool.false_and, Bool.or_false]
              by_cases h2 : 0 ≤ f ∧ f < (y : Int)
              · rw [if_pos h2, if_pos (by omega)]
              · rw [if_neg h2, if_neg (by omega)]
          generalize (if 0 ≤ f ∧ f < (y : Int) then bs.getD f.toNat false else false) = z at *
          generalize bs.getD y false = v at *
          clear c0 hb0 HX HS HW HWx HR
          cases z
          · by_cases hfy : f = (y : Int)
            · rw [decide_eq_true hfy] at H1 HZ
              clear hfy
              go_wp2_with (go_at_call 14; refine (H1.out.go _).mono ?_; rintro e w3 ⟨rfl, hb3⟩; have D3 : Hid (w3.ownsRow W.heap.size 4 1 u9 x (blv (R.take x)) ∧ Below W.heap.size W w3) := ⟨own_below HI.out.1 hb3, HI.out.2.trans (hb3.mono HI.out.2.size)⟩; have C1 := keepc hb3 C0; clear hb3 C0)
              refine ⟨⟨y + 1, hy2, by rw [HZ.out]; simp, by simp, D3⟩, by simp [intOf]; omega⟩
            · rw [decide_eq_false hfy] at H1 HZ
              clear hfy
              go_wp2_with (go_at_call 14; refine (H1.out.go _).mono ?_; rintro e w3 ⟨rfl, hb3⟩; have D3 : Hid (w3.ownsRow W.heap.size 4 1 u9 x (blv (R.take x)) ∧ Below W.heap.size W w3) := ⟨own_below HI.out.1 hb3, HI.out.2.trans (hb3.mono HI.out.2.size)⟩; have C1 := keepc hb3 C0; clear hb3 C0)
              refine ⟨⟨y + 1, hy2, by rw [HZ.out]; simp, by simp, D3⟩, by simp [intOf]; omega⟩
          · go_wp2
            refine ⟨⟨y + 1, hy2, by rw [HZ.out]; simp, by simp, HI⟩, by simp [intOf]; omega⟩
        · obtain rfl : y = n := by omega
          rw [← HX.out]
          clear HX HWx HW HR
          go_wp2_with (at_builtin; refine wpList_append_own _ rfl _ _ 24 rfl W.heap.size 4 i0 (.bool false) 1 1 Try.underlying24 HN.out.1 HN.out.2.1 HN.out.2.2.1 HN.out.2.2.2 rfl (by decide) _ _ _ rfl (own_below HI.out.1 ((Below.refl _ _).alloc (Nat.le_refl _) _)) ⟨wr.heap.size, 0, none⟩ 1 1 [.bool rx] rfl rfl (fun p u hu => by rcases p with _ | p <;> simp at hu <;> subst hu <;> simp [go_sem]) (by intro u hu; simp at hu; subst hu; rfl) (by simp only [maxLen]; omega) (by omega) (by have := HI.out.2.size; simp; omega) ?_; intro v' w' hown' hgr _)
          refine ⟨⟨x + 1, by omega, by simp, ⟨?_, (HI.out.2.alloc HI.out.2.size _).grown hgr (by have := HI.out.2.size; simp; omega) fun g hg => (HI.out.1.lt g hg).1⟩⟩, by simp [intOf]; omega⟩
          rw [HS.out, blv_snoc]
          exact hown'
    · obtain rfl : x = n := by omega
      have h1 := HO.out.1
      rw [List.take_of_length_le (by rw [HT.out]; exact Nat.le_refl _)] at h1
      obtain ⟨a', cap', rfl, B⟩ := own_bow HT.out h1
      have HBw : Hid (Bow wr a' R ∧ Below W.heap.size W wr) := ⟨B, HO.out.2⟩
      clear h1 B HO HB HW HR
      go_wp2
      go_ret
      exact ⟨a', cap', rfl, HBw.out.1, HBw.out.2⟩
end Go.Proofs.Ythfebbmmhjkglaa
