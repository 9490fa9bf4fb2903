/- TurnBits: the walk of the law over the seat's translation. -/
import Derived.Test.YthfebbmmhjkglaaTuE
namespace Go.Proofs.Ythfebbmmhjkglaa
open Go.RowKit

theorem getD_sub (bs : List Bool) (j n : Nat) {i : Nat} (h : i < n) : ((bs.drop j).take n).getD i false = bs.getD (j + i) false := by
  simp [List.getD, h, List.getElem?_drop]
theorem len_sub (bs : List Bool) (j n : Nat) (h : j + n ≤ bs.length) : ((bs.drop j).take n).length = n := by simp; omega
theorem Bow.sub {w : World} {b off : Nat} {bs : List Bool} {j n : Nat} (h : Bow w (some ⟨b, off, none⟩) bs) (hj : j + n ≤ bs.length) : Bow w (some ⟨b, off + j, none⟩) ((bs.drop j).take n) := ⟨fun i hi => by
  rw [len_sub bs j n hj] at hi
  obtain ⟨b', off', e, h1, h2⟩ := h.cells (j + i) (by omega)
  injection e with e
  injection e with e1 e2
  subst e1 e2
  exact ⟨b, off + j, rfl, h1, by rw [getD_sub bs j n hi, Nat.add_assoc]; exact h2⟩⟩
theorem trn_sub {n : Nat} {fr : Nat → Int} {bs : List Bool} {j : Nat} (hfr : ∀ i, 0 ≤ fr i → fr i < (n : Int)) (hj : j % n = 0) (hl : j + n ≤ bs.length) : ((trn n fr bs).drop j).take n = trn n fr ((bs.drop j).take n) := by
  have l1 := len_sub bs j n hl
  refine bs_ext (by rw [len_sub _ _ _ (by rw [trn_len]; exact hl), trn_len, l1]) fun i hi => ?_
  rw [len_sub _ _ _ (by rw [trn_len]; exact hl)] at hi
  rw [getD_sub _ _ _ hi, trn_at n fr bs (by omega), trn_one l1 hi]
  unfold tbit
  have e : (j + i) % n = i := by rw [Nat.add_mod, hj, Nat.zero_add, Nat.mod_mod, Nat.mod_eq_of_lt hi]
  rw [e]
  by_cases h : 0 ≤ fr i
  · rw [if_pos h, if_pos h, getD_sub _ _ _ (by have := hfr i h; omega), show j + i - i = j by omega]
  · rw [if_neg h, if_neg h]
/-- A turn in its box, and what lay there. -/
structure Tb (W w : World) (k v s : Int) : Prop where
  c0 : w.cell? ⟨W.heap.size, 0, none⟩ = some (.int .i64 k)
  c1 : w.cell? ⟨W.heap.size, 1, none⟩ = some (.int .i64 v)
  c2 : w.cell? ⟨W.heap.size, 2, none⟩ = some (.int .i64 s)
  d : Below W.heap.size W w
theorem Tb.below {W w w' : World} {k v s : Int} (h : Tb W w k v s) (hb : Below w.heap.size w w') : Tb W w' k v s := ⟨keepc hb h.c0, keepc hb h.c1, keepc hb h.c2, h.d.trans (hb.mono h.d.size)⟩
theorem Tb.drew {W w : World} {k v s : Int} (h : Tb W w k v s) : Tb W w.drew k v s := h.below (Below.refl _ _).drew
theorem Tb.new (W : World) (k v s : Int) (T : TypeId) : Tb W (W.alloc (Obj.cells #[.int .i64 k, .int .i64 v, .int .i64 s] T)) k v s := ⟨by simp [go_sem], by simp [go_sem], by simp [go_sem], (Below.refl _ _).alloc (Nat.le_refl _) _⟩
theorem tt_long (k v s i : Int) (a : Option Addr) (cap : Nat) (bs : List Bool) (h : 200 < bs.length) (W : World) :
    Calls Try.prog 3 #[.agg #[.int .i64 k, .int .i64 v, .int .i64 s], .slice a bs.length cap, .int .i64 i] W fun e w' => e = .returned (.bool true) ∧ Below W.heap.size W w' := by
  have HA := Hid.mkT awake18
  have h' : (200 : Int) < (bs.length : Int) := by omega
  have D0 := Hid.mkT (Tb.new W k v s 23)
  go_enter Try.func3, Try.ntmps3
  go_wp2_with (go_at_call 9; refine (HA.out.go _).mono ?_; rintro e w1 ⟨rfl, hb1⟩)
  go_ret
  exact ⟨rfl, (D0.out.below hb1).d⟩
theorem tt_no (k v s i : Int) (a : Option Addr) (cap : Nat) (bs : List Bool) (h : ¬ 200 < bs.length) (hf : ftB k v s = false) (W : World) :
    Calls Try.prog 3 #[.agg #[.int .i64 k, .int .i64 v, .int .i64 s], .slice a bs.length cap, .int .i64 i] W fun e w' => e = .returned (.bool true) ∧ Below W.heap.size W w' := by
  have HA := Hid.mkT awake18
  have h' : ¬ (200 : Int) < (bs.length : Int) := by omega
  have D0 := Hid.mkT (Tb.new W k v s 23)
  have H1 := Hid.mkT (tbits_arg k v s hf a cap bs.length)
  have H2 := Hid.mkT (tfrom k v s i)
  rw [frI_no (fun h => by rw [hf] at h; cases h.1)] at H2
  have H3 := Hid.mkT (rfits18 k v s)
  have H4 := Hid.mkT (tfits k v s)
  rw [hf] at H3 H4
  clear hf
  go_enter Try.func3, Try.ntmps3
  go_wp2_with (first
    | (go_at_call 10; refine (H1.out _).mono ?_; rintro e w1 ⟨rfl, hb1⟩; have D1 : Hid (Tb W w1 k v s) := D0.out.below hb1; obtain ⟨c0, c1, c2, _⟩ := D1.out; clear hb1 D0)
    | (go_at_call 11; refine (H2.out.go _).mono ?_; rintro e w2 ⟨rfl, hb2⟩; clear c0 c1 c2; have D2 : Hid (Tb W w2 k v s) := D1.out.below hb2; obtain ⟨c0, c1, c2, _⟩ := D2.out; clear hb2 D1)
    | (go_at_call 12; refine (H3.out.go _).mono ?_; rintro e w3 ⟨rfl, hb3⟩; clear c0 c1 c2; have D3 : Hid (Tb W w3 k v s) := D2.out.below hb3; obtain ⟨c0, c1, c2, _⟩ := D3.out; clear hb3 D2)
    | (go_at_call 13; refine (H4.out.go _).mono ?_; rintro e w4 ⟨rfl, hb4⟩; clear c0 c1 c2; have D4 : Hid (Tb W w4 k v s) := D3.out.below hb4; clear hb4 D3)
    | (go_at_call 9; refine (HA.out.go _).mono ?_; rintro e w5 ⟨rfl, hb5⟩; have D5 : Hid (Tb W w5 k v s) := D4.out.below hb5; clear hb5 D4))
  go_ret
  exact ⟨rfl, D5.out.d⟩
set_option maxHeartbeats 8000000 in
set_option maxRecDepth 100000 in
theorem tt_size (k i : Int) (q t n : Nat) (hq : q ≤ 6) (hn : pw (q : Int) = n) (hn2 : [1, 2, 4, 8, 16, 32, 64].getD q 0 = n) (hf : ftB k (q : Int) (t : Int) = true) (a : Option Addr) (cap : Nat) (bs : List Bool) (h : ¬ 200 < bs.length) (hz : ¬ bs.length % n = 0) (W : World) :
    Calls Try.prog 3 #[.agg #[.int .i64 k, .int .i64 (q : Int), .int .i64 (t : Int)], .slice a bs.length cap, .int .i64 i] W fun e w' => e = .returned (.bool true) ∧ Below W.heap.size W w' := by
  have HA := Hid.mkT awake18
  have h' : ¬ (200 : Int) < (bs.length : Int) := by omega
  have D0 := Hid.mkT (Tb.new W k (q : Int) (t : Int) 23)
  have hn1 := pw_le (w := (q : Int)) (by omega)
  obtain ⟨_, ⟨_, ht⟩, _⟩ := ftB_true hf
  rw [hn] at hn1 ht
  have H1 := Hid.mkT (tbits_size k (q : Int) (t : Int) hf n hn a cap bs.length hz)
  obtain ⟨r, hr⟩ : ∃ r, r = bs.length % n := ⟨_, rfl⟩
  have e1 : (bs.length : Int).tmod (n : Int) = (r : Int) := by rw [hr, Int.tmod_eq_emod_of_nonneg (by omega)]; simp
  have e2 : (bs.length : Int) % (n : Int) = (r : Int) := by rw [hr]; simp
  have e3 : ¬ (r : Int) = 0 := by omega
  clear hz hr
  have H2 := Hid.mkT (tfrom k (q : Int) (t : Int) i)
  have H3 := Hid.mkT (rfits18 k (q : Int) (t : Int))
  have H4 := Hid.mkT (tfits k (q : Int) (t : Int))
  rw [hf] at H3 H4
  have HW : Hid (∀ x y : Nat, i = (x : Int) → x < n → y < n → Ret 14 #[.int .i64 k, .int .i64 (q : Int), .int .i64 (t : Int), .int .i64 i, .int .i64 (y : Int)] (.bool (decide (frI k (q : Int) (t : Int) i = (y : Int))))) := fun x y hx h1 h2 => by
    have := rwas k q n t x y hq hn (by omega) (by omega) (by omega)
    rw [ws_fr hn hf h1 h2] at this
    rw [hx]
    exact this
  have HF : Hid ((if 0 ≤ frI k (q : Int) (t : Int) i ∧ frI k (q : Int) (t : Int) i < (n : Int) then frI k (q : Int) (t : Int) i else -1) = frI k (q : Int) (t : Int) i) := by
    show _ = _
    by_cases h0 : 0 ≤ frI k (q : Int) (t : Int) i
    · rw [if_pos ⟨h0, frI_lt hn h0⟩]
    · rw [if_neg (fun hc => h0 hc.1), frI_neg h0]
  have HO : Hid (¬ (0 ≤ i ∧ i < (n : Int)) → frI k (q : Int) (t : Int) i = -1) := fun hc => frI_no (fun h2 => hc (by rw [hn] at h2; exact h2.2))
  have HS := Hid.mkT (fun w => sizes_at w 3 hq hn2)
  have g1 : (q : Int) < 7 := by omega
  have g2 : (0 : Int) ≤ (q : Int) := by omega
  have g3 : ¬ (n : Int) = 0 := by omega
  have g4 : ¬ n = 0 := by omega
  generalize frI k (q : Int) (t : Int) i = f at *
  clear hn hn2 hf
  go_enter Try.func3, Try.ntmps3
  go_wp2_with (first
    | (go_at_call 10; refine (H1.out _).mono ?_; rintro e w1 ⟨rfl, hb1⟩; have D1 : Hid (Tb W w1 k (q : Int) (t : Int) ∧ Bow w1 none []) := ⟨D0.out.below hb1, ⟨fun i hi => by simp at hi⟩⟩; obtain ⟨c0, c1, c2, _⟩ := D1.out.1; clear hb1 D0)
    | (go_at_call 11; refine (H2.out.go _).mono ?_; rintro e w2 ⟨rfl, hb2⟩; clear c0 c1 c2; have D2 : Hid (Tb W w2 k (q : Int) (t : Int) ∧ Bow w2 none []) := ⟨D1.out.1.below hb2, D1.out.2.below hb2⟩; obtain ⟨c0, c1, c2, _⟩ := D2.out.1; clear hb2 D1)
    | (go_at_call 12; refine (H3.out.go _).mono ?_; rintro e w3 ⟨rfl, hb3⟩; clear c0 c1 c2; have D3 : Hid (Tb W w3 k (q : Int) (t : Int) ∧ Bow w3 none []) := ⟨D2.out.1.below hb3, D2.out.2.below hb3⟩; obtain ⟨c0, c1, c2, _⟩ := D3.out.1; clear hb3 D2)
    | (go_at_call 13; refine (H4.out.go _).mono ?_; rintro e w4 ⟨rfl, hb4⟩; clear c0 c1 c2; have D4 : Hid (Tb W (w4.alloc (Obj.cells #[.int .i64 1, .int .i64 2, .int .i64 4, .int .i64 8, .int .i64 16, .int .i64 32, .int .i64 64] 3)) k (q : Int) (t : Int) ∧ Bow (w4.alloc (Obj.cells #[.int .i64 1, .int .i64 2, .int .i64 4, .int .i64 8, .int .i64 16, .int .i64 32, .int .i64 64] 3)) none []) := ⟨(D3.out.1.below hb4).below ((Below.refl _ _).alloc (Nat.le_refl _) _), (D3.out.2.below hb4).below ((Below.refl _ _).alloc (Nat.le_refl _) _)⟩; have c1 := D4.out.1.c1; have cz := HS.out w4; clear hb4 D3))
  clear c1 cz HS H2 H3 H4
  go_loopw [12, 13] (fun v u wr => ∃ y : Nat, y ≤ n ∧ v = .int .i64 (if 0 ≤ f ∧ f < (y : Int) then f else -1) ∧ u = .int .i64 y ∧ Hid (Tb W wr k (q : Int) (t : Int) ∧ Bow wr none [])) (fun _ u _ => n - (intOf u).toNat)
  case atStart => exact ⟨0, Nat.zero_le _, by rw [if_neg (by omega)], rfl, D4⟩
  case round =>
    obtain ⟨y, hy, rfl, rfl, HI⟩ := hrel
    clear D4
    by_cases hlt : y < n
    · have b1 : (y : Int) < (n : Int) := by omega
      by_cases hin : 0 ≤ i ∧ i < (n : Int)
      · have H5 := Hid.mkT (HW.out i.toNat y (by omega) (by omega) hlt)
        obtain ⟨h5, h6⟩ := hin
        have c0 := HI.out.1.c0
        have c1 := HI.out.1.c1
        have c2 := HI.out.1.c2
        clear HW HO
        by_cases hfy : f = (y : Int)
        · rw [decide_eq_true hfy] at H5
          have HV : Hid ((if 0 ≤ f ∧ f < ((y + 1 : Nat) : Int) then f else -1) = (y : Int)) := by show _ = _; rw [if_pos (by omega), hfy]
          generalize (if 0 ≤ f ∧ f < (y : Int) then f else -1) = z at *
          clear HF hfy
          go_wp2_with (go_at_call 14; refine (H5.out.go _).mono ?_; rintro e w5 ⟨rfl, hb5⟩; have D5 : Hid (Tb W w5 k (q : Int) (t : Int) ∧ Bow w5 none []) := ⟨HI.out.1.below hb5, HI.out.2.below hb5⟩; clear hb5)
          exact ⟨⟨y + 1, hlt, by rw [HV.out], by simp, D5⟩, by simp [intOf]; omega⟩
        · rw [decide_eq_false hfy] at H5
          have HV : Hid ((if 0 ≤ f ∧ f < ((y + 1 : Nat) : Int) then f else -1) = if 0 ≤ f ∧ f < (y : Int) then f else -1) := by
            show _ = _
            by_cases hc : 0 ≤ f ∧ f < (y : Int)
            · rw [if_pos hc, if_pos (by omega)]
            · rw [if_neg hc, if_neg (by omega)]
          generalize (if 0 ≤ f ∧ f < (y : Int) then f else -1) = z at *
          clear HF hfy
          go_wp2_with (go_at_call 14; refine (H5.out.go _).mono ?_; rintro e w5 ⟨rfl, hb5⟩; have D5 : Hid (Tb W w5 k (q : Int) (t : Int) ∧ Bow w5 none []) := ⟨HI.out.1.below hb5, HI.out.2.below hb5⟩; clear hb5)
          exact ⟨⟨y + 1, hlt, by rw [HV.out], by simp, D5⟩, by simp [intOf]; omega⟩
      · have hf1 := HO.out hin
        have HV : Hid ((if 0 ≤ f ∧ f < ((y + 1 : Nat) : Int) then f else -1) = if 0 ≤ f ∧ f < (y : Int) then f else -1) := by show _ = _; rw [hf1, if_neg (fun hc => absurd hc.1 (by decide)), if_neg (fun hc => absurd hc.1 (by decide))]
        generalize (if 0 ≤ f ∧ f < (y : Int) then f else -1) = z at *
        clear HF hf1 HO HW
        rcases Int.lt_or_le i 0 with h5 | h5
        · clear hin
          go_wp2
          exact ⟨⟨y + 1, hlt, by rw [HV.out], by simp, HI⟩, by simp [intOf]; omega⟩
        · have h6 : ¬ i < (n : Int) := by omega
          clear hin
          go_wp2
          exact ⟨⟨y + 1, hlt, by rw [HV.out], by simp, HI⟩, by simp [intOf]; omega⟩
    · obtain rfl : y = n := by omega
      rw [HF.out]
      clear HF HO HW
      go_wp2_with (go_at_call 9; refine (HA.out.go _).mono ?_; rintro e w5 ⟨rfl, hb5⟩; have D5 := Hid.mkT (HI.out.1.below hb5); clear hb5)
      go_ret
      exact ⟨rfl, D5.out.d⟩
set_option maxHeartbeats 8000000 in
set_option maxRecDepth 100000 in
theorem tt_ok (k i : Int) (q t n : Nat) (hq : q ≤ 6) (hn : pw (q : Int) = n) (hn2 : [1, 2, 4, 8, 16, 32, 64].getD q 0 = n) (hf : ftB k (q : Int) (t : Int) = true) (a : Option Addr) (cap : Nat) (bs : List Bool) (h : ¬ 200 < bs.length) (hz : bs.length % n = 0) (hcap : bs.length ≤ cap) (W : World) (hr : Bow W a bs) :
    Calls Try.prog 3 #[.agg #[.int .i64 k, .int .i64 (q : Int), .int .i64 (t : Int)], .slice a bs.length cap, .int .i64 i] W fun e w' => e = .returned (.bool true) ∧ Below W.heap.size W w' := by
  have HA := Hid.mkT awake18
  have h' : ¬ (200 : Int) < (bs.length : Int) := by omega
  have D0 := Hid.mkT (Tb.new W k (q : Int) (t : Int) 23)
  have hn1 := pw_le (w := (q : Int)) (by omega)
  obtain ⟨_, ⟨_, ht⟩, _⟩ := ftB_true hf
  rw [hn] at hn1 ht
  have H1 := Hid.mkT (fun w hw => tbits_ok k (q : Int) (t : Int) hf n hn a cap bs hz (by omega) w hw)
  have HB : Hid (∀ j, j % n = 0 → j + n ≤ bs.length → ∀ b0 off w, Bow w (some ⟨b0, off, none⟩) bs → Calls Try.prog 16 #[.int .i64 k, .int .i64 (q : Int), .int .i64 (t : Int), .slice (some ⟨b0, off + j, none⟩) n (cap - j)] w fun e w' => ∃ a' cap', e = .returned (.slice a' n cap') ∧ Bow w' a' (((trn n (fun i : Nat => frI k (q : Int) (t : Int) (i : Int)) bs).drop j).take n) ∧ Below w.heap.size w w') := fun j hj hl b0 off w hw => by
    rw [trn_sub (fun i h => frI_lt hn h) hj hl]
    exact rbits18 k q n t hq hn hf (some ⟨b0, off + j, none⟩) (cap - j) ((bs.drop j).take n) (len_sub bs j n hl) w (hw.sub hl)
  have HL : Hid ((trn n (fun i : Nat => frI k (q : Int) (t : Int) (i : Int)) bs).length = bs.length) := trn_len _ _ _
  generalize trn n (fun i : Nat => frI k (q : Int) (t : Int) (i : Int)) bs = C at *
  have HR : Hid (Bow W a bs) := hr
  have HQ : Hid (bs.length % n = 0) := hz
  have e1 : (bs.length : Int).tmod (n : Int) = 0 := by rw [Int.tmod_eq_emod_of_nonneg (by omega)]; omega
  have e2 : (bs.length : Int) % (n : Int) = 0 := by omega
  clear hz hr
  have H2 := Hid.mkT (tfrom k (q : Int) (t : Int) i)
  have H3 := Hid.mkT (rfits18 k (q : Int) (t : Int))
  have H4 := Hid.mkT (tfits k (q : Int) (t : Int))
  rw [hf] at H3 H4
  have HW : Hid (∀ x y : Nat, i = (x : Int) → x < n → y < n → Ret 14 #[.int .i64 k, .int .i64 (q : Int), .int .i64 (t : Int), .int .i64 i, .int .i64 (y : Int)] (.bool (decide (frI k (q : Int) (t : Int) i = (y : Int))))) := fun x y hx h1 h2 => by
    have := rwas k q n t x y hq hn (by omega) (by omega) (by omega)
    rw [ws_fr hn hf h1 h2] at this
    rw [hx]
    exact this
  have HF : Hid ((if 0 ≤ frI k (q : Int) (t : Int) i ∧ frI k (q : Int) (t : Int) i < (n : Int) then frI k (q : Int) (t : Int) i else -1) = frI k (q : Int) (t : Int) i) := by
    show _ = _
    by_cases h0 : 0 ≤ frI k (q : Int) (t : Int) i
    · rw [if_pos ⟨h0, frI_lt hn h0⟩]
    · rw [if_neg (fun hc => h0 hc.1), frI_neg h0]
  have HO : Hid (¬ (0 ≤ i ∧ i < (n : Int)) → frI k (q : Int) (t : Int) i = -1) := fun hc => frI_no (fun h2 => hc (by rw [hn] at h2; exact h2.2))
  have HS := Hid.mkT (fun w => sizes_at w 3 hq hn2)
  have g1 : (q : Int) < 7 := by omega
  have g2 : (0 : Int) ≤ (q : Int) := by omega
  have g3 : ¬ (n : Int) = 0 := by omega
  have g4 : ¬ n = 0 := by omega
  generalize frI k (q : Int) (t : Int) i = f at *
  clear hn hn2 hf
  go_enter Try.func3, Try.ntmps3
  go_wp2_with (first
    | (go_at_call 10; refine (H1.out _ (HR.out.below D0.out.d)).mono ?_; rintro e w1 ⟨g, rfl, R1, hb1⟩; have D1 : Hid (Tb W w1 k (q : Int) (t : Int) ∧ Bow w1 (some ⟨g, 0, none⟩) C) := ⟨D0.out.below hb1, R1⟩; clear R1 H1; obtain ⟨c0, c1, c2, _⟩ := D1.out.1; clear hb1 D0)
    | (go_at_call 11; refine (H2.out.go _).mono ?_; rintro e w2 ⟨rfl, hb2⟩; clear c0 c1 c2; have D2 : Hid (Tb W w2 k (q : Int) (t : Int) ∧ Bow w2 (some ⟨g, 0, none⟩) C) := ⟨D1.out.1.below hb2, D1.out.2.below hb2⟩; obtain ⟨c0, c1, c2, _⟩ := D2.out.1; clear hb2 D1)
    | (go_at_call 12; refine (H3.out.go _).mono ?_; rintro e w3 ⟨rfl, hb3⟩; clear c0 c1 c2; have D3 : Hid (Tb W w3 k (q : Int) (t : Int) ∧ Bow w3 (some ⟨g, 0, none⟩) C) := ⟨D2.out.1.below hb3, D2.out.2.below hb3⟩; obtain ⟨c0, c1, c2, _⟩ := D3.out.1; clear hb3 D2)
    | (go_at_call 13; refine (H4.out.go _).mono ?_; rintro e w4 ⟨rfl, hb4⟩; clear c0 c1 c2; have D4 : Hid (Tb W (w4.alloc (Obj.cells #[.int .i64 1, .int .i64 2, .int .i64 4, .int .i64 8, .int .i64 16, .int .i64 32, .int .i64 64] 3)) k (q : Int) (t : Int) ∧ Bow (w4.alloc (Obj.cells #[.int .i64 1, .int .i64 2, .int .i64 4, .int .i64 8, .int .i64 16, .int .i64 32, .int .i64 64] 3)) (some ⟨g, 0, none⟩) C) := ⟨(D3.out.1.below hb4).below ((Below.refl _ _).alloc (Nat.le_refl _) _), (D3.out.2.below hb4).below ((Below.refl _ _).alloc (Nat.le_refl _) _)⟩; have c1 := D4.out.1.c1; have cz := HS.out w4; clear hb4 D3))
  clear c1 cz HS H2 H3 H4
  go_loopw [12, 13] (fun v u wr => ∃ y : Nat, y ≤ n ∧ v = .int .i64 (if 0 ≤ f ∧ f < (y : Int) then f else -1) ∧ u = .int .i64 y ∧ Hid (Tb W wr k (q : Int) (t : Int) ∧ Bow wr (some ⟨g, 0, none⟩) C)) (fun _ u _ => n - (intOf u).toNat)
  case atStart => exact ⟨0, Nat.zero_le _, by rw [if_neg (by omega)], rfl, D4⟩
  case round =>
    obtain ⟨y, hy, rfl, rfl, HI⟩ := hrel
    clear D4
    by_cases hlt : y < n
    · have b1 : (y : Int) < (n : Int) := by omega
      by_cases hin : 0 ≤ i ∧ i < (n : Int)
      · have H5 := Hid.mkT (HW.out i.toNat y (by omega) (by omega) hlt)
        obtain ⟨h5, h6⟩ := hin
        have c0 := HI.out.1.c0
        have c1 := HI.out.1.c1
        have c2 := HI.out.1.c2
        clear HW HO
        by_cases hfy : f = (y : Int)
        · rw [decide_eq_true hfy] at H5
          have HV : Hid ((if 0 ≤ f ∧ f < ((y + 1 : Nat) : Int) then f else -1) = (y : Int)) := by show _ = _; rw [if_pos (by omega), hfy]
          generalize (if 0 ≤ f ∧ f < (y : Int) then f else -1) = z at *
          clear HF hfy
          go_wp2_with (go_at_call 14; refine (H5.out.go _).mono ?_; rintro e w5 ⟨rfl, hb5⟩; have D5 : Hid (Tb W w5 k (q : Int) (t : Int) ∧ Bow w5 (some ⟨g, 0, none⟩) C) := ⟨HI.out.1.below hb5, HI.out.2.below hb5⟩; clear hb5)
          exact ⟨⟨y + 1, hlt, by rw [HV.out], by simp, D5⟩, by simp [intOf]; omega⟩
        · rw [decide_eq_false hfy] at H5
          have HV : Hid ((if 0 ≤ f ∧ f < ((y + 1 : Nat) : Int) then f else -1) = if 0 ≤ f ∧ f < (y : Int) then f else -1) := by
            show _ = _
            by_cases hc : 0 ≤ f ∧ f < (y : Int)
            · rw [if_pos hc, if_pos (by omega)]
            · rw [if_neg hc, if_neg (by omega)]
          generalize (if 0 ≤ f ∧ f < (y : Int) then f else -1) = z at *
          clear HF hfy
          go_wp2_with (go_at_call 14; refine (H5.out.go _).mono ?_; rintro e w5 ⟨rfl, hb5⟩; have D5 : Hid (Tb W w5 k (q : Int) (t : Int) ∧ Bow w5 (some ⟨g, 0, none⟩) C) := ⟨HI.out.1.below hb5, HI.out.2.below hb5⟩; clear hb5)
          exact ⟨⟨y + 1, hlt, by rw [HV.out], by simp, D5⟩, by simp [intOf]; omega⟩
      · have hf1 := HO.out hin
        have HV : Hid ((if 0 ≤ f ∧ f < ((y + 1 : Nat) : Int) then f else -1) = if 0 ≤ f ∧ f < (y : Int) then f else -1) := by show _ = _; rw [hf1, if_neg (fun hc => absurd hc.1 (by decide)), if_neg (fun hc => absurd hc.1 (by decide))]
        generalize (if 0 ≤ f ∧ f < (y : Int) then f else -1) = z at *
        clear HF hf1 HO HW
        rcases Int.lt_or_le i 0 with h5 | h5
        · clear hin
          go_wp2
          exact ⟨⟨y + 1, hlt, by rw [HV.out], by simp, HI⟩, by simp [intOf]; omega⟩
        · have h6 : ¬ i < (n : Int) := by omega
          clear hin
          go_wp2
          exact ⟨⟨y + 1, hlt, by rw [HV.out], by simp, HI⟩, by simp [intOf]; omega⟩
    · obtain rfl : y = n := by omega
      rw [HF.out]
      clear HF HO HW
      go_wp2_with fail
      go_loopw [14] (fun u wr2 => ∃ j : Nat, u = .int .i64 j ∧ Hid (j % y = 0 ∧ j ≤ bs.length) ∧ Hid (Tb W wr2 k (q : Int) (t : Int) ∧ Bow wr2 (some ⟨g, 0, none⟩) C)) (fun u _ => bs.length - (intOf u).toNat)
      case atStart => exact ⟨0, rfl, ⟨Nat.zero_mod _, Nat.zero_le _⟩, HI⟩
      case round =>
        obtain ⟨j, rfl, HJ, HI2⟩ := hrel
        clear HI
        by_cases hjl : j < bs.length
        · have hjn : j + y ≤ bs.length := by
            have := in_word (f := y - 1) hjl HQ.out (by omega)
            rw [HJ.out.1] at this
            omega
          obtain ⟨b0, off, rfl, hb0, _⟩ := HR.out.cells 0 (by omega)
          have HBj := Hid.mkT (HB.out j HJ.out.1 hjn b0 off)
          have HSm : Hid (∀ w a' cap', Bow w (some ⟨g, 0, none⟩) C → Bow w a' ((C.drop j).take y) → Calls Try.prog 15 #[.slice (some ⟨g, j, none⟩) y (bs.length - j), .slice a' y cap'] w fun e w' => e = .returned (.bool true) ∧ Below w.heap.size w w') := fun w a' cap' h1 h2 => by
            have h3 := h1.sub (j := j) (n := y) (by rw [HL.out]; exact hjn)
            rw [Nat.zero_add] at h3
            have := tsame (some ⟨g, j, none⟩) a' (bs.length - j) cap' _ _ (by rw [len_sub C j y (by rw [HL.out]; exact hjn)]; omega) w h3 h2
            rw [decide_eq_true rfl, len_sub C j y (by rw [HL.out]; exact hjn)] at this
            exact this
          have HJ2 : Hid ((j + y) % y = 0) := by show _ = _; rw [Nat.add_mod_right]; exact HJ.out.1
          have f1 : IntKind.i64.wrap ((j : Int) + (y : Int)) = (j : Int) + (y : Int) := by rw [IntKind.wrap_i64]; omega
          have f2 : ((j : Int) + (y : Int)).toNat = j + y := by omega
          have f4 : (j : Int) + (y : Int) ≤ (bs.length : Int) := by omega
          have f5 : (j : Int) + (y : Int) ≤ (cap : Int) := by omega
          have f6 : (j : Int) ≤ (j : Int) + (y : Int) := by omega
          have f9 : (0 : Int) ≤ (j : Int) + (y : Int) := by omega
          have f7 : (0 : Int) ≤ (j : Int) := by omega
          have f8 : (j : Int) < (bs.length : Int) := by omega
          have f10 : ¬ cap = j := by omega
          have f11 : ¬ bs.length = j := by omega
          have K := HI2
          obtain ⟨c0, c1, c2, _⟩ := K.out.1
          go_wp2_with fail
          go_region_held3 (fun w => w.cell? ⟨W.heap.size, 0, none⟩ = some (.int .i64 k) ∧ w.cell? ⟨W.heap.size, 1, none⟩ = some (.int .i64 (q : Int)) ∧ w.cell? ⟨W.heap.size, 2, none⟩ = some (.int .i64 (t : Int))) (go_keep) (first | (go_at_call 16; refine (HBj.out _ (HR.out.below (by first | exact K.out.1.d | exact K.out.1.d.drew))).mono ?_; rintro e w6 ⟨a6, cap6, rfl, B6, hb6⟩; have K' : Hid (Tb W w6 k (q : Int) (t : Int) ∧ Bow w6 (some ⟨g, 0, none⟩) C ∧ Bow w6 a6 ((C.drop j).take y)) := (by first | exact ⟨K.out.1.below hb6, K.out.2.below hb6, B6⟩ | exact ⟨K.out.1.drew.below hb6, (K.out.2.below (Below.refl _ _).drew).below hb6, B6⟩); clear c0 c1 c2 K hb6 B6; have K := K'; clear K'; obtain ⟨c0, c1, c2, _⟩ := K.out.1) | (go_at_call 15; refine (HSm.out _ _ _ K.out.2.1 K.out.2.2).mono ?_; rintro e w7 ⟨rfl, hb7⟩; have K' : Hid (Tb W w7 k (q : Int) (t : Int) ∧ Bow w7 (some ⟨g, 0, none⟩) C) := ⟨K.out.1.below hb7, K.out.2.1.below hb7⟩; clear c0 c1 c2 K hb7; have K := K'; clear K'; obtain ⟨c0, c1, c2, _⟩ := K.out.1))
          go_wp2
          exact ⟨⟨j + y, by simp, ⟨HJ2.out, hjn⟩, K⟩, by simp [intOf]; omega⟩
        · obtain rfl : j = bs.length := by have := HJ.out.2; omega
          go_wp2_with (go_at_call 9; refine (HA.out.go _).mono ?_; rintro e w5 ⟨rfl, hb5⟩; have D5 := Hid.mkT (HI2.out.1.below hb5); clear hb5)
          go_ret
          exact ⟨rfl, D5.out.d⟩
theorem tt_any (k v s i : Int) (a : Option Addr) (cap : Nat) (bs : List Bool) (hcap : bs.length ≤ cap) (W : World) (hr : Bow W a bs) :
    Calls Try.prog 3 #[.agg #[.int .i64 k, .int .i64 v, .int .i64 s], .slice a bs.length cap, .int .i64 i] W fun e w' => e = .returned (.bool true) ∧ Below W.heap.size W w' := by
  by_cases h : 200 < bs.length
  · exact tt_long k v s i a cap bs h W
  · cases hf : ftB k v s
    · exact tt_no k v s i a cap bs h hf W
    · obtain ⟨h1, h2, _⟩ := ftB_true hf
      obtain ⟨q, rfl⟩ : ∃ q : Nat, v = (q : Int) := ⟨v.toNat, by omega⟩
      obtain ⟨t, rfl⟩ : ∃ t : Nat, s = (t : Int) := ⟨s.toNat, by omega⟩
      obtain ⟨n, hn, hn2, _, _⟩ := pw_nat q (by omega)
      by_cases hz : bs.length % n = 0
      · exact tt_ok k i q t n (by omega) hn hn2 hf a cap bs h hz hcap W hr
      · exact tt_size k i q t n (by omega) hn hn2 hf a cap bs h hz W
end Go.Proofs.Ythfebbmmhjkglaa
