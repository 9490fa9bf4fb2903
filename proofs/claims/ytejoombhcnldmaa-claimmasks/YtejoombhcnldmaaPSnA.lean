/- Contracts of claim.isLevel, fit and Check over the seat's translation. -/
import Derived.Test.YtejoombhcnldmaaPTuA
import Derived.BigQuiet
import Derived.Test.YtejoombhcnldmaaTwBl
import Derived.Test.YtejoombhcnldmaaTwM
import Derived.Test.YtejoombhcnldmaaPShelfB
namespace Go.Proofs.Ytejoombhcnldmaa
open Go.RowKit
open Cb
open Tw (pm)

theorem hidC {p : Prop} (h : p) : Hid p := h
theorem below_drewC {B : Nat} {w w' : World} (h : Below B w w') (k : Nat) : Below B w (w'.drewN k) := ⟨h.os, h.tape, h.output, h.size, h.block⟩
theorem cmlev_yes (l : Int) (h : 0 ≤ l ∧ l ≤ 7) : Ret 33 #[.int .i64 l] (.bool true) := by
  intro W
  obtain ⟨h1, h2⟩ := h
  go_enter Try.func33, Try.ntmps33
  go_wp2
  go_ret
  exact ⟨rfl, by first | exact Below.refl _ _ | go_grown⟩
theorem cmlev_no (l : Int) (h : ¬ (0 ≤ l ∧ l ≤ 7)) : Ret 33 #[.int .i64 l] (.bool false) := by
  intro W
  rcases Int.lt_or_le l 0 with h1 | h1
  · have h2 : ¬ 0 ≤ l := by omega
    go_enter Try.func33, Try.ntmps33
    go_wp2
    go_ret
    exact ⟨rfl, by first | exact Below.refl _ _ | go_grown⟩
  · have h2 : ¬ l ≤ 7 := by omega
    go_enter Try.func33, Try.ntmps33
    go_wp2
    go_ret
    exact ⟨rfl, by first | exact Below.refl _ _ | go_grown⟩
/-- What hinders a list from being n elements of a level. -/
def cfE (l n : Int) (es : List (Nat × Nat)) : Int := if (es.length : Int) = n then (if (es.all fun e => ofB l (e.1 : Int) (e.2 : Int)) = true then 0 else 5) else 6
set_option maxHeartbeats 2000000 in
theorem cmfit (l n : Int) (a : Option Addr) (cap : Nat) (es : List (Nat × Nat)) (hes : ltE es) (h10 : es.length ≤ 100000) (W : World) (hr : ERow W a es) :
    Calls Try.prog 46 #[.int .i64 l, .int .i64 n, .slice a es.length cap] W fun e w' => e = .returned (.int .i64 (cfE l n es)) ∧ Below W.heap.size W w' := by
  have HR : Hid (ERow W a es) := hr
  have HO : Hid (∀ j : Nat, Ret 34 #[.int .i64 l, .agg #[.int .u64 ((es.getD j (0, 0)).1 : Int), .int .u64 ((es.getD j (0, 0)).2 : Int)]] (.bool (ofB l ((es.getD j (0, 0)).1 : Int) ((es.getD j (0, 0)).2 : Int)))) := fun j => of_ret l _ _ (hes.at j).2
  clear hr hes
  by_cases hn : (es.length : Int) = n
  · have HE : Hid (cfE l n es = if (es.all fun e => ofB l (e.1 : Int) (e.2 : Int)) = true then 0 else 5) := by show _ = _; unfold cfE; rw [if_pos hn]
    subst hn
    go_enter Try.func46, Try.ntmps46
    go_wp2_with fail
    go_loopw [15] (fun u wr => ∃ j : Nat, j ≤ es.length ∧ u = .int .i64 j ∧ Hid ((es.take j).all (fun e => ofB l (e.1 : Int) (e.2 : Int)) = true) ∧ Below W.heap.size W wr) (fun u _ => es.length - (intOf u).toNat)
    case atStart => exact ⟨0, Nat.zero_le _, rfl, (by rfl), Below.refl _ _⟩
    case round =>
      obtain ⟨j, hj, rfl, HT, hD⟩ := hrel
      by_cases hlt : j < es.length
      · obtain ⟨b, off, rfl, hb, c1, c0⟩ := HR.out.cells j hlt
        have d1 := keepc hD c1
        have d0 := keepc hD c0
        have H1 := HO.out j
        have HD : Hid (Below W.heap.size W wr) := hD
        have HS : Hid (es.take (j + 1) = es.take j ++ [es.getD j (0, 0)]) := take_sn es j hlt
        have HM : Hid (es.getD j (0, 0) ∈ es) := by show _ ∈ _; rw [show es.getD j (0, 0) = es[j] by simp [hlt]]; exact List.getElem_mem hlt
        clear hD c1 c0 HR HO
        generalize es.getD j (0, 0) = x at *
        rcases hB : ofB l (x.1 : Int) (x.2 : Int) with _ | _
        · rw [hB] at H1
          have HE5 : Hid (cfE l (es.length : Int) es = 5) := by
            show _ = _
            rw [HE.out, if_neg]
            rw [Bool.not_eq_true, List.all_eq_false]
            exact ⟨x, HM.out, by rw [hB]; decide⟩
          go_wp2_with (go_at_call 34; refine (H1.go _).mono ?_; rintro e w4 ⟨rfl, hb4⟩; have HD4 : Hid (Below W.heap.size W w4) := (HD.out.alloc HD.out.size _).trans (hb4.mono (by have := HD.out.size; simp; omega)); clear hb4 d1 d0 HD)
          go_ret
          exact ⟨by rw [HE5.out]; rfl, HD4.out⟩
        · rw [hB] at H1
          go_wp2_with (go_at_call 34; refine (H1.go _).mono ?_; rintro e w4 ⟨rfl, hb4⟩; have HD4 : Hid (Below W.heap.size W w4) := (HD.out.alloc HD.out.size _).trans (hb4.mono (by have := HD.out.size; simp; omega)); clear hb4 d1 d0 HD)
          exact ⟨⟨j + 1, hlt, by simp, (by show _ = _; rw [HS.out, List.all_append, HT.out]; simp [hB]), HD4.out⟩, by simp [intOf]; omega⟩
      · have HD : Hid (Below W.heap.size W wr) := hD
        obtain rfl : j = es.length := by omega
        have HE0 : Hid (cfE l (es.length : Int) es = 0) := by
          have := HT.out
          rw [List.take_of_length_le (Nat.le_refl _)] at this
          show _ = _
          rw [HE.out, if_pos this]
        clear hD HT HE
        go_wp2
        go_ret
        exact ⟨by rw [HE0.out]; rfl, HD.out⟩
  · have HE : Hid (cfE l n es = 6) := by show _ = _; unfold cfE; rw [if_neg hn]
    go_enter Try.func46, Try.ntmps46
    go_wp2
    go_ret
    exact ⟨by rw [HE.out]; rfl, Below.refl _ _⟩
/-- What is wrong with a claim, with the first of many, with all. -/
def ck1 (P : Nat) (w : Int) (o : Stp) : Int := if 0 ≤ o.k ∧ o.k < (P : Int) then (if ftB o.a w o.b = true then 0 else 1) else 4
def ckL (P : Nat) (w : Int) : List Stp → Int
  | [] => 0
  | o :: l => if ck1 P w o = 0 then ckL P w l else ck1 P w o
def ckE (c w : Int) (l : List Stp) : Int := if (0 ≤ c ∧ c ≤ 6) ∧ (0 ≤ w ∧ w ≤ 6) then (if l.length ≤ 200 then ckL (2 ^ c.toNat) w l else 2) else 1
theorem drop_st (l : List Stp) (j : Nat) (h : j < l.length) : l.drop j = l.getD j zst :: l.drop (j + 1) := by
  rw [List.drop_eq_getElem_cons h]
  simp [h]
set_option maxHeartbeats 8000000 in
set_option maxRecDepth 100000 in
theorem cmchk (c w : Int) (a : Option Addr) (cap : Nat) (l : List Stp) (h10 : l.length ≤ 100000) (W : World) (hr : ORow W a l) :
    Calls Try.prog 14 #[.int .i64 c, .int .i64 w, .slice a l.length cap] W fun e w' => e = .returned (.int .i64 (ckE c w l)) ∧ Below W.heap.size W w' := by
  have HR : Hid (ORow W a l) := hr
  clear hr
  by_cases hb : (0 ≤ c ∧ c ≤ 6) ∧ (0 ≤ w ∧ w ≤ 6)
  · have c0 : ¬ c < 0 := by omega
    have c6 : ¬ 6 < c := by omega
    have w0 : ¬ w < 0 := by omega
    have w6 : ¬ 6 < w := by omega
    by_cases hn : l.length ≤ 200
    · have hn' : ¬ 200 < (l.length : Int) := by omega
      obtain ⟨cn, rfl⟩ : ∃ n : Nat, c = (n : Int) := ⟨c.toNat, by omega⟩
      obtain ⟨P, hP⟩ : ∃ P, P = 2 ^ cn := ⟨_, rfl⟩
      have hP1 : P ≤ 64 := by rw [hP]; exact Nat.le_trans (Nat.pow_le_pow_right (by decide) (show cn ≤ 6 by omega)) (by decide)
      have hsh : IntKind.i64.wrap ((2 : Int) ^ cn) = (P : Int) := by
        rw [IntKind.wrap_i64, show (2 : Int) ^ cn = ((2 ^ cn : Nat) : Int) by simp, ← hP]; omega
      have HE : Hid (ckE (cn : Int) w l = ckL P w l) := by show _ = _; unfold ckE; rw [if_pos hb, if_pos hn, Int.toNat_natCast, ← hP]
      clear hP hb hn
      go_enter Try.func14, Try.ntmps14
      go_wp2_with fail
      go_loopw [30] (fun u wr => ∃ j : Nat, j ≤ l.length ∧ u = .int .i64 j ∧ Hid (ckL P w l = ckL P w (l.drop j)) ∧ Hid (Below W.heap.size W wr)) (fun u _ => l.length - (intOf u).toNat)
      case atStart => exact ⟨0, Nat.zero_le _, rfl, (by rfl), Below.refl _ _⟩
      case round =>
        obtain ⟨j, hj, rfl, HT, HD⟩ := hrel
        by_cases hlt : j < l.length
        · obtain ⟨b, off, rfl, hb, d0, d1, d2, d3, d4⟩ := HR.out.cells j hlt
          have D0 := keepc HD.out d0
          have D1 := keepc HD.out d1
          have D2 := keepc HD.out d2
          have D3 := keepc HD.out d3
          have D4 := keepc HD.out d4
          have j1 : (j : Int) < (l.length : Int) := by omega
          have j0 : (0 : Int) ≤ (j : Int) := by omega
          have HS : Hid (ckL P w (l.drop j) = if ck1 P w (l.getD j zst) = 0 then ckL P w (l.drop (j + 1)) else ck1 P w (l.getD j zst)) := by show _ = _; rw [drop_st l j hlt]; rfl
          clear d0 d1 d2 d3 d4 hb HR
          generalize l.getD j zst = o at *
          obtain ⟨k, ki, s, v⟩ := o
          dsimp only at *
          have HK1 : Hid (ck1 P w ⟨k, ki, s, v⟩ = if 0 ≤ k ∧ k < (P : Int) then (if ftB ki w s = true then 0 else 1) else 4) := rfl
          have HFT := hidC (tfits ki w s)
          have K1 : Hid (Below W.heap.size W (wr.alloc (Obj.cells #[.int .i64 k, .int .i64 ki, .int .i64 s, .int .u64 (v.1 : Int), .int .u64 (v.2 : Int)] 60)) ∧ (wr.alloc (Obj.cells #[.int .i64 k, .int .i64 ki, .int .i64 s, .int .u64 (v.1 : Int), .int .u64 (v.2 : Int)] 60)).cell? ⟨wr.heap.size, 0, none⟩ = some (.int .i64 k) ∧ (wr.alloc (Obj.cells #[.int .i64 k, .int .i64 ki, .int .i64 s, .int .u64 (v.1 : Int), .int .u64 (v.2 : Int)] 60)).cell? ⟨wr.heap.size, 1, none⟩ = some (.int .i64 ki) ∧ (wr.alloc (Obj.cells #[.int .i64 k, .int .i64 ki, .int .i64 s, .int .u64 (v.1 : Int), .int .u64 (v.2 : Int)] 60)).cell? ⟨wr.heap.size, 2, none⟩ = some (.int .i64 s)) := ⟨HD.out.alloc HD.out.size _, by simp [go_sem], by simp [go_sem], by simp [go_sem]⟩
          clear HD
          go_upto_region 8 with fail
          clear D0 D1 D2 D3 D4
          generalize (wr.alloc (Obj.cells #[.int .i64 k, .int .i64 ki, .int .i64 s, .int .u64 (v.1 : Int), .int .u64 (v.2 : Int)] 60)) = wa at *
          generalize wr.heap.size = q at *
          by_cases hk : k < 0
          · have hd : decide (k < 0) = true := decide_eq_true hk
            have HV : Hid (ckE (cn : Int) w l = 4) := by show _ = _; rw [HE.out, HT.out, HS.out, HK1.out, if_neg (show ¬ (0 ≤ k ∧ k < (P : Int)) by omega), if_neg (by decide)]
            clear HE HT HS HK1
            have c0 := K1.out.2.1
            go_quiet (fail)
            go_wp2
            go_ret
            exact ⟨by rw [HV.out]; rfl, below_drewC K1.out.1 _⟩
          · have hd : decide (k < 0) = false := decide_eq_false hk
            by_cases hk2 : (P : Int) ≤ k
            · have hd2 : decide ((P : Int) ≤ k) = true := decide_eq_true hk2
              have HV : Hid (ckE (cn : Int) w l = 4) := by show _ = _; rw [HE.out, HT.out, HS.out, HK1.out, if_neg (show ¬ (0 ≤ k ∧ k < (P : Int)) by omega), if_neg (by decide)]
              clear HE HT HS HK1
              have c0 := K1.out.2.1
              go_quiet (fail)
              go_wp2
              go_ret
              exact ⟨by rw [HV.out]; rfl, below_drewC K1.out.1 _⟩
            · have hd2 : decide ((P : Int) ≤ k) = false := decide_eq_false hk2
              rcases hF : ftB ki w s with _ | _
              · rw [hF] at HFT
                have HV : Hid (ckE (cn : Int) w l = 1) := by show _ = _; rw [HE.out, HT.out, HS.out, HK1.out, if_pos (show 0 ≤ k ∧ k < (P : Int) by omega), hF]; rfl
                clear HE HT HS HK1
                have c0 := K1.out.2.1
                go_quiet (fail)
                have c1 := K1.out.2.2.1
                have c2 := K1.out.2.2.2
                go_wp2_with (go_at_call 40; refine (HFT.out.go _).mono ?_; rintro e w5 ⟨rfl, hb5⟩)
                go_ret
                exact ⟨by rw [HV.out]; rfl, (below_drewC K1.out.1 _).trans (hb5.mono (below_drewC K1.out.1 _).size)⟩
              · rw [hF] at HFT
                have HV : Hid (ckL P w l = ckL P w (l.drop (j + 1))) := by show _ = _; rw [HT.out, HS.out, HK1.out, if_pos (show 0 ≤ k ∧ k < (P : Int) by omega), hF]; rfl
                clear HT HS HK1
                have c0 := K1.out.2.1
                go_quiet (fail)
                have c1 := K1.out.2.2.1
                have c2 := K1.out.2.2.2
                go_wp2_with (go_at_call 40; refine (HFT.out.go _).mono ?_; rintro e w5 ⟨rfl, hb5⟩)
                exact ⟨⟨j + 1, hlt, by simp, HV, (below_drewC K1.out.1 _).trans (hb5.mono (below_drewC K1.out.1 _).size)⟩, by simp [intOf]; omega⟩
        · obtain rfl : j = l.length := by omega
          have HV : Hid (ckE (cn : Int) w l = 0) := by show _ = _; rw [HE.out, HT.out, List.drop_of_length_le (Nat.le_refl _)]; rfl
          clear HE HT HR
          go_wp2
          go_ret
          exact ⟨by rw [HV.out]; rfl, HD.out⟩
    · have hn' : 200 < (l.length : Int) := by omega
      have HE : Hid (ckE c w l = 2) := by show _ = _; unfold ckE; rw [if_pos hb, if_neg hn]
      clear hb hn
      go_enter Try.func14, Try.ntmps14
      go_wp2
      go_ret
      exact ⟨by rw [HE.out]; rfl, Below.refl _ _⟩
  · have HE : Hid (ckE c w l = 1) := by show _ = _; unfold ckE; rw [if_neg hb]
    by_cases c0 : c < 0
    · clear hb
      go_enter Try.func14, Try.ntmps14
      go_wp2
      go_ret
      exact ⟨by rw [HE.out]; rfl, Below.refl _ _⟩
    · by_cases c6 : 6 < c
      · clear hb
        go_enter Try.func14, Try.ntmps14
        go_wp2
        go_ret
        exact ⟨by rw [HE.out]; rfl, Below.refl _ _⟩
      · by_cases w0 : w < 0
        · clear hb
          go_enter Try.func14, Try.ntmps14
          go_wp2
          go_ret
          exact ⟨by rw [HE.out]; rfl, Below.refl _ _⟩
        · have w6 : 6 < w := by omega
          clear hb
          go_enter Try.func14, Try.ntmps14
          go_wp2
          go_ret
          exact ⟨by rw [HE.out]; rfl, Below.refl _ _⟩
end Go.Proofs.Ytejoombhcnldmaa

/- Powers, over the seat's translation. -/
namespace Go.Proofs.Ytejoombhcnldmaa
open Go.RowKit

theorem bit_nat (n j : Nat) (hn : n < 2 ^ 64) : bits .and .u64 ((n : Int) / 2 ^ j) 1 = ((n / 2 ^ j % 2 : Nat) : Int) := by
  have h1 : n / 2 ^ j < 2 ^ 64 := Nat.lt_of_le_of_lt (Nat.div_le_self _ _) hn
  have h2 : (n : Int) / 2 ^ j = ((n / 2 ^ j : Nat) : Int) := by rw [Int.natCast_ediv, Int.natCast_pow]; rfl
  have := u64_and_nat (n / 2 ^ j) 1 h1 (by decide)
  rw [Nat.and_one_is_mod] at this
  rw [h2]; exact this

theorem of_pp {k xh xl : Nat} (hk : k < 8) (X : ofB (k : Int) (xh : Int) (xl : Int) = true) : ∀ n, ofB (k : Int) (Tw.pph xh xl n : Nat) (Tw.ppl xh xl n : Nat) = true
  | 0 => by rw [(Tw.pp_zero xh xl).1, (Tw.pp_zero xh xl).2]; exact of_one k hk
  | n + 1 => by rw [← (Tw.pp_succ xh xl n).1, ← (Tw.pp_succ xh xl n).2]; exact of_pm hk (of_pp hk X n) X
end Go.Proofs.Ytejoombhcnldmaa

/- Contracts of span's long and has over the seat's translation. -/
namespace Go.Proofs.Ytejoombhcnldmaa
open Go.RowKit

/-- An element's bits. -/
def hasE (x : Nat × Nat) (n : Nat) : Bool := if n < 64 then x.2.testBit n else x.1.testBit (n - 64)
/-- How many bits it has up to its leading one. -/
def lngE (x : Nat × Nat) : Nat := if x.1 = 0 then Lib.bitLen x.2 else 64 + Lib.bitLen x.1
theorem bitLen_zero : Lib.bitLen 0 = 0 := by decide
theorem bitLen_pow : ∀ k x : Nat, k ≤ 64 → x < 2 ^ k → Lib.bitLen x ≤ k
  | 0, x, _, h => by obtain rfl : x = 0 := by omega
                     rw [bitLen_zero]; exact Nat.le_refl _
  | k + 1, x, hk, h => by
    by_cases h0 : x = 0
    · subst h0; rw [bitLen_zero]; exact Nat.zero_le _
    · have h64 : 2 ^ (k + 1) ≤ 2 ^ 64 := Nat.pow_le_pow_right (by decide) hk
      rw [Lib.bitLen_half x h0 (by omega)]
      have := bitLen_pow k (x / 2) (by omega) (by rw [Nat.pow_succ] at h; omega)
      omega
theorem bitLen_le (n : Nat) (h : n < 2 ^ 64) : Lib.bitLen n ≤ 64 := bitLen_pow 64 n (Nat.le_refl _) h
/-- What is below 2^k has no bit at k or above; what is not 0 has its leading one. -/
theorem bitLen_lt : ∀ k x : Nat, k ≤ 64 → x < 2 ^ k → x < 2 ^ Lib.bitLen x
  | 0, x, _, h => by obtain rfl : x = 0 := by omega
                     rw [bitLen_zero]; decide
  | k + 1, x, hk, h => by
    by_cases h0 : x = 0
    · subst h0; rw [bitLen_zero]; decide
    · have h64 : 2 ^ (k + 1) ≤ 2 ^ 64 := Nat.pow_le_pow_right (by decide) hk
      rw [Lib.bitLen_half x h0 (by omega), Nat.add_comm, Nat.pow_succ]
      have := bitLen_lt k (x / 2) (by omega) (by rw [Nat.pow_succ] at h; omega)
      omega
theorem bitLen_lead : ∀ k x : Nat, k ≤ 64 → x < 2 ^ k → x ≠ 0 → 1 ≤ Lib.bitLen x ∧ x.testBit (Lib.bitLen x - 1) = true
  | 0, x, _, h, h0 => by omega
  | k + 1, x, hk, h, h0 => by
    have h64 : 2 ^ (k + 1) ≤ 2 ^ 64 := Nat.pow_le_pow_right (by decide) hk
    rw [Lib.bitLen_half x h0 (by omega)]
    by_cases h1 : x / 2 = 0
    · obtain rfl : x = 1 := by omega
      decide
    · have := bitLen_lead k (x / 2) (by omega) (by rw [Nat.pow_succ] at h; omega) h1
      refine ⟨by omega, ?_⟩
      rw [show 1 + Lib.bitLen (x / 2) - 1 = (Lib.bitLen (x / 2) - 1) + 1 by omega, Nat.testBit_succ]
      exact this.2
/-- The leading bit. -/
theorem lngE_lead (x : Nat × Nat) (h1 : x.1 < 2 ^ 64) (h2 : x.2 < 2 ^ 64) (h0 : x ≠ (0, 0)) : 1 ≤ lngE x ∧ lngE x ≤ 128 ∧ hasE x (lngE x - 1) = true := by
  obtain ⟨h, l⟩ := x
  unfold lngE hasE
  simp only at h1 h2 ⊢
  by_cases e : h = 0
  · subst e
    have hl : l ≠ 0 := fun e => h0 (by rw [e])
    have a := bitLen_lead 64 l (Nat.le_refl _) h2 hl
    have b := bitLen_le l h2
    rw [if_pos rfl, if_pos (by omega)]
    exact ⟨a.1, by omega, a.2⟩
  · have a := bitLen_lead 64 h (Nat.le_refl _) h1 e
    have b := bitLen_le h h1
    rw [if_neg e, if_neg (by omega), show 64 + Lib.bitLen h - 1 - 64 = Lib.bitLen h - 1 by omega]
    exact ⟨by omega, by omega, a.2⟩
end Go.Proofs.Ytejoombhcnldmaa
