/- The contracts of span's isMap, within, Turn, Apply and Then at any arguments, over the seat's translation. -/
import Derived.Test.YtkllihomdlibgaaSqM
namespace Go.Proofs.Ytkllihomdlibgaa
open Go.RowKit
open Cb Rg Sq

/-- Has none a bit from n on? -/
def fitL (l : List (Nat × Nat)) (n : Nat) : Bool := l.all fun e => decide (lngE e ≤ n)
theorem fitL_iff (l : List (Nat × Nat)) (n : Nat) : fitL l n = true ↔ ∀ e ∈ l, lngE e ≤ n := by simp [fitL]
set_option maxHeartbeats 400000 in
theorem smap_no (a : Option Addr) (n cap : Nat) (h : 128 < n) : Ret 44 #[.slice a n cap] (.bool false) := by
  intro W
  have h1 : ¬ (n : Int) ≤ 128 := by omega
  go_enter Try.func44, Try.ntmps44
  go_wp2
  go_ret
  exact ⟨rfl, by first | exact Below.refl _ _ | go_grown⟩
set_option maxHeartbeats 2000000 in
theorem within_any (a : Option Addr) (cap n : Nat) (es : List (Nat × Nat)) (hes : ltE es) (h10 : es.length ≤ 1000) (W : World) (hr : ERow W a es) :
    Calls Try.prog 48 #[.slice a es.length cap, .int .i64 (n : Int)] W fun e w' => e = .returned (.bool (fitL es n)) ∧ Below W.heap.size W w' := by
  have HR : Hid (ERow W a es) := hr
  have HO : Hid (∀ j : Nat, Ret 45 #[.agg #[.int .u64 ((el es j).1 : Int), .int .u64 ((el es j).2 : Int)]] (.int .i64 (lngE (el es j) : Int))) := fun j => long_any _ (ltE_el hes j).1 (ltE_el hes j).2
  clear hr hes
  go_enter Try.func48, Try.ntmps48
  go_wp2_with fail
  go_loopw [9] (fun u wr => ∃ j : Nat, j ≤ es.length ∧ u = .int .i64 j ∧ Hid (∀ i, i < j → lngE (el es i) ≤ n) ∧ Below W.heap.size W wr) (fun u _ => es.length - (intOf u).toNat)
  case atStart => exact ⟨0, Nat.zero_le _, rfl, (by show ∀ _, _; omega), Below.refl _ _⟩
  case round =>
    obtain ⟨j, hj, rfl, HN, hD⟩ := hrel
    by_cases hlt : j < es.length
    · obtain ⟨b, off, rfl, hb, c1, c0⟩ := HR.out.cells j hlt
      have d1 : wr.cell? ⟨b, off + j * 2, none⟩ = some (.int .u64 ((el es j).1 : Int)) := keepc hD c1
      have d0 : wr.cell? ⟨b, off + j * 2 + 1, none⟩ = some (.int .u64 ((el es j).2 : Int)) := keepc hD c0
      have H1 := hidT (HO.out j)
      have HD : Hid (Below W.heap.size W wr) := hD
      have HX : Hid (¬ lngE (el es j) ≤ n → fitL es n = false) := fun h => by
        rw [Bool.eq_false_iff]
        intro h2
        exact h ((fitL_iff _ _).1 h2 _ (el_lt hlt))
      have HM : Hid (lngE (el es j) ≤ n → ∀ i, i < j + 1 → lngE (el es i) ≤ n) := fun h i hi => by
        by_cases e : i = j
        · rw [e]; exact h
        · exact HN.out i (by omega)
      have j1 : (j : Int) < (es.length : Int) := by omega
      clear hD c1 c0 HR HO HN
      generalize el es j = x at *
      generalize lngE x = L at *
      by_cases hL : L ≤ n
      · have hL2 : ¬ (n : Int) < (L : Int) := by omega
        have h3 := hidT (HM.out hL)
        clear HM HX hL
        go_wp2_with fail
        refine (H1.out.go _).mono ?_
        rintro e w4 ⟨rfl, hb4⟩
        have HD4 : Hid (Below W.heap.size W w4) := (HD.out.alloc HD.out.size _).trans (hb4.mono (by have := HD.out.size; simp; omega))
        clear hb4 d1 d0 HD
        go_wp2
        exact ⟨⟨j + 1, hlt, by simp, h3, HD4.out⟩, by simp [intOf]; omega⟩
      · have hL2 : (n : Int) < (L : Int) := by omega
        have h3 := hidT (HX.out hL)
        clear HM HX hL
        go_wp2_with fail
        refine (H1.out.go _).mono ?_
        rintro e w4 ⟨rfl, hb4⟩
        have HD4 : Hid (Below W.heap.size W w4) := (HD.out.alloc HD.out.size _).trans (hb4.mono (by have := HD.out.size; simp; omega))
        clear hb4 d1 d0 HD
        go_wp2
        go_ret
        exact ⟨by rw [h3.out]; rfl, HD4.out⟩
    · have HD : Hid (Below W.heap.size W wr) := hD
      obtain rfl : j = es.length := by omega
      have h3 : Hid (fitL es n = true) := by
        show _ = _
        rw [fitL_iff]
        intro e he
        obtain ⟨i, hi, rfl⟩ := mem_el he
        exact HN.out i hi
      clear hD
      go_wp2
      go_ret
      exact ⟨by rw [h3.out]; rfl, HD.out⟩
/-- What hinders a turn, and what it makes. -/
def tuE (l : List (Nat × Nat)) (n : Int) : Int := if 128 < l.length ∨ n < 0 ∨ 128 < n then 1 else if fitL l n.toNat = true then 0 else 6
def tuL (l : List (Nat × Nat)) (n : Int) : List (Nat × Nat) := if tuE l n = 0 then trm l l.length n.toNat else []
theorem lt_tuL (l : List (Nat × Nat)) (n : Int) : ltE (tuL l n) := by
  unfold tuL; split
  · exact lt_trm _ _ _
  · exact fun e he => by simp at he
set_option maxHeartbeats 2000000 in
theorem turn_arg (a : Option Addr) (cap M : Nat) (n : Int) (h : 128 < M ∨ n < 0 ∨ 128 < n) : Ret 32 #[.slice a M cap, .int .i64 n] (.tuple #[.slice none 0 0, .int .i64 1]) := by
  intro W
  by_cases h1 : 128 < M
  · have HM := hidT (smap_no a M cap h1)
    clear h
    go_enter Try.func32, Try.ntmps32
    go_wp2_with (go_at_call 44; refine (HM.out.go _).mono ?_; rintro e w1 ⟨rfl, hb1⟩; have D1 := hidT hb1; clear hb1)
    refine bodyPost_ret (v := .tuple #[.slice none 0 0, .int .i64 1]) (by simp [results, Try.results32, go_sem]) rfl ⟨rfl, D1.out⟩
  · have HM := hidT (smap_yes a M cap (by omega))
    by_cases h2 : n < 0
    · clear h h1
      go_enter Try.func32, Try.ntmps32
      go_wp2_with (go_at_call 44; refine (HM.out.go _).mono ?_; rintro e w1 ⟨rfl, hb1⟩; have D1 := hidT hb1; clear hb1)
      refine bodyPost_ret (v := .tuple #[.slice none 0 0, .int .i64 1]) (by simp [results, Try.results32, go_sem]) rfl ⟨rfl, D1.out⟩
    · have h3 : 128 < n := by omega
      clear h h1
      go_enter Try.func32, Try.ntmps32
      go_wp2_with (go_at_call 44; refine (HM.out.go _).mono ?_; rintro e w1 ⟨rfl, hb1⟩; have D1 := hidT hb1; clear hb1)
      refine bodyPost_ret (v := .tuple #[.slice none 0 0, .int .i64 1]) (by simp [results, Try.results32, go_sem]) rfl ⟨rfl, D1.out⟩
set_option maxHeartbeats 2000000 in
theorem turn_size (a : Option Addr) (cap N : Nat) (l : List (Nat × Nat)) (hl : ltE l) (hM : l.length ≤ 128) (hN : N ≤ 128) (hf : fitL l N = false) (W : World) (hr : ERow W a l) :
    Calls Try.prog 32 #[.slice a l.length cap, .int .i64 (N : Int)] W fun e w' => e = .returned (.tuple #[.slice none 0 0, .int .i64 6]) ∧ Below W.heap.size W w' := by
  have HM := hidT (smap_yes a l.length cap hM)
  have HW : Hid (∀ w, Below W.heap.size W w → Calls Try.prog 48 #[.slice a l.length cap, .int .i64 (N : Int)] w fun e w' => e = .returned (.bool false) ∧ Below w.heap.size w w') := fun w hw => by
    have := within_any a cap N l hl (by omega) w (hr.below hw)
    rwa [hf] at this
  have n1 : ¬ (N : Int) < 0 := by omega
  have n2 : ¬ 128 < (N : Int) := by omega
  clear hr hl hf
  go_enter Try.func32, Try.ntmps32
  go_wp2_with (first
    | (go_at_call 44; refine (HM.out.go _).mono ?_; rintro e w1 ⟨rfl, hb1⟩; have D1 := hidT hb1; clear hb1)
    | (go_at_call 48; refine (HW.out _ D1.out).mono ?_; rintro e w2 ⟨rfl, hb2⟩; have D2 := hidT (D1.out.trans (hb2.mono D1.out.size)); clear hb2))
  refine bodyPost_ret (v := .tuple #[.slice none 0 0, .int .i64 6]) (by simp [results, Try.results32, go_sem]) rfl ⟨rfl, D2.out⟩
theorem turn_all (a : Option Addr) (cap : Nat) (n : Int) (l : List (Nat × Nat)) (hl : ltE l) (W : World) (hr : ERow W a l) :
    Calls Try.prog 32 #[.slice a l.length cap, .int .i64 n] W fun e w' => ∃ s cp, e = .returned (.tuple #[.slice s (tuL l n).length cp, .int .i64 (tuE l n)]) ∧ ERow w' s (tuL l n) ∧ Below W.heap.size W w' := by
  by_cases h : 128 < l.length ∨ n < 0 ∨ 128 < n
  · have e1 : tuE l n = 1 := if_pos h
    have e2 : tuL l n = [] := by unfold tuL; rw [e1]; rfl
    rw [e1, e2]
    refine (turn_arg a cap l.length n h W).mono ?_
    rintro e w' ⟨rfl, hb⟩
    exact ⟨none, 0, rfl, ⟨fun i hi => by simp at hi⟩, hb⟩
  · obtain ⟨N, rfl⟩ : ∃ N : Nat, n = (N : Int) := ⟨n.toNat, by omega⟩
    have hN : N ≤ 128 := by omega
    have hM : l.length ≤ 128 := by omega
    cases hf : fitL l N
    · have e1 : tuE l (N : Int) = 6 := by
        unfold tuE
        rw [if_neg h, Int.toNat_natCast, hf, if_neg (by decide)]
      have e2 : tuL l (N : Int) = [] := by unfold tuL; rw [e1]; rfl
      rw [e1, e2]
      refine (turn_size a cap N l hl hM hN hf W hr).mono ?_
      rintro e w' ⟨rfl, hb⟩
      exact ⟨none, 0, rfl, ⟨fun i hi => by simp at hi⟩, hb⟩
    · have e1 : tuE l (N : Int) = 0 := by
        unfold tuE
        rw [if_neg h, Int.toNat_natCast, hf, if_pos rfl]
      have e2 : tuL l (N : Int) = trm l l.length N := by unfold tuL; rw [e1, Int.toNat_natCast]; rfl
      rw [e1, e2]
      refine (turn_any a cap l.length N l hl rfl hM hN ((fitL_iff _ _).1 hf) W hr).mono ?_
      rintro e w' ⟨g, rfl, hE, hb⟩
      exact ⟨_, N, by rw [trm_len], hE, hb⟩
/-- What hinders a map, and what it makes. -/
def apE (m : List (Nat × Nat)) (x : Nat × Nat) : Int := if 128 < m.length then 1 else if m.length < lngE x then 6 else 0
def apV (m : List (Nat × Nat)) (x : Nat × Nat) : Nat × Nat := if apE m x = 0 then mdv m.length m x else (0, 0)
theorem lt_apV {m : List (Nat × Nat)} (hm : ltE m) (x : Nat × Nat) : lt2 (apV m x) := by
  unfold apV; split
  · exact lt_mdv _ hm x
  · exact lt_zero
set_option maxHeartbeats 2000000 in
theorem apply_arg (a : Option Addr) (cap M : Nat) (x : Nat × Nat) (h : 128 < M) : Ret 25 #[.slice a M cap, .agg #[.int .u64 (x.1 : Int), .int .u64 (x.2 : Int)]] (.tuple #[.agg #[.int .u64 0, .int .u64 0], .int .i64 1]) := by
  intro W
  have HM := hidT (smap_no a M cap h)
  clear h
  go_enter Try.func25, Try.ntmps25
  go_wp2_with (go_at_call 44; refine (HM.out.go _).mono ?_; rintro e w1 ⟨rfl, hb1⟩; have K1 : Hid (Ew w1 (W.heap.size + 1) 0 0 ∧ Below W.heap.size W w1) := ⟨Ew.below (w := (W.alloc (Obj.cells #[.int .u64 (x.1 : Int), .int .u64 (x.2 : Int)] 25)).alloc (Obj.cells #[.int .u64 0, .int .u64 0] 25)) ⟨⟨by simp [go_sem], by simp [go_sem]⟩, by simp [go_sem], by simp [go_sem]⟩ hb1, (((Below.refl _ _).alloc (Nat.le_refl _) _).alloc (by simp) _).trans (hb1.mono (by simp; omega))⟩; clear hb1; obtain ⟨⟨r1, r0⟩, t1, t0⟩ := K1.out.1)
  refine bodyPost_ret (v := .tuple #[.agg #[.int .u64 0, .int .u64 0], .int .i64 1]) (by simp [results, Try.results25, go_sem, *]) rfl ⟨rfl, ?_⟩
  exact below2 (p := W.heap.size + 1) K1.out.2 (by omega) _ _
set_option maxHeartbeats 2000000 in
theorem apply_size (a : Option Addr) (cap M : Nat) (x : Nat × Nat) (hx : lt2 x) (h : M ≤ 128) (hl : M < lngE x) : Ret 25 #[.slice a M cap, .agg #[.int .u64 (x.1 : Int), .int .u64 (x.2 : Int)]] (.tuple #[.agg #[.int .u64 0, .int .u64 0], .int .i64 6]) := by
  intro W
  have HM := hidT (smap_yes a M cap h)
  have HL := hidT (long_any x hx.1 hx.2)
  have hL2 : (M : Int) < (lngE x : Int) := by omega
  clear h hl hx
  generalize lngE x = L at *
  go_enter Try.func25, Try.ntmps25
  go_wp2_with (first
    | (go_at_call 44; refine (HM.out.go _).mono ?_; rintro e w1 ⟨rfl, hb1⟩; have K1 : Hid (Ew w1 W.heap.size x.1 x.2 ∧ Ew w1 (W.heap.size + 1) 0 0 ∧ Below W.heap.size W w1) := ⟨Ew.below (w := (W.alloc (Obj.cells #[.int .u64 (x.1 : Int), .int .u64 (x.2 : Int)] 25)).alloc (Obj.cells #[.int .u64 0, .int .u64 0] 25)) ⟨⟨by simp [go_sem], by simp [go_sem]⟩, by simp [go_sem], by simp [go_sem]⟩ hb1, Ew.below (w := (W.alloc (Obj.cells #[.int .u64 (x.1 : Int), .int .u64 (x.2 : Int)] 25)).alloc (Obj.cells #[.int .u64 0, .int .u64 0] 25)) ⟨⟨by simp [go_sem], by simp [go_sem]⟩, by simp [go_sem], by simp [go_sem]⟩ hb1, (((Below.refl _ _).alloc (Nat.le_refl _) _).alloc (by simp) _).trans (hb1.mono (by simp; omega))⟩; clear hb1; obtain ⟨⟨x1, x0⟩, _, _⟩ := K1.out.1)
    | (go_at_call 45; refine (HL.out.go _).mono ?_; rintro e w2 ⟨rfl, hb2⟩; have K2 : Hid (Ew w2 (W.heap.size + 1) 0 0 ∧ Below W.heap.size W w2) := ⟨K1.out.2.1.below hb2, K1.out.2.2.trans (hb2.mono K1.out.2.2.size)⟩; clear hb2 x1 x0 K1; obtain ⟨⟨r1, r0⟩, t1, t0⟩ := K2.out.1))
  refine bodyPost_ret (v := .tuple #[.agg #[.int .u64 0, .int .u64 0], .int .i64 6]) (by simp [results, Try.results25, go_sem, *]) rfl ⟨rfl, ?_⟩
  exact below2 (p := W.heap.size + 1) K2.out.2 (by omega) _ _
theorem apply_all (a : Option Addr) (cap : Nat) (m : List (Nat × Nat)) (x : Nat × Nat) (hm : ltE m) (hx : lt2 x) (W : World) (hr : ERow W a m) :
    Calls Try.prog 25 #[.slice a m.length cap, .agg #[.int .u64 (x.1 : Int), .int .u64 (x.2 : Int)]] W fun e w' => e = .returned (.tuple #[.agg #[.int .u64 ((apV m x).1 : Int), .int .u64 ((apV m x).2 : Int)], .int .i64 (apE m x)]) ∧ Below W.heap.size W w' := by
  by_cases h : 128 < m.length
  · have e1 : apE m x = 1 := if_pos h
    have e2 : apV m x = (0, 0) := by unfold apV; rw [e1]; rfl
    rw [e1, e2]
    exact apply_arg a cap m.length x h W
  · by_cases h2 : m.length < lngE x
    · have e1 : apE m x = 6 := by unfold apE; rw [if_neg h, if_pos h2]
      have e2 : apV m x = (0, 0) := by unfold apV; rw [e1]; rfl
      rw [e1, e2]
      exact apply_size a cap m.length x hx (by omega) h2 W
    · have e1 : apE m x = 0 := by unfold apE; rw [if_neg h, if_neg h2]
      have e2 : apV m x = mdv m.length m x := by unfold apV; rw [e1]; rfl
      rw [e1, e2]
      exact sapply a cap m x hm hx (by omega) (by omega) _ rfl W hr
end Go.Proofs.Ytkllihomdlibgaa
