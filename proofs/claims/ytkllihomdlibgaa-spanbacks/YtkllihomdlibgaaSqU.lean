/- The contracts of span's Point and of the document's, over the seat's translation. -/
import Derived.Test.YtkllihomdlibgaaSqQ
namespace Go.Proofs.Ytkllihomdlibgaa
open Go.RowKit
open Cb Rg Sq

/-- The sum of those elements for which a number has the bit. -/
def pvN (l : List (Nat × Nat)) (n k : Nat) : Nat × Nat := xs k fun i => sl (n.testBit i) (el l i)
def pv (l : List (Nat × Nat)) (n : Int) : Nat × Nat := if n < 0 then (0, 0) else pvN l n.toNat l.length
theorem lt_pvN {l : List (Nat × Nat)} (hl : ltE l) (n k : Nat) : lt2 (pvN l n k) := lt_xs (fun i => lt_sl (ltE_el hl i)) _
theorem lt_pv {l : List (Nat × Nat)} (hl : ltE l) (n : Int) : lt2 (pv l n) := by
  unfold pv; split
  · exact lt_zero
  · exact lt_pvN hl _ _
theorem pv_sp {l : List (Nat × Nat)} (n : Int) : Sp l (pv l n) := by
  unfold pv; split
  · exact sp_zero l
  · have : ∀ k, k ≤ l.length → Sp l (pvN l n.toNat k) := fun k => by
      induction k with
      | zero => intro _; exact sp_zero l
      | succ k ih =>
        intro h
        refine sp_add l (ih (by omega)) ?_
        show Sp l (sl (n.toNat.testBit k) (el l k))
        cases n.toNat.testBit k
        · exact sp_zero l
        · exact sp_mem (el_lt h)
    exact this _ (Nat.le_refl _)
theorem shr_one (n i : Nat) (hn : n < 9223372036854775808) : bits .and .i64 ((n : Int) / 2 ^ i) 1 = if n.testBit i = true then 1 else 0 := by
  have h2 : (n : Int) / 2 ^ i = ((n / 2 ^ i : Nat) : Int) := by rw [Int.natCast_ediv, Int.natCast_pow]; rfl
  have h1 : n / 2 ^ i < 9223372036854775808 := Nat.lt_of_le_of_lt (Nat.div_le_self _ _) hn
  rw [h2, show (1 : Int) = ((1 : Nat) : Int) from rfl, cand_nat _ _ h1 (by decide), Nat.and_one_is_mod, Nat.testBit_eq_decide_div_mod_eq]
  rcases Nat.mod_two_eq_zero_or_one (n / 2 ^ i) with e | e <;> simp [e]
/-- The sum, and the result's room. -/
structure Pt4 (W w : World) (s : Nat × Nat) : Prop where
  r : Ew w W.heap.size 0 0
  s : Ew w (W.heap.size + 1) s.1 s.2
  d : Below W.heap.size W w
theorem Pt4.below {W w w' : World} {s : Nat × Nat} (h : Pt4 W w s) (hb : Below w.heap.size w w') : Pt4 W w' s := ⟨h.r.below hb, h.s.below hb, h.d.trans (hb.mono h.d.size)⟩
theorem Pt4.drew {W w : World} {s : Nat × Nat} (h : Pt4 W w s) : Pt4 W w.drew s := h.below (Below.refl _ _).drew
theorem Pt4.put {W w : World} {s : Nat × Nat} (h : Pt4 W w s) (t : Nat × Nat) : Pt4 W ((w.setCell ⟨W.heap.size + 1, 0, none⟩ (.int .u64 (t.1 : Int))).setCell ⟨W.heap.size + 1, 1, none⟩ (.int .u64 (t.2 : Int))) t :=
  ⟨h.r.other (by omega) _ _, h.s.set _ _, below2 (p := W.heap.size + 1) h.d (by omega) _ _⟩
theorem Pt4.facts {W w : World} {b o : Nat} {s y : Nat × Nat} (h : Pt4 W w s) (A : b < W.heap.size ∧ W.cell? ⟨b, o, none⟩ = some (.int .u64 (y.1 : Int)) ∧ W.cell? ⟨b, o + 1, none⟩ = some (.int .u64 (y.2 : Int))) :
    w.cell? ⟨b, o, none⟩ = some (.int .u64 (y.1 : Int)) ∧ w.cell? ⟨b, o + 1, none⟩ = some (.int .u64 (y.2 : Int)) ∧ w.cell? ⟨W.heap.size + 1, 0, none⟩ = some (.int .u64 (s.1 : Int)) ∧ w.cell? ⟨W.heap.size + 1, 1, none⟩ = some (.int .u64 (s.2 : Int)) ∧ w.frozen? ⟨W.heap.size + 1, 0, none⟩ = false ∧ w.frozen? ⟨W.heap.size + 1, 1, none⟩ = false :=
  ⟨keepc h.d A.2.1, keepc h.d A.2.2, h.s.hi, h.s.lo, h.s.fhi, h.s.flo⟩
theorem two_rooms (W : World) (T : TypeId) : Pt4 W ((W.alloc (Obj.cells #[.int .u64 0, .int .u64 0] T)).alloc (Obj.cells #[.int .u64 0, .int .u64 0] T)) (0, 0) :=
  ⟨⟨⟨by simp [go_sem], by simp [go_sem]⟩, by simp [go_sem], by simp [go_sem]⟩, ⟨⟨by simp [go_sem], by simp [go_sem]⟩, by simp [go_sem], by simp [go_sem]⟩, by go_grown⟩
set_option maxHeartbeats 4000000 in
set_option maxRecDepth 100000 in
theorem spoint_neg (a : Option Addr) (cap M : Nat) (n : Int) (h : n < 0) : Ret 20 #[.slice a M cap, .int .i64 n] (.agg #[.int .u64 0, .int .u64 0]) := by
  intro W
  have K := hidT (two_rooms W 25)
  obtain ⟨⟨r1, r0⟩, t1, t0⟩ := K.out.r
  obtain ⟨⟨s1, s0⟩, _, _⟩ := K.out.s
  go_enter Try.func20, Try.ntmps20
  go_wp2
  refine bodyPost_ret (v := .agg #[.int .u64 0, .int .u64 0]) (by simp [results, Try.results20, go_sem, *]) rfl ⟨rfl, ?_⟩
  first | exact below2 (p := W.heap.size) K.out.d (Nat.le_refl _) _ _ | exact K.out.d
set_option maxHeartbeats 8000000 in
set_option maxRecDepth 100000 in
theorem spoint_nat (a : Option Addr) (cap n : Nat) (hn : n < 9223372036854775808) (l : List (Nat × Nat)) (hl : ltE l) (h62 : l.length ≤ 62) (W : World) (hr : ERow W a l) :
    Calls Try.prog 20 #[.slice a l.length cap, .int .i64 (n : Int)] W fun e w' => e = .returned (.agg #[.int .u64 ((pvN l n l.length).1 : Int), .int .u64 ((pvN l n l.length).2 : Int)]) ∧ Below W.heap.size W w' := by
  have HR := hidT hr
  have HA : Hid (∀ j : Nat, Ret 24 #[.agg #[.int .u64 ((pvN l n j).1 : Int), .int .u64 ((pvN l n j).2 : Int)], .agg #[.int .u64 ((el l j).1 : Int), .int .u64 ((el l j).2 : Int)]] (.agg #[.int .u64 ((xa (pvN l n j) (el l j)).1 : Int), .int .u64 ((xa (pvN l n j) (el l j)).2 : Int)])) := fun j w => add_any _ _ _ _ (lt_pvN hl n j).1 (lt_pvN hl n j).2 (ltE_el hl j).1 (ltE_el hl j).2 w
  have HS : Hid (∀ j : Nat, pvN l n (j + 1) = if n.testBit j = true then xa (pvN l n j) (el l j) else pvN l n j) := fun j => by
    show xa (pvN l n j) (sl (n.testBit j) (el l j)) = _
    cases n.testBit j
    · exact xa_zero _
    · rfl
  have HB : Hid (∀ j : Nat, bits .and .i64 ((n : Int) / 2 ^ j) 1 = if n.testBit j = true then 1 else 0) := fun j => shr_one n j hn
  obtain ⟨N, hN⟩ : ∃ N, N = l.length := ⟨_, rfl⟩
  rw [← hN] at h62 ⊢
  have HNL : Hid (l.length = N) := hN.symm
  have hm : min (N : Int) 62 = (N : Int) := by omega
  have K0 : Hid (Pt4 W ((W.alloc (Obj.cells #[.int .u64 0, .int .u64 0] 25)).alloc (Obj.cells #[.int .u64 0, .int .u64 0] 25)) (pvN l n 0)) := two_rooms W 25
  clear hr hl hn hN
  go_enter Try.func20, Try.ntmps20
  go_wp2_with fail
  go_loopw [13] (fun u wr => ∃ j : Nat, j ≤ N ∧ u = .int .i64 j ∧ Hid (Pt4 W wr (pvN l n j))) (fun u _ => N - (intOf u).toNat)
  case atStart => exact ⟨0, Nat.zero_le _, rfl, K0⟩
  case round =>
    obtain ⟨j, hj, rfl, HK⟩ := hrel
    clear K0
    by_cases hlt : j < N
    · obtain ⟨b, off, rfl, hb, c1, c0⟩ := HR.out.cells j (by rw [HNL.out]; exact hlt)
      have HAc : Hid (b < W.heap.size ∧ W.cell? ⟨b, off + j * 2, none⟩ = some (.int .u64 ((el l j).1 : Int)) ∧ W.cell? ⟨b, off + j * 2 + 1, none⟩ = some (.int .u64 ((el l j).2 : Int))) := ⟨hb, c1, c0⟩
      have H2 := hidT (HA.out j)
      have H3 := hidT (HS.out j)
      have fb := HB.out j
      have j1 : (j : Int) < (N : Int) := by omega
      have j0 : (0 : Int) ≤ (j : Int) := by omega
      have j64 : (j : Int) < 64 := by omega
      clear hb c1 c0 HR HA HS HB
      generalize xa (pvN l n j) (el l j) = z at *
      generalize pvN l n j = s at *
      generalize el l j = y at *
      cases hB : n.testBit j
      · rw [hB] at fb
        simp only [Bool.false_eq_true, if_false] at fb
        have hs' : Hid (pvN l n (j + 1) = s) := by show _ = _; rw [H3.out, hB]; rfl
        clear H3 H2 hB
        go_wp2_with fail
        exact ⟨⟨j + 1, hlt, by simp, by rw [hs'.out]; exact HK⟩, by simp [intOf]; omega⟩
      · rw [hB] at fb
        simp only [if_true] at fb
        have hs' : Hid (pvN l n (j + 1) = z) := by show _ = _; rw [H3.out, hB]; rfl
        clear H3 hB
        have K := HK.out
        go_upto_region 8 with fail
        clear HK
        obtain ⟨y1, y0, s1, s0, t1, t0⟩ := K.facts HAc.out
        go_region_with (go_at_call 24; refine (H2.out.go _).mono ?_; rintro e w' ⟨rfl, hb'⟩; have K'' := Pt4.below (w' := w') (by first | exact K | exact K.drew) hb'; clear y1 y0 s1 s0 t1 t0 K hb'; have K := K''; clear K''; (try simp only [World.size_drew] at K); obtain ⟨y1, y0, s1, s0, t1, t0⟩ := K.facts HAc.out)
        all_goals
          go_wp2
          exact ⟨⟨j + 1, hlt, by simp, by rw [hs'.out]; exact K.put _⟩, by simp [intOf]; omega⟩
    · obtain rfl : j = N := by omega
      have HD := hidT HK.out.d
      obtain ⟨⟨s1, s0⟩, _, _⟩ := HK.out.s
      obtain ⟨⟨r1, r0⟩, t1, t0⟩ := HK.out.r
      obtain ⟨s, hs⟩ : ∃ s, s = pvN l n j := ⟨_, rfl⟩
      have HSS : Hid (s = pvN l n j) := hs
      rw [← hs] at s1 s0
      clear HK HR HS HA hs HB
      go_wp2
      refine bodyPost_ret (v := .agg #[.int .u64 (s.1 : Int), .int .u64 (s.2 : Int)]) (by simp [results, Try.results20, go_sem, *]) rfl ⟨by rw [HSS.out], ?_⟩
      exact below2 (p := W.heap.size) HD.out (Nat.le_refl _) _ _
theorem spoint_all (a : Option Addr) (cap : Nat) (n : Int) (hn : n < 9223372036854775808) (l : List (Nat × Nat)) (hl : ltE l) (h62 : l.length ≤ 62) (W : World) (hr : ERow W a l) :
    Calls Try.prog 20 #[.slice a l.length cap, .int .i64 n] W fun e w' => e = .returned (.agg #[.int .u64 ((pv l n).1 : Int), .int .u64 ((pv l n).2 : Int)]) ∧ Below W.heap.size W w' := by
  unfold pv
  by_cases h : n < 0
  · rw [if_pos h]
    exact spoint_neg a cap _ n h W
  · rw [if_neg h]
    obtain ⟨m, rfl⟩ : ∃ m : Nat, n = (m : Int) := ⟨n.toNat, by omega⟩
    rw [Int.toNat_natCast]
    exact spoint_nat a cap m (by omega) l hl h62 W hr
end Go.Proofs.Ytkllihomdlibgaa
