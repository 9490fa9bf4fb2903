/- The contract of span.Point, over the seat's translation. -/
import Derived.Test.YtjdfbjdbfncofaaLpQ
namespace Go.Proofs.Ytjdfbjdbfncofaa
open Go.RowKit

set_option maxHeartbeats 4000000 in
set_option maxRecDepth 100000 in
theorem point_core (j g n : Nat) (es : List (Nat × Nat)) (sv : Nat → Nat × Nat) (b : Nat → Bool) (W : World) (hr : ERow W (some ⟨g, 0, none⟩) es) (hn : es.length = n) (h10 : n ≤ 10)
    (S0 : sv 0 = (0, 0)) (BI : Hid (∀ m : Nat, m < n → bits .and .i64 ((j : Int) / 2 ^ m) 1 = if b m = true then 1 else 0))
    (AD : Hid (∀ m : Nat, m < n → b m = true → Ret 23 #[.agg #[.int .u64 ((sv m).1 : Int), .int .u64 ((sv m).2 : Int)], .agg #[.int .u64 ((es.getD m (0, 0)).1 : Int), .int .u64 ((es.getD m (0, 0)).2 : Int)]] (.agg #[.int .u64 ((sv (m + 1)).1 : Int), .int .u64 ((sv (m + 1)).2 : Int)])))
    (SK : Hid (∀ m : Nat, m < n → b m = false → sv (m + 1) = sv m)) :
    Calls Try.prog 49 #[.slice (some ⟨g, 0, none⟩) n n, .int .i64 (j : Int)] W fun e w' => e = .returned (.agg #[.int .u64 ((sv n).1 : Int), .int .u64 ((sv n).2 : Int)]) ∧ Below W.heap.size W w' := by
  have HR : Hid (ERow W (some ⟨g, 0, none⟩) es) := hr
  clear hr
  have hm : min (n : Int) 62 = (n : Int) := by omega
  go_enter Try.func49, Try.ntmps49
  go_wp2_with fail
  go_loopw [13] (fun u wr => ∃ m : Nat, m ≤ n ∧ u = .int .i64 m ∧ Ew wr (W.heap.size + 1) (sv m).1 (sv m).2 ∧ Ew wr W.heap.size 0 0 ∧ Below W.heap.size W wr) (fun u _ => n - (intOf u).toNat)
  case atStart => exact ⟨0, Nat.zero_le _, rfl, by rw [S0]; exact ⟨⟨by simp [go_sem], by simp [go_sem]⟩, by simp [go_sem], by simp [go_sem]⟩, ⟨⟨by simp [go_sem], by simp [go_sem]⟩, by simp [go_sem], by simp [go_sem]⟩, by go_grown⟩
  case round =>
    obtain ⟨m, hmn, rfl, hS, hO, hD⟩ := hrel
    have HS : Hid (Ew wr (W.heap.size + 1) (sv m).1 (sv m).2) := hS
    have HO : Hid (Ew wr W.heap.size 0 0) := hO
    have HD : Hid (Below W.heap.size W wr) := hD
    clear hS hO hD
    by_cases hlt : m < n
    · have hs : (m : Int) < 64 := by omega
      rcases hbm : b m with _ | _
      · have fb : bits .and .i64 ((j : Int) / 2 ^ m) 1 = 0 := by have := BI.out m hlt; rw [hbm] at this; exact this
        have hE := SK.out m hlt hbm
        clear BI AD SK HR
        go_wp2
        exact ⟨⟨m + 1, hlt, by simp, by rw [hE]; exact HS.out, HO.out, HD.out⟩, by simp [intOf]; omega⟩
      have fb : bits .and .i64 ((j : Int) / 2 ^ m) 1 = 1 := by have := BI.out m hlt; rw [hbm] at this; exact this
      have HA := AD.out m hlt hbm
      obtain ⟨g', off, e, hb, d1, d0⟩ := HR.out.cells m (by omega)
      injection e with e
      injection e with e1 e2
      subst e1 e2
      have b1 : wr.cell? ⟨g, 0 + m * 2, none⟩ = some (.int .u64 ((es.getD m (0, 0)).1 : Nat)) := by rw [HD.out.cell (p := ⟨g, 0 + m * 2, none⟩) hb]; exact d1
      have b0 : wr.cell? ⟨g, 0 + m * 2 + 1, none⟩ = some (.int .u64 ((es.getD m (0, 0)).2 : Nat)) := by rw [HD.out.cell (p := ⟨g, 0 + m * 2 + 1, none⟩) hb]; exact d0
      rw [Nat.zero_add] at b1 b0
      have s1 := HS.out.hi
      have s0 := HS.out.lo
      clear d1 d0 BI AD SK HR
      generalize es.getD m (0, 0) = x at *
      go_upto_region 8 with fail
      refine wp_region_noPanic ?_
      refine wp_region_peel (S := fun w => w.cell? ⟨W.heap.size + 1, 0, none⟩ = some (.int .u64 ((sv m).1 : Nat)) ∧ w.cell? ⟨W.heap.size + 1, 1, none⟩ = some (.int .u64 ((sv m).2 : Nat)) ∧ w.cell? ⟨g, m * 2, none⟩ = some (.int .u64 (x.1 : Nat)) ∧ w.cell? ⟨g, m * 2 + 1, none⟩ = some (.int .u64 (x.2 : Nat))) 6 (by kernel_rfl) rfl (by kernel_rfl) ?_ (fun hHeld => ?_)
      · exact ⟨s1, s0, b1, b0⟩
      refine wpAnyH_take (i := 0) (oi := _) (v := ?_) rfl (by kernel_rfl) (by kernel_rfl) (by kernel_rfl) (fun _ _ _ h => h) (Or.inl ⟨by rfl, ?_⟩) (by assumption) ?_
      rotate_left
      · ((intro w hSw; (try dsimp only at hSw); go_simp) <;> (try with_reducible rfl))
      try simp only [Act.put]
      refine wpAnyH_take (i := 1) (oi := _) (v := ?_) rfl (by kernel_rfl) (by kernel_rfl) (by kernel_rfl) (fun _ _ _ h => h) (Or.inl ⟨by rfl, ?_⟩) (by assumption) ?_
      rotate_left
      · ((intro w hSw; (try dsimp only at hSw); go_simp) <;> (try with_reducible rfl))
      try simp only [Act.put]
      refine wpAnyH_take (i := 2) (oi := _) (v := ?_) rfl (by kernel_rfl) (by kernel_rfl) (by kernel_rfl) (fun _ _ _ h => h) (Or.inl ⟨by rfl, ?_⟩) (by assumption) ?_
      rotate_left
      · ((intro w hSw; (try dsimp only at hSw); go_simp) <;> (try with_reducible rfl))
      try simp only [Act.put]
      refine wpAnyH_take (i := 3) (oi := _) (v := ?_) rfl (by kernel_rfl) (by kernel_rfl) (by kernel_rfl) (fun _ _ _ h => h) (Or.inl ⟨by rfl, ?_⟩) (by assumption) ?_
      rotate_left
      · ((intro w hSw; (try dsimp only at hSw); go_simp) <;> (try with_reducible rfl))
      try simp only [Act.put]
      refine wpAnyH_take (i := 4) (oi := _) (v := ?_) rfl (by kernel_rfl) (by kernel_rfl) (by kernel_rfl) (fun _ _ _ h => h) (Or.inl ⟨by rfl, ?_⟩) (by assumption) ?_
      rotate_left
      · ((intro w hSw; (try dsimp only at hSw); go_simp) <;> (try with_reducible rfl))
      try simp only [Act.put]
      refine wpAnyH_ready (rs := [5]) (by kernel_rfl) (by simp) ?_
      refine AllReadyH.cons (o := _) rfl (fun KK hKK => ?_) AllReadyH.nil
      go_simp
      (go_at_call 23; refine (HA.go _).mono ?_; rintro e w6 ⟨rfl, hb6⟩)
      have hb6' : Below wr.heap.size wr w6 := (Below.refl _ _).drew.trans hb6
      have S6 : Hid (Ew w6 (W.heap.size + 1) (sv m).1 (sv m).2) := HS.out.below hb6'
      have O6 : Hid (Ew w6 W.heap.size 0 0) := HO.out.below hb6'
      have D6 : Hid (Below W.heap.size W w6) := HD.out.trans (hb6'.mono HD.out.size)
      refine hKK.out _ _ ?_ (fun hHeld => ?_)
      · exact ⟨S6.out.hi, S6.out.lo, keepc hb6' b1, keepc hb6' b0⟩
      clear hKK KK
      try simp only [Act.put]
      refine wpAnyH_done (by kernel_rfl) ?_ _
      refine peel_last rfl (fun KK hKK => ?_)
      clear hHeld b1 b0 s1 s0 hb6 hb6' HS HO HD
      have s1 := S6.out.hi
      have s0 := S6.out.lo
      have f1 := S6.out.fhi
      have f0 := S6.out.flo
      go_simp
      refine hKK _ _ ?_
      refine NoPanic.normal ?_
      clear hKK KK
      have S7 : Hid (Ew ((w6.setCell ⟨W.heap.size + 1, 0, none⟩ (.int .u64 ((sv (m + 1)).1 : Int))).setCell ⟨W.heap.size + 1, 1, none⟩ (.int .u64 ((sv (m + 1)).2 : Int))) (W.heap.size + 1) (sv (m + 1)).1 (sv (m + 1)).2) := S6.out.set _ _
      have O7 : Hid (Ew ((w6.setCell ⟨W.heap.size + 1, 0, none⟩ (.int .u64 ((sv (m + 1)).1 : Int))).setCell ⟨W.heap.size + 1, 1, none⟩ (.int .u64 ((sv (m + 1)).2 : Int))) W.heap.size 0 0) := O6.out.other (by omega) _ _
      have D7 : Hid (Below W.heap.size W ((w6.setCell ⟨W.heap.size + 1, 0, none⟩ (.int .u64 ((sv (m + 1)).1 : Int))).setCell ⟨W.heap.size + 1, 1, none⟩ (.int .u64 ((sv (m + 1)).2 : Int)))) := (D6.out.setCell (by show W.heap.size ≤ W.heap.size + 1; omega) _).setCell (by show W.heap.size ≤ W.heap.size + 1; omega) _
      clear S6 O6 D6 s1 s0 f1 f0
      generalize (w6.setCell ⟨W.heap.size + 1, 0, none⟩ (.int .u64 ((sv (m + 1)).1 : Int))).setCell ⟨W.heap.size + 1, 1, none⟩ (.int .u64 ((sv (m + 1)).2 : Int)) = w7 at *
      go_wp2
      exact ⟨⟨m + 1, hlt, by simp, S7.out, O7.out, D7.out⟩, by simp [intOf]; omega⟩
    · obtain rfl : m = n := by omega
      have s1 := HS.out.hi
      have s0 := HS.out.lo
      have o1 := HO.out.hi
      have o0 := HO.out.lo
      have f1 := HO.out.fhi
      have f0 := HO.out.flo
      clear BI AD SK HR
      go_wp2
      refine bodyPost_ret (v := .agg #[.int .u64 ((sv m).1 : Int), .int .u64 ((sv m).2 : Int)]) (by simp [results, Try.results49, go_sem, *]) rfl ⟨rfl, ?_⟩
      exact (HD.out.setCell (Nat.le_refl _) _).setCell (Nat.le_refl _) _
theorem bit_int (n j : Nat) (hn : n < 2 ^ 10) : bits .and .i64 ((n : Int) / 2 ^ j) 1 = ((n / 2 ^ j % 2 : Nat) : Int) := by
  have h1 : n / 2 ^ j < 2 ^ 10 := Nat.lt_of_le_of_lt (Nat.div_le_self _ _) hn
  have h2 : (n : Int) / 2 ^ j = ((n / 2 ^ j : Nat) : Int) := by rw [Int.natCast_ediv, Int.natCast_pow]; rfl
  rw [h2]
  have H : ∀ m : Nat, m < 2 ^ 10 → bits .and .i64 (m : Int) 1 = ((m % 2 : Nat) : Int) := by decide +kernel
  exact H _ h1
/-- The sum of those of the first m elements for which j has the bit. -/
def ptv (es : List (Nat × Nat)) (j : Nat) : Nat → Nat × Nat
  | 0 => (0, 0)
  | m + 1 => if (j / 2 ^ m % 2 == 1) = true then ((ptv es j m).1 ^^^ (es.getD m (0, 0)).1, (ptv es j m).2 ^^^ (es.getD m (0, 0)).2) else ptv es j m
theorem ptv_lt {es : List (Nat × Nat)} (h : ltE es) (j : Nat) : ∀ m, (ptv es j m).1 < 2 ^ 64 ∧ (ptv es j m).2 < 2 ^ 64
  | 0 => ⟨Nat.two_pow_pos 64, Nat.two_pow_pos 64⟩
  | m + 1 => by
    have i := ptv_lt h j m
    unfold ptv
    split
    · exact ⟨Nat.xor_lt_two_pow i.1 (h.at m).1, Nat.xor_lt_two_pow i.2 (h.at m).2⟩
    · exact i
theorem point_any (j g n : Nat) (es : List (Nat × Nat)) (W : World) (hr : ERow W (some ⟨g, 0, none⟩) es) (hn : es.length = n) (h10 : n ≤ 10) (hj : j < 2 ^ 10) (ht : ltE es) :
    Calls Try.prog 49 #[.slice (some ⟨g, 0, none⟩) n n, .int .i64 (j : Int)] W fun e w' => e = .returned (.agg #[.int .u64 ((ptv es j n).1 : Int), .int .u64 ((ptv es j n).2 : Int)]) ∧ Below W.heap.size W w' := by
  refine point_core j g n es (ptv es j) (fun m => j / 2 ^ m % 2 == 1) W hr hn h10 rfl (fun m _ => ?_) (fun m _ hb W => ?_) (fun m _ hb => ?_)
  · rw [bit_int j m hj]
    by_cases h : j / 2 ^ m % 2 = 1
    · simp [h]
    · have h0 : j / 2 ^ m % 2 = 0 := by omega
      simp [h0]
  · rw [show ptv es j (m + 1) = ((ptv es j m).1 ^^^ (es.getD m (0, 0)).1, (ptv es j m).2 ^^^ (es.getD m (0, 0)).2) from if_pos hb]
    exact add_any _ _ _ _ (ptv_lt ht j m).1 (ptv_lt ht j m).2 (ht.at m).1 (ht.at m).2 W
  · exact if_neg (by rw [hb]; decide)
theorem two_bit (i m : Nat) : 2 ^ i / 2 ^ m % 2 = if m = i then 1 else 0 := by
  have := Nat.testBit_two_pow (n := i) (m := m)
  rw [Nat.testBit_eq_decide_div_mod_eq] at this
  by_cases h : m = i
  · subst h; rw [if_pos rfl, Nat.div_self (Nat.two_pow_pos _)]
  · rw [if_neg h]
    have h2 : ¬ 2 ^ i / 2 ^ m % 2 = 1 := fun h3 => by rw [h3] at this; simp at this; exact h this.symm
    omega
/-- At a power of 2 it is that element. -/
theorem ptv_two (n i : Nat) : ∀ m, m ≤ n → ptv (bitsE n) (2 ^ i) m = if i < m then (0, 2 ^ i) else (0, 0)
  | 0, _ => rfl
  | m + 1, h => by
    have I := ptv_two n i m (by omega)
    unfold ptv
    rw [two_bit, I, bitsE_at n m (by omega)]
    by_cases e : m = i
    · subst e; simp
    · by_cases h2 : i < m
      · simp [e, h2, show i < m + 1 by omega]
      · simp [e, h2, show ¬ i < m + 1 by omega]
end Go.Proofs.Ytjdfbjdbfncofaa
