/- Contracts of slices.Clone, cube.first, last, At, First and Last over the seat's translation. -/
import Derived.Test.YtejoombhcnldmaaCbC
namespace Go.Proofs.Ytejoombhcnldmaa
open Go.RowKit
open Cb
open Tw (pm)

theorem cflat_ones (es : List (Nat × Nat)) : ∀ u ∈ flat es, u.oneCell' = true := by
  intro u hu
  unfold flat at hu
  obtain ⟨e, _, he⟩ := List.mem_flatMap.1 hu
  simp at he
  rcases he with rfl | rfl <;> rfl
theorem ERow.cflatOn {w : World} {b off : Nat} {es : List (Nat × Nat)} (h : ERow w (some ⟨b, off, none⟩) es) (j : Nat) (u : Value) (hu : (flat es)[j]? = some u) : w.cell? ((⟨b, off, none⟩ : Addr).add j) = some u := by
  have hj : j < es.length * 2 := by
    rw [← flat_len]
    obtain ⟨h1, _⟩ := List.getElem?_eq_some_iff.1 hu
    exact h1
  have ha : (⟨b, off, none⟩ : Addr).add j = ⟨b, off + j, none⟩ := by unfold Addr.add; split <;> simp_all
  rw [ha]
  have hi : j / 2 < es.length := by omega
  obtain ⟨b2, off2, e, _, c1, c0⟩ := h.cells (j / 2) hi
  have hf := flat_at es (j / 2) hi
  simp only [Option.some.injEq, Addr.mk.injEq] at e
  obtain ⟨rfl, rfl, _⟩ := e
  rcases Nat.mod_two_eq_zero_or_one j with h2 | h2
  · have e2 : j / 2 * 2 = j := by omega
    rw [e2] at c1 hf
    rw [hf.1] at hu
    rw [c1]; exact hu
  · have e2 : j / 2 * 2 + 1 = j := by omega
    rw [Nat.add_assoc, e2] at c0
    rw [e2] at hf
    rw [hf.2] at hu
    rw [c0]; exact hu
/-- A row of one's own, as elements. -/
theorem cown_elems {w : World} {base : Nat} {T : TypeId} {v : Value} {es : List (Nat × Nat)} (h : w.ownsRow base T 2 v es.length (flat es)) :
    ∃ a b cap, v = .slice a es.length cap ∧ (es.length = 0 ∨ a = some ⟨b, 0, none⟩) ∧ es.length ≤ cap ∧ ERow w a es := by
  obtain ⟨a', cap', e, hE⟩ := own_row h
  rcases h.2 with ⟨h1, h0⟩ | ⟨g, cap, cur, e2, _, _, hn, _⟩
  · refine ⟨a', 0, cap', e, .inl h0, by omega, hE⟩
  · rw [e2] at e
    injection e with e3 e4 e5
    subst e3 e5
    exact ⟨_, g, cap, e2, .inr rfl, hn, hE⟩
set_option maxHeartbeats 1000000 in
set_option maxRecDepth 100000 in
/-- A copy of elements. -/
theorem ccloned (a : Option Addr) (cap : Nat) (es : List (Nat × Nat)) (h10 : es.length ≤ 100000) (ha : a = none → es.length = 0 ∧ cap = 0) (W : World) (hr : ERow W a es) :
    Calls Try.prog 79 #[.slice a es.length cap] W fun e w' => ∃ a' b' cap', e = .returned (.slice a' es.length cap') ∧ (es.length = 0 ∨ a' = some ⟨b', 0, none⟩) ∧ es.length ≤ cap' ∧ ERow w' a' es ∧ Below W.heap.size W w' := by
  rcases a with _ | x
  · obtain ⟨h1, h2⟩ := ha rfl
    obtain rfl : es = [] := List.eq_nil_of_length_eq_zero h1
    subst h2
    clear hr ha
    have he : ∀ w, (binOp .eql 23 (.slice none 0 0) (.slice none 0 0)).run Try.prog w = .ok (.bool true) w := fun w => Go.Lib.run_eql_slice_nil w 23 26 _ _ _ _ _ Try.underlying23
    go_enter Try.func79, Try.ntmps79
    go_wp2
    go_ret
    exact ⟨none, 0, 0, rfl, .inl (by first | rfl | trivial), Nat.zero_le _, ⟨fun i hi => by simp at hi⟩, Below.refl _ _⟩
  · obtain ⟨i0, hi, hz0, hz1, hz2⟩ := info_elem
    have HI : Hid (Try.prog.info? 26 = some i0 ∧ i0.zero = some (.agg #[.int .u64 0, .int .u64 0]) ∧ i0.size = 2 ∧ i0.bytes = 16) := ⟨hi, hz0, hz1, hz2⟩
    have HR : Hid (∀ w, Below W.heap.size W w → ∀ p u, (flat es)[p]? = some u → w.cell? (x.add p) = some u) := by
      intro w hb p u hu
      rcases Nat.eq_zero_or_pos es.length with h | h
      · rw [List.eq_nil_of_length_eq_zero h] at hu; simp [flat] at hu
      · obtain ⟨b, off, e, _⟩ := hr.cells 0 h
        injection e with e
        subst e
        exact (hr.below hb).cflatOn p u hu
    clear hi hz0 hz1 hz2 hr ha
    have he : ∀ w, (binOp .eql 23 (.slice (some x) es.length cap) (.slice none 0 0)).run Try.prog w = .ok (.bool false) w := fun w => Go.Lib.run_eql_slice_nil w 23 26 _ _ _ _ _ Try.underlying23
    go_enter Try.func79, Try.ntmps79
    go_wp2_with (at_builtin; refine wpList_append_own _ rfl _ _ 23 rfl W.heap.size 26 i0 (.agg #[.int .u64 0, .int .u64 0]) 2 16 Try.underlying23 HI.out.1 HI.out.2.1 HI.out.2.2.1 HI.out.2.2.2 rfl (by decide) _ 0 [] rfl (World.ownsRow_made W #[] 0 (Nat.le_refl _) (by decide) rfl) x es.length cap (flat es) rfl (flat_len es) (fun p u hu => HR.out _ ((Below.refl _ _).alloc (Nat.le_refl _) _) p u hu) (cflat_ones es) (by simp only [maxLen]; omega) (by omega) (by simp) ?_; intro v' w' hown' hgr _)
    rw [Nat.zero_add, List.nil_append] at hown'
    obtain ⟨a', b', cap', rfl, h1, h2, hE⟩ := cown_elems hown'
    have HD : Hid (Below W.heap.size W w') := ((Below.refl _ _).alloc (Nat.le_refl _) _).grown hgr (by simp) fun k hk => ((World.ownsRow_made (e := 26) (size := 2) (base := W.heap.size) W #[] 0 (Nat.le_refl _) (by decide) rfl).lt k hk).1
    have HE : Hid (ERow w' a' es ∧ (es.length = 0 ∨ a' = some ⟨b', 0, none⟩) ∧ es.length ≤ cap') := ⟨hE, h1, h2⟩
    clear hE hown' hgr h1 h2
    go_wp2
    go_ret
    exact ⟨a', b', cap', rfl, HE.out.2.1, HE.out.2.2, HE.out.1, HD.out⟩

theorem row_some {w : World} {a : Option Addr} {es : List (Nat × Nat)} (h : ERow w a es) (hl : 0 < es.length) (cap : Nat) : a = none → es.length = 0 ∧ cap = 0 := by
  rintro rfl
  obtain ⟨b, off, e, _⟩ := h.cells 0 hl
  cases e
theorem lasts_app (t p q : List (Nat × Nat)) : lasts t (p ++ q) = lasts (lasts t p) q := by unfold lasts; rw [List.foldl_append]
theorem lasts_one (t : List (Nat × Nat)) (r : Nat × Nat) : lasts t [r] = lst1 t r := by simp only [lasts, List.foldl_cons, List.foldl_nil]
theorem pow_half (n : Nat) : 2 ^ (n + 1) / 2 = 2 ^ n := by rw [Nat.pow_succ]; omega
set_option maxHeartbeats 4000000 in
set_option maxRecDepth 100000 in
theorem first_ok (k : Nat) (hk : k < 8) (a c : Option Addr) (cap cap2 m : Nat) (t p : List (Nat × Nat)) (hl : t.length = 2 ^ (p.length + m)) (h10 : t.length ≤ 1000) (ht : ltE t) (hp : ltE p) (ot : ofT k t) (op : ofT k p) (W : World) (ha : ERow W a t) (hc : ERow W c p) :
    Calls Try.prog 57 #[.int .i64 (k : Int), .slice a t.length cap, .slice c p.length cap2] W fun e w' => ∃ a' cap', e = .returned (.slice a' (2 ^ m) cap') ∧ ERow w' a' (firsts t p) ∧ Below W.heap.size W w' := by
  have hpos : 0 < t.length := by rw [hl]; exact Nat.two_pow_pos _
  have HC : Hid (Calls Try.prog 79 #[.slice a t.length cap] W fun e w' => ∃ a' b' cap', e = .returned (.slice a' t.length cap') ∧ (t.length = 0 ∨ a' = some ⟨b', 0, none⟩) ∧ t.length ≤ cap' ∧ ERow w' a' t ∧ Below W.heap.size W w') := ccloned a cap t (by omega) (row_some ha hpos cap) W ha
  have hp10 : p.length ≤ 10 := by
    rcases Nat.lt_or_ge 10 p.length with h | h
    · have : 2 ^ 11 ≤ 2 ^ (p.length + m) := Nat.pow_le_pow_right (by decide) (by omega)
      omega
    · exact h
  have HP : Hid (ERow W c p) := hc
  have HL : Hid (t.length = 2 ^ (p.length + m) ∧ t.length ≤ 1000) := ⟨hl, h10⟩
  have HT : Hid (ltE t ∧ ltE p ∧ ofT k t ∧ ofT k p) := ⟨ht, hp, ot, op⟩
  clear ha hc hl ht hp ot op h10 hpos
  go_enter Try.func57, Try.ntmps57
  go_wp2_with fail
  refine HC.out.mono ?_
  rintro e w1 ⟨a1, b1, cap1, rfl, hA1, hc1, hE1, hb1⟩
  clear HC hA1 hc1
  go_wp2_with fail
  go_loopw [7, 14] (fun v u wr => ∃ (j n : Nat) (a' : Option Addr) (cap' : Nat) (s : List (Nat × Nat)), j ≤ p.length ∧ u = .int .i64 j ∧ v = .slice a' s.length cap' ∧ Hid (s = firsts t (p.take j) ∧ n = p.length - j + m ∧ s.length = 2 ^ n) ∧ ERow wr a' s ∧ Below W.heap.size W wr) (fun _ u _ => p.length - (intOf u).toNat)
  case atStart => exact ⟨0, p.length + m, a1, cap1, t, Nat.zero_le _, rfl, rfl, ⟨rfl, by omega, HL.out.1⟩, hE1, hb1⟩
  case round =>
    obtain ⟨j, n, a', cap', s, hj, rfl, rfl, HS, hE, hD⟩ := hrel
    have HD : Hid (Below W.heap.size W wr) := hD
    have HE : Hid (ERow wr a' s) := hE
    clear hE hE1 hb1
    by_cases hlt : j < p.length
    · obtain ⟨b, off, rfl, hb, c1, c0⟩ := HP.out.cells j hlt
      have d1 := keepc hD c1
      have d0 := keepc hD c0
      have HK : Hid (p.take (j + 1) = p.take j ++ [p.getD j (0, 0)]) := take_sn p j hlt
      have hx : lt2 (p.getD j (0, 0)) := HT.out.2.1.at j
      have ox : ofE k (p.getD j (0, 0)) := HT.out.2.2.2.el hk j
      obtain ⟨n', hn'⟩ : ∃ n', n = n' + 1 := ⟨n - 1, by have := HS.out.2.1; omega⟩
      have h2 : s.length / 2 = 2 ^ n' := by rw [HS.out.2.2, hn', pow_half]
      have h4 : s.length = 2 * 2 ^ n' := by rw [HS.out.2.2, hn', Nat.pow_succ]; omega
      have hs10 : s.length ≤ 1000 := by
        have e1 : s.length ≤ t.length := by rw [HS.out.2.2, HL.out.1]; exact Nat.pow_le_pow_right (by decide) (by have := HS.out.2.1; omega)
        have := HL.out.2
        omega
      have lts : ltE s := by rw [HS.out.1]; exact lt_firsts _ _ HT.out.1
      have ots : ofT k s := by rw [HS.out.1]; exact of_firsts hk _ _ HT.out.2.2.1 fun e he => HT.out.2.2.2 e (List.mem_of_mem_take he)
      clear hD c1 c0
      generalize p.getD j (0, 0) = x at *
      have HH : Hid (∀ w, Below wr.heap.size wr w → Calls Try.prog 80 #[.int .i64 (k : Int), .slice a' s.length cap', .int .i64 (2 : Nat), .int .i64 (1 : Nat), .agg #[.int .u64 (x.1 : Int), .int .u64 (x.2 : Int)]] w fun e w' => ∃ g, e = .returned (.slice (some ⟨g, 0, none⟩) (2 ^ n') (2 ^ n')) ∧ ERow w' (some ⟨g, 0, none⟩) (half 2 1 s x) ∧ Below w.heap.size w w') := fun w hw => halved_ok k hk 2 1 (2 ^ n') a' cap' s x h2 hs10 (by omega) (by omega) (fun i hi => by omega) lts hx ots ox w (HE.out.below hw)
      have HG : Hid (half 2 1 s x = firsts t (p.take (j + 1)) ∧ n' = p.length - (j + 1) + m ∧ (half 2 1 s x).length = 2 ^ n') := ⟨by rw [HK.out, firsts_app, firsts_one, ← HS.out.1]; rfl, by have := HS.out.2.1; omega, by rw [half_len, h2]⟩
      clear HS lts ots h4 HT HK HP HL
      go_wp2_with (go_at_call 80; refine (HH.out _ (by go_grown)).mono ?_; rintro e w3 ⟨g, rfl, hE3, hb3⟩)
      refine ⟨⟨j + 1, n', some ⟨g, 0, none⟩, 2 ^ n', half 2 1 s x, hlt, by simp, ?_, HG.out, hE3, ?_⟩, by simp [intOf]; omega⟩
      · rw [HG.out.2.2]
      · exact (HD.out.alloc HD.out.size _).trans (hb3.mono (by have := HD.out.size; simp; omega))
    · obtain rfl : j = p.length := by omega
      have e0 : s = firsts t p := by have := HS.out.1; rwa [List.take_of_length_le (Nat.le_refl _)] at this
      have e1 : s.length = 2 ^ m := by rw [HS.out.2.2, HS.out.2.1]; congr 1; omega
      rw [e1]
      subst e0
      clear hD HS HT HL HP
      go_wp2
      go_ret
      exact ⟨a', cap', rfl, HE.out, HD.out⟩
end Go.Proofs.Ytejoombhcnldmaa
