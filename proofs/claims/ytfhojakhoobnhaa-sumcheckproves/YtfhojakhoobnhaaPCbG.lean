/- Contracts of slices.Clone, cube.first, last, At, First and Last over the seat's translation. -/
import Derived.Test.YtfhojakhoobnhaaCbC
import Derived.Test.YtfhojakhoobnhaaPRfF
namespace Go.Proofs.Ytfhojakhoobnhaa
open Go.RowKit
open Cb
open Tw (pm)

theorem cflat_ones (es : List (Nat × Nat)) : ∀ u ∈ flat es, u.oneCell' = true := by
  intro u hu
  unfold flat at hu
  obtain ⟨e, _, he⟩ := List.mem_flatMap.1 hu
  simp at he
  rcases he with rfl | rfl <;> rfl
theorem ERow.cflatOn {w : World} {b off : Nat} {es : List (Nat × Nat)} (h : ERow w (some ⟨b, off, none⟩) es) (j : Nat) (u : Value) (hu : (flat es)[j]? = some u) : w.cell? ((⟨b, off, none⟩ : Addr).add j) = some u := by
  have hj : j < es.length * 2 := by
    rw [← flat_len]
    obtain ⟨h1, _⟩ := List.getElem?_eq_some_iff.1 hu
    exact h1
  have ha : (⟨b, off, none⟩ : Addr).add j = ⟨b, off + j, none⟩ := by unfold Addr.add; split <;> simp_all
  rw [ha]
  have hi : j / 2 < es.length := by omega
  obtain ⟨b2, off2, e, _, c1, c0⟩ := h.cells (j / 2) hi
  have hf := flat_at es (j / 2) hi
  simp only [Option.some.injEq, Addr.mk.injEq] at e
  obtain ⟨rfl, rfl, _⟩ := e
  rcases Nat.mod_two_eq_zero_or_one j with h2 | h2
  · have e2 : j / 2 * 2 = j := by omega
    rw [e2] at c1 hf
    rw [hf.1] at hu
    rw [c1]; exact hu
  · have e2 : j / 2 * 2 + 1 = j := by omega
    rw [Nat.add_assoc, e2] at c0
    rw [e2] at hf
    rw [hf.2] at hu
    rw [c0]; exact hu
/-- A row of one's own, as elements. -/
theorem cown_elems {w : World} {base : Nat} {T : TypeId} {v : Value} {es : List (Nat × Nat)} (h : w.ownsRow base T 2 v es.length (flat es)) :
    ∃ a b cap, v = .slice a es.length cap ∧ (es.length = 0 ∨ a = some ⟨b, 0, none⟩) ∧ es.length ≤ cap ∧ ERow w a es := by
  obtain ⟨a', cap', e, hE⟩ := own_row h
  rcases h.2 with ⟨h1, h0⟩ | ⟨g, cap, cur, e2, _, _, hn, _⟩
  · refine ⟨a', 0, cap', e, .inl h0, by omega, hE⟩
  · rw [e2] at e
    injection e with e3 e4 e5
    subst e3 e5
    exact ⟨_, g, cap, e2, .inr rfl, hn, hE⟩
set_option maxHeartbeats 1000000 in
set_option maxRecDepth 100000 in
/-- A copy of elements. -/
theorem ccloned (a : Option Addr) (cap : Nat) (es : List (Nat × Nat)) (h10 : es.length ≤ 100000) (ha : a = none → es.length = 0 ∧ cap = 0) (W : World) (hr : ERow W a es) :
    Calls Try.prog 66 #[.slice a es.length cap] W fun e w' => ∃ a' b' cap', e = .returned (.slice a' es.length cap') ∧ (es.length = 0 ∨ a' = some ⟨b', 0, none⟩) ∧ es.length ≤ cap' ∧ ERow w' a' es ∧ Below W.heap.size W w' := by
  rcases a with _ | x
  · obtain ⟨h1, h2⟩ := ha rfl
    obtain rfl : es = [] := List.eq_nil_of_length_eq_zero h1
    subst h2
    clear hr ha
    have he : ∀ w, (binOp .eql 26 (.slice none 0 0) (.slice none 0 0)).run Try.prog w = .ok (.bool true) w := fun w => Go.Lib.run_eql_slice_nil w 26 24 _ _ _ _ _ Try.underlying26
    go_enter Try.func66, Try.ntmps66
    go_wp2
    go_ret
    exact ⟨none, 0, 0, rfl, .inl (by first | rfl | trivial), Nat.zero_le _, ⟨fun i hi => by simp at hi⟩, Below.refl _ _⟩
  · obtain ⟨i0, hi, hz0, hz1, hz2⟩ := info_elem
    have HI : Hid (Try.prog.info? 24 = some i0 ∧ i0.zero = some (.agg #[.int .u64 0, .int .u64 0]) ∧ i0.size = 2 ∧ i0.bytes = 16) := ⟨hi, hz0, hz1, hz2⟩
    have HR : Hid (∀ w, Below W.heap.size W w → ∀ p u, (flat es)[p]? = some u → w.cell? (x.add p) = some u) := by
      intro w hb p u hu
      rcases Nat.eq_zero_or_pos es.length with h | h
      · rw [List.eq_nil_of_length_eq_zero h] at hu; simp [flat] at hu
      · obtain ⟨b, off, e, _⟩ := hr.cells 0 h
        injection e with e
        subst e
        exact (hr.below hb).cflatOn p u hu
    clear hi hz0 hz1 hz2 hr ha
    have he : ∀ w, (binOp .eql 26 (.slice (some x) es.length cap) (.slice none 0 0)).run Try.prog w = .ok (.bool false) w := fun w => Go.Lib.run_eql_slice_nil w 26 24 _ _ _ _ _ Try.underlying26
    go_enter Try.func66, Try.ntmps66
    go_wp2_with (at_builtin; refine wpList_append_own _ rfl _ _ 26 rfl W.heap.size 24 i0 (.agg #[.int .u64 0, .int .u64 0]) 2 16 Try.underlying26 HI.out.1 HI.out.2.1 HI.out.2.2.1 HI.out.2.2.2 rfl (by decide) _ 0 [] rfl (World.ownsRow_made W #[] 0 (Nat.le_refl _) (by decide) rfl) x es.length cap (flat es) rfl (flat_len es) (fun p u hu => HR.out _ ((Below.refl _ _).alloc (Nat.le_refl _) _) p u hu) (cflat_ones es) (by simp only [maxLen]; omega) (by omega) (by simp) ?_; intro v' w' hown' hgr _)
    rw [Nat.zero_add, List.nil_append] at hown'
    obtain ⟨a', b', cap', rfl, h1, h2, hE⟩ := cown_elems hown'
    have HD : Hid (Below W.heap.size W w') := ((Below.refl _ _).alloc (Nat.le_refl _) _).grown hgr (by simp) fun k hk => ((World.ownsRow_made (e := 24) (size := 2) (base := W.heap.size) W #[] 0 (Nat.le_refl _) (by decide) rfl).lt k hk).1
    have HE : Hid (ERow w' a' es ∧ (es.length = 0 ∨ a' = some ⟨b', 0, none⟩) ∧ es.length ≤ cap') := ⟨hE, h1, h2⟩
    clear hE hown' hgr h1 h2
    go_wp2
    go_ret
    exact ⟨a', b', cap', rfl, HE.out.2.1, HE.out.2.2, HE.out.1, HD.out⟩

theorem row_some {w : World} {a : Option Addr} {es : List (Nat × Nat)} (h : ERow w a es) (hl : 0 < es.length) (cap : Nat) : a = none → es.length = 0 ∧ cap = 0 := by
  rintro rfl
  obtain ⟨b, off, e, _⟩ := h.cells 0 hl
  cases e
theorem lasts_app (t p q : List (Nat × Nat)) : lasts t (p ++ q) = lasts (lasts t p) q := by unfold lasts; rw [List.foldl_append]
theorem lasts_one (t : List (Nat × Nat)) (r : Nat × Nat) : lasts t [r] = lst1 t r := by simp only [lasts, List.foldl_cons, List.foldl_nil]
theorem pow_half (n : Nat) : 2 ^ (n + 1) / 2 = 2 ^ n := by rw [Nat.pow_succ]; omega
set_option maxHeartbeats 4000000 in
set_option maxRecDepth 100000 in
theorem first_ok (k : Nat) (hk : k < 8) (a c : Option Addr) (cap cap2 m : Nat) (t p : List (Nat × Nat)) (hl : t.length = 2 ^ (p.length + m)) (h10 : t.length ≤ 1000) (ht : ltE t) (hp : ltE p) (ot : ofT k t) (op : ofT k p) (W : World) (ha : ERow W a t) (hc : ERow W c p) :
    Calls Try.prog 53 #[.int .i64 (k : Int), .slice a t.length cap, .slice c p.length cap2] W fun e w' => ∃ a' cap', e = .returned (.slice a' (2 ^ m) cap') ∧ ERow w' a' (firsts t p) ∧ Below W.heap.size W w' := by
  have hpos : 0 < t.length := by rw [hl]; exact Nat.two_pow_pos _
  have HC : Hid (Calls Try.prog 66 #[.slice a t.length cap] W fun e w' => ∃ a' b' cap', e = .returned (.slice a' t.length cap') ∧ (t.length = 0 ∨ a' = some ⟨b', 0, none⟩) ∧ t.length ≤ cap' ∧ ERow w' a' t ∧ Below W.heap.size W w') := ccloned a cap t (by omega) (row_some ha hpos cap) W ha
  have hp10 : p.length ≤ 10 := by
    rcases Nat.lt_or_ge 10 p.length with h | h
    · have : 2 ^ 11 ≤ 2 ^ (p.length + m) := Nat.pow_le_pow_right (by decide) (by omega)
      omega
    · exact h
  have HP : Hid (ERow W c p) := hc
  have HL : Hid (t.length = 2 ^ (p.length + m) ∧ t.length ≤ 1000) := ⟨hl, h10⟩
  have HT : Hid (ltE t ∧ ltE p ∧ ofT k t ∧ ofT k p) := ⟨ht, hp, ot, op⟩
  clear ha hc hl ht hp ot op h10 hpos
  go_enter Try.func53, Try.ntmps53
  go_wp2_with fail
  refine HC.out.mono ?_
  rintro e w1 ⟨a1, b1, cap1, rfl, hA1, hc1, hE1, hb1⟩
  clear HC hA1 hc1
  go_wp2_with fail
  go_loopw [7, 14] (fun v u wr => ∃ (j n : Nat) (a' : Option Addr) (cap' : Nat) (s : List (Nat × Nat)), j ≤ p.length ∧ u = .int .i64 j ∧ v = .slice a' s.length cap' ∧ Hid (s = firsts t (p.take j) ∧ n = p.length - j + m ∧ s.length = 2 ^ n) ∧ ERow wr a' s ∧ Below W.heap.size W wr) (fun _ u _ => p.length - (intOf u).toNat)
  case atStart => exact ⟨0, p.length + m, a1, cap1, t, Nat.zero_le _, rfl, rfl, ⟨rfl, by omega, HL.out.1⟩, hE1, hb1⟩
  case round =>
    obtain ⟨j, n, a', cap', s, hj, rfl, rfl, HS, hE, hD⟩ := hrel
    have HD : Hid (Below W.heap.size W wr) := hD
    have HE : Hid (ERow wr a' s) := hE
    clear hE hE1 hb1
    by_cases hlt : j < p.length
    · obtain ⟨b, off, rfl, hb, c1, c0⟩ := HP.out.cells j hlt
      have d1 := keepc hD c1
      have d0 := keepc hD c0
      have HK : Hid (p.take (j + 1) = p.take j ++ [p.getD j (0, 0)]) := take_sn p j hlt
      have hx : lt2 (p.getD j (0, 0)) := HT.out.2.1.at j
      have ox : ofE k (p.getD j (0, 0)) := HT.out.2.2.2.el hk j
      obtain ⟨n', hn'⟩ : ∃ n', n = n' + 1 := ⟨n - 1, by have := HS.out.2.1; omega⟩
      have h2 : s.length / 2 = 2 ^ n' := by rw [HS.out.2.2, hn', pow_half]
      have h4 : s.length = 2 * 2 ^ n' := by rw [HS.out.2.2, hn', Nat.pow_succ]; omega
      have hs10 : s.length ≤ 1000 := by
        have e1 : s.length ≤ t.length := by rw [HS.out.2.2, HL.out.1]; exact Nat.pow_le_pow_right (by decide) (by have := HS.out.2.1; omega)
        have := HL.out.2
        omega
      have lts : ltE s := by rw [HS.out.1]; exact lt_firsts _ _ HT.out.1
      have ots : ofT k s := by rw [HS.out.1]; exact of_firsts hk _ _ HT.out.2.2.1 fun e he => HT.out.2.2.2 e (List.mem_of_mem_take he)
      clear hD c1 c0
      generalize p.getD j (0, 0) = x at *
      have HH : Hid (∀ w, Below wr.heap.size wr w → Calls Try.prog 81 #[.int .i64 (k : Int), .slice a' s.length cap', .int .i64 (2 : Nat), .int .i64 (1 : Nat), .agg #[.int .u64 (x.1 : Int), .int .u64 (x.2 : Int)]] w fun e w' => ∃ g, e = .returned (.slice (some ⟨g, 0, none⟩) (2 ^ n') (2 ^ n')) ∧ ERow w' (some ⟨g, 0, none⟩) (half 2 1 s x) ∧ Below w.heap.size w w') := fun w hw => halved_ok k hk 2 1 (2 ^ n') a' cap' s x h2 hs10 (by omega) (by omega) (fun i hi => by omega) lts hx ots ox w (HE.out.below hw)
      have HG : Hid (half 2 1 s x = firsts t (p.take (j + 1)) ∧ n' = p.length - (j + 1) + m ∧ (half 2 1 s x).length = 2 ^ n') := ⟨by rw [HK.out, firsts_app, firsts_one, ← HS.out.1]; rfl, by have := HS.out.2.1; omega, by rw [half_len, h2]⟩
      clear HS lts ots h4 HT HK HP HL
      go_wp2_with (go_at_call 81; refine (HH.out _ (by go_grown)).mono ?_; rintro e w3 ⟨g, rfl, hE3, hb3⟩)
      refine ⟨⟨j + 1, n', some ⟨g, 0, none⟩, 2 ^ n', half 2 1 s x, hlt, by simp, ?_, HG.out, hE3, ?_⟩, by simp [intOf]; omega⟩
      · rw [HG.out.2.2]
      · exact (HD.out.alloc HD.out.size _).trans (hb3.mono (by have := HD.out.size; simp; omega))
    · obtain rfl : j = p.length := by omega
      have e0 : s = firsts t p := by have := HS.out.1; rwa [List.take_of_length_le (Nat.le_refl _)] at this
      have e1 : s.length = 2 ^ m := by rw [HS.out.2.2, HS.out.2.1]; congr 1; omega
      rw [e1]
      subst e0
      clear hD HS HT HL HP
      go_wp2
      go_ret
      exact ⟨a', cap', rfl, HE.out, HD.out⟩
end Go.Proofs.Ytfhojakhoobnhaa

/- The contract of cube.last over the seat's translation. -/
namespace Go.Proofs.Ytfhojakhoobnhaa
open Go.RowKit
open Cb
open Tw (pm)

end Go.Proofs.Ytfhojakhoobnhaa

/- Contracts of cube.At, First and Last over the seat's translation: what hinders, and what they give. -/
namespace Go.Proofs.Ytfhojakhoobnhaa
open Go.RowKit
open Cb
open Tw (pm)

/-- What hinders At. -/
def atE (l : Int) (t p : List (Nat × Nat)) : Int := hnd l (decide ((p.length : Int) = lgz t.length)) t p
/-- What hinders First and Last. -/
def fiE (l : Int) (t p : List (Nat × Nat)) : Int := hnd l (decide ((p.length : Int) ≤ lgz t.length)) t p
theorem hnd_zero {l : Int} {f : Bool} {t p : List (Nat × Nat)} (h : hnd l f t p = 0) : (0 ≤ l ∧ l ≤ 7) ∧ f = true ∧ (t.all fun e => ofB l (e.1 : Int) (e.2 : Int)) = true ∧ (p.all fun e => ofB l (e.1 : Int) (e.2 : Int)) = true := by
  unfold hnd at h
  by_cases h1 : 0 ≤ l ∧ l ≤ 7
  · rw [if_pos h1] at h
    by_cases h2 : f = true
    · rw [if_pos h2] at h
      by_cases h3 : (t.all fun e => ofB l (e.1 : Int) (e.2 : Int)) = true ∧ (p.all fun e => ofB l (e.1 : Int) (e.2 : Int)) = true
      · exact ⟨h1, h2, h3.1, h3.2⟩
      · rw [if_neg h3] at h; exact absurd h (by decide)
    · rw [if_neg h2] at h; exact absurd h (by decide)
  · rw [if_neg h1] at h; exact absurd h (by decide)
theorem hnd_mk {l : Int} {f : Bool} {t p : List (Nat × Nat)} (h1 : 0 ≤ l ∧ l ≤ 7) (h2 : f = true) (h3 : (t.all fun e => ofB l (e.1 : Int) (e.2 : Int)) = true) (h4 : (p.all fun e => ofB l (e.1 : Int) (e.2 : Int)) = true) : hnd l f t p = 0 := by
  unfold hnd; rw [if_pos h1, if_pos h2, if_pos ⟨h3, h4⟩]
theorem all_of {k : Nat} {t : List (Nat × Nat)} : (t.all fun e => ofB (k : Int) (e.1 : Int) (e.2 : Int)) = true ↔ ofT k t := by
  rw [List.all_eq_true]; rfl
theorem at_zero {l : Int} {t p : List (Nat × Nat)} (h : atE l t p = 0) : ∃ k : Nat, k < 8 ∧ l = (k : Int) ∧ p.length ≤ 16 ∧ t.length = 2 ^ p.length ∧ ofT k t ∧ ofT k p := by
  obtain ⟨⟨h1, h2⟩, h3, h4, h5⟩ := hnd_zero h
  obtain ⟨k, rfl⟩ := Int.eq_ofNat_of_zero_le h1
  have h6 := of_decide_eq_true h3
  rcases lgz_or t.length with e | ⟨n, hn, e1, e2⟩
  · omega
  · obtain rfl : p.length = n := by omega
    exact ⟨k, by omega, rfl, hn, e1, all_of.1 h4, all_of.1 h5⟩
theorem fi_zero {l : Int} {t p : List (Nat × Nat)} (h : fiE l t p = 0) : ∃ k m : Nat, k < 8 ∧ l = (k : Int) ∧ p.length + m ≤ 16 ∧ t.length = 2 ^ (p.length + m) ∧ ofT k t ∧ ofT k p := by
  obtain ⟨⟨h1, h2⟩, h3, h4, h5⟩ := hnd_zero h
  obtain ⟨k, rfl⟩ := Int.eq_ofNat_of_zero_le h1
  have h6 := of_decide_eq_true h3
  rcases lgz_or t.length with e | ⟨n, hn, e1, e2⟩
  · omega
  · obtain ⟨m, rfl⟩ : ∃ m, n = p.length + m := ⟨n - p.length, by omega⟩
    exact ⟨k, m, by omega, rfl, hn, e1, all_of.1 h4, all_of.1 h5⟩
theorem at_mk {k : Nat} {t p : List (Nat × Nat)} (hk : k < 8) (hp : p.length ≤ 16) (hl : t.length = 2 ^ p.length) (ot : ofT k t) (op : ofT k p) : atE (k : Int) t p = 0 := by
  refine hnd_mk ⟨by omega, by omega⟩ (decide_eq_true ?_) (all_of.2 ot) (all_of.2 op)
  rw [hl, lgz_two _ hp]
theorem fi_mk {k m : Nat} {t p : List (Nat × Nat)} (hk : k < 8) (hp : p.length + m ≤ 16) (hl : t.length = 2 ^ (p.length + m)) (ot : ofT k t) (op : ofT k p) : fiE (k : Int) t p = 0 := by
  refine hnd_mk ⟨by omega, by omega⟩ (decide_eq_true ?_) (all_of.2 ot) (all_of.2 op)
  rw [hl, lgz_two _ hp]; omega
/-- A room for an element. -/
structure Rm (W w : World) : Prop where
  room : Ew w W.heap.size 0 0
  d : Below W.heap.size W w
theorem Rm.below {W w w' : World} (h : Rm W w) (hb : Below w.heap.size w w') : Rm W w' := ⟨h.room.below hb, h.d.trans (hb.mono h.d.size)⟩
theorem Rm.start (W : World) : Rm W (W.alloc (Obj.cells #[.int .u64 0, .int .u64 0] 24)) := ⟨⟨⟨by simp [go_sem], by simp [go_sem]⟩, by simp [go_sem], by simp [go_sem]⟩, by go_grown⟩
set_option maxHeartbeats 1000000 in
theorem at_err (l : Int) (a c : Option Addr) (cap cap2 : Nat) (t p : List (Nat × Nat)) (ht : ltE t) (hp : ltE p) (h1 : t.length ≤ 1000) (h2 : p.length ≤ 1000) (E : Int) (hE : atE l t p = E) (h0 : ¬ E = 0) (W : World) (ha : ERow W a t) (hc : ERow W c p) :
    Calls Try.prog 22 #[.int .i64 l, .slice a t.length cap, .slice c p.length cap2] W fun e w' => e = .returned (.tuple #[.agg #[.int .u64 0, .int .u64 0], .int .i64 E]) ∧ Below W.heap.size W w' := by
  have HL : Hid (Ret 52 #[.int .i64 (t.length : Int)] (.int .i64 (lgz t.length))) := clog_any t.length (by omega)
  have HH : Hid (∀ w, Below W.heap.size W w → Calls Try.prog 51 #[.int .i64 l, .bool (decide ((p.length : Int) = lgz t.length)), .slice a t.length cap, .slice c p.length cap2] w fun e w' => e = .returned (.int .i64 E) ∧ Below w.heap.size w w') := fun w hb => by
    rw [← hE]; exact hind_any l _ a c cap cap2 t p ht hp (by omega) (by omega) w (ha.below hb) (hc.below hb)
  clear hE ha hc ht hp h1 h2
  generalize lgz t.length = g at *
  by_cases hg : (p.length : Int) = g
  · rw [decide_eq_true hg] at HH
    rw [← hg] at HL
    clear hg
    go_enter Try.func22, Try.ntmps22
    go_wp2_with (first | (go_at_call 52; refine (HL.out.go _).mono ?_; rintro e w1 ⟨rfl, hb1⟩; have R1 : Hid (Rm W w1) := (Rm.start W).below hb1; clear hb1) | (go_at_call 51; refine (HH.out _ R1.out.d).mono ?_; rintro e w2 ⟨rfl, hb2⟩; have R2 : Hid (Rm W w2) := R1.out.below hb2; clear hb2; obtain ⟨⟨r1, r0⟩, t1, t0⟩ := R2.out.room))
    refine bodyPost_ret (v := .tuple #[.agg #[.int .u64 0, .int .u64 0], .int .i64 E]) (by simp [results, Try.results22, go_sem, *]) rfl ⟨rfl, ?_⟩
    exact below2 (p := W.heap.size) R2.out.d (Nat.le_refl _) _ _
  · rw [decide_eq_false hg] at HH
    have hg' : ((p.length : Int) == g) = false := by simp [hg]
    go_enter Try.func22, Try.ntmps22
    go_wp2_with (first | (go_at_call 52; refine (HL.out.go _).mono ?_; rintro e w1 ⟨rfl, hb1⟩; have R1 : Hid (Rm W w1) := (Rm.start W).below hb1; clear hb1) | (go_at_call 51; refine (HH.out _ R1.out.d).mono ?_; rintro e w2 ⟨rfl, hb2⟩; have R2 : Hid (Rm W w2) := R1.out.below hb2; clear hb2; obtain ⟨⟨r1, r0⟩, t1, t0⟩ := R2.out.room))
    refine bodyPost_ret (v := .tuple #[.agg #[.int .u64 0, .int .u64 0], .int .i64 E]) (by simp [results, Try.results22, go_sem, *]) rfl ⟨rfl, ?_⟩
    exact below2 (p := W.heap.size) R2.out.d (Nat.le_refl _) _ _
set_option maxHeartbeats 1000000 in
theorem at_ok (k : Nat) (hk : k < 8) (a c : Option Addr) (cap cap2 : Nat) (t p : List (Nat × Nat)) (ht : ltE t) (hp : ltE p) (h1 : t.length ≤ 1000) (h2 : p.length ≤ 16) (hl : t.length = 2 ^ p.length) (ot : ofT k t) (op : ofT k p) (v : Nat × Nat) (hv : firsts t p = [v]) (W : World) (ha : ERow W a t) (hc : ERow W c p) :
    Calls Try.prog 22 #[.int .i64 (k : Int), .slice a t.length cap, .slice c p.length cap2] W fun e w' => e = .returned (.tuple #[.agg #[.int .u64 (v.1 : Int), .int .u64 (v.2 : Int)], .int .i64 0]) ∧ Below W.heap.size W w' := by
  have hg : lgz t.length = (p.length : Int) := by rw [hl, lgz_two _ h2]
  have HL : Hid (Ret 52 #[.int .i64 (t.length : Int)] (.int .i64 (p.length : Int))) := by
    have := clog_any t.length (by omega)
    rw [hg] at this
    exact this
  have HH : Hid (∀ w, Below W.heap.size W w → Calls Try.prog 51 #[.int .i64 (k : Int), .bool true, .slice a t.length cap, .slice c p.length cap2] w fun e w' => e = .returned (.int .i64 0) ∧ Below w.heap.size w w') := fun w hb => by
    have := hind_any (k : Int) true a c cap cap2 t p ht hp (by omega) (by omega) w (ha.below hb) (hc.below hb)
    rw [hnd_mk ⟨by omega, by omega⟩ rfl (all_of.2 ot) (all_of.2 op)] at this
    exact this
  have HF : Hid (∀ w, Below W.heap.size W w → Calls Try.prog 53 #[.int .i64 (k : Int), .slice a t.length cap, .slice c p.length cap2] w fun e w' => ∃ g off cap', e = .returned (.slice (some ⟨g, off, none⟩) 1 cap') ∧ w'.cell? ⟨g, off, none⟩ = some (.int .u64 (v.1 : Int)) ∧ w'.cell? ⟨g, off + 1, none⟩ = some (.int .u64 (v.2 : Int)) ∧ Below w.heap.size w w') := fun w hb => by
    refine (first_ok k hk a c cap cap2 0 t p hl h1 ht hp ot op w (ha.below hb) (hc.below hb)).mono ?_
    rintro e w' ⟨a', cap', rfl, hE, hb'⟩
    rw [hv] at hE
    obtain ⟨g, off, rfl, _, c1, c0⟩ := hE.cells 0 (by simp)
    exact ⟨g, off, cap', rfl, by simpa using c1, by simpa using c0, hb'⟩
  clear ha hc ht hp h1 h2 hg ot op hl hv
  go_enter Try.func22, Try.ntmps22
  go_wp2_with (first | (go_at_call 52; refine (HL.out.go _).mono ?_; rintro e w1 ⟨rfl, hb1⟩; have R1 : Hid (Rm W w1) := (Rm.start W).below hb1; clear hb1) | (go_at_call 51; refine (HH.out _ R1.out.d).mono ?_; rintro e w2 ⟨rfl, hb2⟩; have R2 : Hid (Rm W w2) := R1.out.below hb2; clear hb2) | (go_at_call 53; refine (HF.out _ R2.out.d).mono ?_; rintro e w3 ⟨g, off, cap', rfl, d1, d0, hb3⟩; have R3 : Hid (Rm W w3) := R2.out.below hb3; clear hb3; obtain ⟨⟨r1, r0⟩, t1, t0⟩ := R3.out.room))
  refine bodyPost_ret (v := .tuple #[.agg #[.int .u64 (v.1 : Int), .int .u64 (v.2 : Int)], .int .i64 0]) (by simp [results, Try.results22, go_sem, *]) rfl ⟨rfl, ?_⟩
  exact below2 (p := W.heap.size) R3.out.d (Nat.le_refl _) _ _
end Go.Proofs.Ytfhojakhoobnhaa

/- The document's side of layer 15 over the seat's translation: Log, one, Weight, Value. -/
namespace Go.Proofs.Ytfhojakhoobnhaa
open Go.RowKit
open Cb
open Tw (pm)

set_option maxHeartbeats 1000000 in
theorem rlog_int (n r : Int) (h1 : ∀ k : Nat, k ≤ 16 → n = ((2 ^ k : Nat) : Int) → r = (k : Int)) (h2 : (∀ k : Nat, k ≤ 16 → n ≠ ((2 ^ k : Nat) : Int)) → r = -1) : Ret 18 #[.int .i64 n] (.int .i64 r) := by
  intro W
  have H1 : Hid (∀ k : Nat, k ≤ 16 → n = ((2 ^ k : Nat) : Int) → r = (k : Int)) := h1
  have H2 : Hid ((∀ k : Nat, k ≤ 16 → n ≠ ((2 ^ k : Nat) : Int)) → r = -1) := h2
  clear h1 h2
  go_enter Try.func18, Try.ntmps18
  go_wp2_with fail
  go_loopw [3, 4] (fun v u wr => ∃ j q : Nat, j ≤ 17 ∧ Hid (q = 2 ^ j) ∧ Hid (∀ k : Nat, k < j → n ≠ ((2 ^ k : Nat) : Int)) ∧ v = .int .i64 (q : Int) ∧ u = .int .i64 j ∧ W = wr) (fun _ u _ => 17 - (intOf u).toNat)
  case atStart => exact ⟨0, 1, Nat.zero_le _, (by rfl), (fun k hk => by omega), rfl, rfl, rfl⟩
  case round =>
    obtain ⟨j, q, hj, HQ, HN, rfl, rfl, rfl⟩ := hrel
    by_cases hlt : j ≤ 16
    · have hq : q ≤ 65536 := by rw [HQ.out]; exact Nat.pow_le_pow_right (by decide) hlt
      have hw : IntKind.i64.wrap (2 * (q : Int)) = ((2 * q : Nat) : Int) := by rw [IntKind.wrap_i64]; omega
      by_cases he : n = (q : Int)
      · have hr : r = (j : Int) := H1.out j hlt (by rw [he, HQ.out])
        subst he
        go_wp2
        go_ret
        exact ⟨by first | rfl | (rw [hr]; rfl), Below.refl _ _⟩
      · have he' : ¬ (q : Int) = n := fun h => he h.symm
        go_wp2
        exact ⟨⟨j + 1, 2 * q, by omega, (by show _ = _; rw [HQ.out, Nat.pow_succ]; omega), (fun k hk => by
          rcases Nat.lt_or_ge k j with h | h
          · exact HN.out k h
          · rw [show k = j by omega, ← HQ.out]; exact he), by simp, by simp, by first | rfl | trivial⟩, by simp [intOf]; omega⟩
    · have hr : r = -1 := H2.out fun k hk => HN.out k (by omega)
      have hlt' : ¬ (j : Int) ≤ 16 := by omega
      go_wp2
      go_ret
      exact ⟨by first | rfl | (rw [hr]; rfl), Below.refl _ _⟩
theorem rlog_any (n : Nat) : Ret 18 #[.int .i64 (n : Int)] (.int .i64 (lgz n)) := by
  refine rlog_int _ _ (fun k hk h => ?_) fun h => ?_
  · obtain rfl : n = 2 ^ k := by omega
    exact lgz_two k hk
  · rcases lgz_or n with e | ⟨k, hk, e, _⟩
    · exact e
    · exact absurd (congrArg Int.ofNat e) (h k hk)
theorem wtf_snoc : ∀ (p : List (Nat × Nat)) (o x : Nat × Nat) (n : Nat), wtf o (p ++ [x]) n = pm (wtf o p n) (fac x (n / 2 ^ p.length))
  | [], o, x, n => by simp [wtf]
  | y :: p, o, x, n => by
    show wtf (pm o (fac y n)) (p ++ [x]) (n / 2) = pm (wtf (pm o (fac y n)) p (n / 2)) (fac x (n / 2 ^ (p.length + 1)))
    rw [wtf_snoc p, Nat.div_div_eq_div_mul, Nat.pow_succ, Nat.mul_comm 2]
/-- A room, and an element that is worked on. -/
structure Wst (W w : World) (q : Nat) (o : Nat × Nat) : Prop where
  r : Ew w W.heap.size 0 0
  o : Ew w q o.1 o.2
  d : Below W.heap.size W w
theorem Wst.below {W w w' : World} {q : Nat} {o : Nat × Nat} (h : Wst W w q o) (hb : Below w.heap.size w w') : Wst W w' q o := ⟨h.r.below hb, h.o.below hb, h.d.trans (hb.mono h.d.size)⟩
theorem Wst.drew {W w : World} {q : Nat} {o : Nat × Nat} (h : Wst W w q o) : Wst W w.drew q o := ⟨h.r.drew, h.o.drew, h.d.drew⟩
theorem Wst.put {W w : World} {q : Nat} {o : Nat × Nat} (h : Wst W w q o) (hq : W.heap.size < q) (v : Nat × Nat) : Wst W ((w.setCell ⟨q, 0, none⟩ (.int .u64 (v.1 : Int))).setCell ⟨q, 1, none⟩ (.int .u64 (v.2 : Int))) q v :=
  ⟨h.r.other (by omega) _ _, h.o.set _ _, below2 (p := q) h.d (by omega) _ _⟩
theorem Wst.facts {W w : World} {q b i : Nat} {o x : Nat × Nat} (h : Wst W w q o) (A : b < W.heap.size ∧ W.cell? ⟨b, i, none⟩ = some (.int .u64 (x.1 : Int)) ∧ W.cell? ⟨b, i + 1, none⟩ = some (.int .u64 (x.2 : Int))) :
    w.cell? ⟨b, i, none⟩ = some (.int .u64 (x.1 : Int)) ∧ w.cell? ⟨b, i + 1, none⟩ = some (.int .u64 (x.2 : Int)) ∧ w.cell? ⟨q, 0, none⟩ = some (.int .u64 (o.1 : Int)) ∧ w.cell? ⟨q, 1, none⟩ = some (.int .u64 (o.2 : Int)) ∧ w.frozen? ⟨q, 0, none⟩ = false ∧ w.frozen? ⟨q, 1, none⟩ = false :=
  ⟨by rw [h.d.cell (p := ⟨b, i, none⟩) A.1]; exact A.2.1, by rw [h.d.cell (p := ⟨b, i + 1, none⟩) A.1]; exact A.2.2, h.o.hi, h.o.lo, h.o.fhi, h.o.flo⟩
theorem rprod (a b : Nat × Nat) (ha : lt2 a) (hb : lt2 b) : Ret 35 #[.agg #[.int .u64 (a.1 : Int), .int .u64 (a.2 : Int)], .agg #[.int .u64 (b.1 : Int), .int .u64 (b.2 : Int)]] (.agg #[.int .u64 ((pm a b).1 : Int), .int .u64 ((pm a b).2 : Int)]) := rproduct_any _ _ _ _ ha.1 ha.2 hb.1 hb.2
theorem rsum (a b : Nat × Nat) (ha : lt2 a) (hb : lt2 b) : Ret 42 #[.agg #[.int .u64 (a.1 : Int), .int .u64 (a.2 : Int)], .agg #[.int .u64 (b.1 : Int), .int .u64 (b.2 : Int)]] (.agg #[.int .u64 ((xa a b).1 : Int), .int .u64 ((xa a b).2 : Int)]) := radd _ _ _ _ ha.1 ha.2 hb.1 hb.2
end Go.Proofs.Ytfhojakhoobnhaa
