/- Contracts of slices.Clone, weave.Cut and steeplelaw09.awake over the seat's translation. -/
import Derived.Test.YtccaobfhldfamaaWvD
import Derived.Test.YtccaobfhldfamaaWvB
namespace Go.Proofs.Ytccaobfhldfamaa
open Go.RowKit

theorem flat_ones (es : List (Nat × Nat)) : ∀ u ∈ flat es, u.oneCell' = true := by
  intro u hu
  unfold flat at hu
  obtain ⟨e, _, he⟩ := List.mem_flatMap.1 hu
  simp at he
  rcases he with rfl | rfl <;> rfl
theorem ERow.flatOn {w : World} {b off : Nat} {es : List (Nat × Nat)} (h : ERow w (some ⟨b, off, none⟩) es) (j : Nat) (u : Value) (hu : (flat es)[j]? = some u) : w.cell? ((⟨b, off, none⟩ : Addr).add j) = some u := by
  have hj : j < es.length * 2 := by
    rw [← flat_len]
    obtain ⟨h1, _⟩ := List.getElem?_eq_some_iff.1 hu
    exact h1
  have ha : (⟨b, off, none⟩ : Addr).add j = ⟨b, off + j, none⟩ := by unfold Addr.add; split <;> simp_all
  rw [ha]
  have hi : j / 2 < es.length := by omega
  obtain ⟨b2, off2, e, _, c1, c0⟩ := h.cells (j / 2) hi
  have hf := flat_at es (j / 2) hi
  simp only [Option.some.injEq, Addr.mk.injEq] at e
  obtain ⟨rfl, rfl, _⟩ := e
  rcases Nat.mod_two_eq_zero_or_one j with h2 | h2
  · have e2 : j / 2 * 2 = j := by omega
    rw [e2] at c1 hf
    rw [hf.1] at hu
    rw [c1]; exact hu
  · have e2 : j / 2 * 2 + 1 = j := by omega
    rw [Nat.add_assoc, e2] at c0
    rw [e2] at hf
    rw [hf.2] at hu
    rw [c0]; exact hu
/-- A row of one's own, as elements. -/
theorem own_elems {w : World} {base : Nat} {T : TypeId} {v : Value} {es : List (Nat × Nat)} (h : w.ownsRow base T 2 v es.length (flat es)) :
    ∃ a b cap, v = .slice a es.length cap ∧ (es.length = 0 ∨ a = some ⟨b, 0, none⟩) ∧ es.length ≤ cap ∧ ERow w a es := by
  obtain ⟨a', cap', e, hE⟩ := own_row h
  rcases h.2 with ⟨h1, h0⟩ | ⟨g, cap, cur, e2, _, _, hn, _⟩
  · refine ⟨a', 0, cap', e, .inl h0, by omega, hE⟩
  · rw [e2] at e
    injection e with e3 e4 e5
    subst e3 e5
    exact ⟨_, g, cap, e2, .inr rfl, hn, hE⟩
set_option maxHeartbeats 1000000 in
set_option maxRecDepth 100000 in
/-- A copy of elements. -/
theorem cloned (a : Option Addr) (cap : Nat) (es : List (Nat × Nat)) (h10 : es.length ≤ 100000) (ha : a = none → es.length = 0 ∧ cap = 0) (W : World) (hr : ERow W a es) :
    Calls Try.prog 26 #[.slice a es.length cap] W fun e w' => ∃ a' b' cap', e = .returned (.slice a' es.length cap') ∧ (es.length = 0 ∨ a' = some ⟨b', 0, none⟩) ∧ es.length ≤ cap' ∧ ERow w' a' es ∧ Below W.heap.size W w' := by
  rcases a with _ | x
  · obtain ⟨h1, h2⟩ := ha rfl
    obtain rfl : es = [] := List.eq_nil_of_length_eq_zero h1
    subst h2
    clear hr ha
    have he : ∀ w, (binOp .eql 23 (.slice none 0 0) (.slice none 0 0)).run Try.prog w = .ok (.bool true) w := fun w => Go.Lib.run_eql_slice_nil w 23 44 _ _ _ _ _ Try.underlying23
    go_enter Try.func26, Try.ntmps26
    go_wp2
    go_ret
    exact ⟨none, 0, 0, rfl, .inl (by first | rfl | trivial), Nat.zero_le _, ⟨fun i hi => by simp at hi⟩, Below.refl _ _⟩
  · obtain ⟨i0, hi, hz0, hz1, hz2⟩ := info_elem
    have HI : Hid (Try.prog.info? 44 = some i0 ∧ i0.zero = some (.agg #[.int .u64 0, .int .u64 0]) ∧ i0.size = 2 ∧ i0.bytes = 16) := ⟨hi, hz0, hz1, hz2⟩
    have HR : Hid (∀ w, Below W.heap.size W w → ∀ p u, (flat es)[p]? = some u → w.cell? (x.add p) = some u) := by
      intro w hb p u hu
      rcases Nat.eq_zero_or_pos es.length with h | h
      · rw [List.eq_nil_of_length_eq_zero h] at hu; simp [flat] at hu
      · obtain ⟨b, off, e, _⟩ := hr.cells 0 h
        injection e with e
        subst e
        exact (hr.below hb).flatOn p u hu
    clear hi hz0 hz1 hz2 hr ha
    have he : ∀ w, (binOp .eql 23 (.slice (some x) es.length cap) (.slice none 0 0)).run Try.prog w = .ok (.bool false) w := fun w => Go.Lib.run_eql_slice_nil w 23 44 _ _ _ _ _ Try.underlying23
    go_enter Try.func26, Try.ntmps26
    go_wp2_with (at_builtin; refine wpList_append_own _ rfl _ _ 23 rfl W.heap.size 44 i0 (.agg #[.int .u64 0, .int .u64 0]) 2 16 Try.underlying23 HI.out.1 HI.out.2.1 HI.out.2.2.1 HI.out.2.2.2 rfl (by decide) _ 0 [] rfl (World.ownsRow_made W #[] 0 (Nat.le_refl _) (by decide) rfl) x es.length cap (flat es) rfl (flat_len es) (fun p u hu => HR.out _ ((Below.refl _ _).alloc (Nat.le_refl _) _) p u hu) (flat_ones es) (by simp only [maxLen]; omega) (by omega) (by simp) ?_; intro v' w' hown' hgr _)
    rw [Nat.zero_add, List.nil_append] at hown'
    obtain ⟨a', b', cap', rfl, h1, h2, hE⟩ := own_elems hown'
    have HD : Hid (Below W.heap.size W w') := ((Below.refl _ _).alloc (Nat.le_refl _) _).grown hgr (by simp) fun k hk => ((World.ownsRow_made (e := 44) (size := 2) (base := W.heap.size) W #[] 0 (Nat.le_refl _) (by decide) rfl).lt k hk).1
    have HE : Hid (ERow w' a' es ∧ (es.length = 0 ∨ a' = some ⟨b', 0, none⟩) ∧ es.length ≤ cap') := ⟨hE, h1, h2⟩
    clear hE hown' hgr h1 h2
    go_wp2
    go_ret
    exact ⟨a', b', cap', rfl, HE.out.2.1, HE.out.2.2, HE.out.1, HD.out⟩
theorem own_base {w : World} {base base' : Nat} {T : TypeId} {size n : Nat} {v : Value} {xs : List Value} (h : w.ownsRow base T size v n xs) (hb : base' ≤ base) : w.ownsRow base' T size v n xs := by
  obtain ⟨h1, h2⟩ := h
  refine ⟨h1, ?_⟩
  rcases h2 with h3 | ⟨g, cap, cur, e, hbb, rest⟩
  · exact .inl h3
  · exact .inr ⟨g, cap, cur, e, Nat.le_trans hb hbb, rest⟩
theorem wcut_arg (wide : Int) (hw : wide < 1) (v : Value) : Ret 14 #[v, .int .i64 wide] (.tuple #[.slice none 0 0, .int .i64 1]) := by
  intro W
  go_enter Try.func14, Try.ntmps14
  go_wp2
  refine bodyPost_ret (v := .tuple #[.slice none 0 0, .int .i64 1]) (by simp [results, Try.results14, go_sem]) rfl ⟨rfl, ?_⟩
  first | exact Below.refl _ _ | go_grown
theorem wcut_size (wide n : Nat) (a : Option Addr) (cap : Nat) (hw : 0 < wide) (hn : ¬ n % wide = 0) : Ret 14 #[.slice a n cap, .int .i64 (wide : Int)] (.tuple #[.slice none 0 0, .int .i64 6]) := by
  intro W
  have h1 : ¬ (wide : Int) < 1 := by omega
  have h2 : ¬ (wide : Int) = 0 := by omega
  obtain ⟨m, hm⟩ : ∃ m : Nat, n % wide = m := ⟨_, rfl⟩
  have h3 : (n : Int).tmod (wide : Int) = (m : Int) := by rw [Int.tmod_eq_emod_of_nonneg (by omega), ← hm]; simp
  have h4 : ¬ (m : Int) = 0 := by omega
  clear hn hm
  go_enter Try.func14, Try.ntmps14
  go_wp2
  refine bodyPost_ret (v := .tuple #[.slice none 0 0, .int .i64 6]) (by simp [results, Try.results14, go_sem]) rfl ⟨rfl, ?_⟩
  first | exact Below.refl _ _ | go_grown
set_option maxHeartbeats 1000000 in
theorem wcut_ok (wide q : Nat) (a : Option Addr) (cap : Nat) (es : List (Nat × Nat)) (hw : 0 < wide) (hq : es.length = q * wide) (h10 : es.length ≤ 100000) (ha : a = none → es.length = 0 ∧ cap = 0) (W : World) (hr : ERow W a es) :
    Calls Try.prog 14 #[.slice a es.length cap, .int .i64 (wide : Int)] W fun e w' => ∃ v b, e = .returned (.tuple #[v, .int .i64 0]) ∧ w'.ownsRow W.heap.size 23 1 v q (pcs b 0 wide q) ∧ ERow w' (some ⟨b, 0, none⟩) es ∧ Below W.heap.size W w' := by
  have h1 : ¬ (wide : Int) < 1 := by omega
  have h2 : ¬ (wide : Int) = 0 := by omega
  have h3 : (es.length : Int).tmod (wide : Int) = 0 := by
    rw [Int.tmod_eq_emod_of_nonneg (by omega), hq, Int.natCast_mul]; exact Int.mul_emod_left _ _
  have HC : Hid (∀ w, Below W.heap.size W w → Calls Try.prog 26 #[.slice a es.length cap] w fun e w' => ∃ a' b' cap', e = .returned (.slice a' es.length cap') ∧ (es.length = 0 ∨ a' = some ⟨b', 0, none⟩) ∧ es.length ≤ cap' ∧ ERow w' a' es ∧ Below w.heap.size w w') := fun w hb => cloned a cap es h10 ha w (hr.below hb)
  have HQ : Hid (es.length = q * wide) := hq
  clear hr ha hq
  go_enter Try.func14, Try.ntmps14
  go_wp2_with fail
  refine (HC.out _ (Below.refl _ _)).mono ?_
  rintro e w1 ⟨a', b', cap', rfl, hA, hc', hE, hb1⟩
  have HT : Hid (∀ w, Calls Try.prog 24 #[.slice a' es.length cap', .int .i64 (wide : Int)] w fun e w' => ∃ v, e = .returned v ∧ w'.ownsRow w.heap.size 23 1 v q (pcs b' 0 wide q) ∧ Below w.heap.size w w') := fun w => cut_any a' b' 0 es.length cap' wide q hA hw HQ.out h10 hc' w
  have HE : Hid (ERow w1 (some ⟨b', 0, none⟩) es) := by
    rcases hA with h | h
    · exact ⟨fun i hi => by omega⟩
    · rw [← h]; exact hE
  clear hA hE hc' HC
  go_wp2_with fail
  refine (HT.out _).mono ?_
  rintro e w2 ⟨v, rfl, hO, hb2⟩
  have HO : Hid (w2.ownsRow w1.heap.size 23 1 v q (pcs b' 0 wide q)) := hO
  have HB : Hid (Below W.heap.size W w2) := hb1.trans (hb2.mono hb1.size)
  have HE2 : Hid (ERow w2 (some ⟨b', 0, none⟩) es) := HE.out.below hb2
  have hsz := hb1.size
  clear hO hb1 hb2
  go_wp2
  refine bodyPost_ret (v := .tuple #[v, .int .i64 0]) (by simp [results, Try.results14, go_sem]) rfl ?_
  exact ⟨v, b', rfl, own_base HO.out hsz, HE2.out, HB.out⟩

/-- Gather, where nothing hinders it. -/
theorem gather_ok (f t d q : Nat) (hd : f + d = t) (ht : t < 8) (a : Option Addr) (b off cap : Nat) (es gs : List (Nat × Nat)) (ha : es.length = 0 ∨ a = some ⟨b, off, none⟩) (hq : es.length = q * 2 ^ d) (hn : es.length ≤ 100000) (hc : es.length ≤ cap) (hes : ltE es)
    (ho : (es.all fun e => ofB (f : Int) (e.1 : Int) (e.2 : Int)) = true) (hg : gs.length = q) (hgs : ∀ i, i < q → gs.getD i (0, 0) = jnd d t ((es.drop (i * 2 ^ d)).take (2 ^ d))) (W : World) (hr : ERow W a es) :
    Calls Try.prog 13 #[.int .i64 (f : Int), .int .i64 (t : Int), .slice a es.length cap] W fun e w' => ∃ p, e = .returned (.tuple #[.slice (some ⟨p, 0, none⟩) q q, .int .i64 0]) ∧ ERow w' (some ⟨p, 0, none⟩) gs ∧ W.heap.size ≤ p ∧ Below W.heap.size W w' := by
  have h8 : 2 ^ d ≤ 2 ^ 7 := Nat.pow_le_pow_right (by decide) (by omega)
  refine gather_core f t d (2 ^ d) q es.length hd ht rfl a b off cap ha hq hn hc gs hg W ?_ ?_
  · intro w hb
    have := wall_any (f : Int) a cap es hes w (hr.below hb) hn
    rw [ho] at this
    exact this
  · intro i hi w hb
    have hlt : (i + 1) * 2 ^ d ≤ es.length := by rw [hq]; exact Nat.mul_le_mul_right _ hi
    rw [Nat.add_mul, Nat.one_mul] at hlt
    have hl : ((es.drop (i * 2 ^ d)).take (2 ^ d)).length = 2 ^ d := by rw [List.length_take, List.length_drop]; omega
    obtain rfl : a = some ⟨b, off, none⟩ := by
      rcases ha with h | h
      · have := Nat.two_pow_pos d; omega
      · exact h
    have hE : ERow w (some ⟨b, off + i * 2 ^ d * 2, none⟩) ((es.drop (i * 2 ^ d)).take (2 ^ d)) := ERow.take (ERow.drop (hr.below hb))
    have hso : t - d = f := by omega
    have := joined_any d t _ (by omega) ht hl (fun e he => by rw [hso]; exact List.all_eq_true.1 ho e (List.mem_of_mem_drop (List.mem_of_mem_take he))) b (off + i * 2 ^ d * 2) (2 ^ d) (by omega) w hE
    rw [hl] at this
    rw [hgs i hi]
    exact this
set_option maxHeartbeats 1000000 in
theorem awake9 : Ret 5 #[] (.bool true) := by
  intro W
  have HG : Hid (∀ (w : World) (b : Nat), ERow w (some ⟨b, 0, none⟩) [(0, 1), (0, 2), (0, 3), (0, 0)] → Calls Try.prog 13 #[.int .i64 1, .int .i64 3, .slice (some ⟨b, 0, none⟩) 4 4] w fun e w' => ∃ p, e = .returned (.tuple #[.slice (some ⟨p, 0, none⟩) 1 1, .int .i64 0]) ∧ ERow w' (some ⟨p, 0, none⟩) [(0, 57)] ∧ w.heap.size ≤ p ∧ Below w.heap.size w w') := fun w b hr =>
    gather_ok 1 3 2 1 rfl (by decide) (some ⟨b, 0, none⟩) b 0 4 [(0, 1), (0, 2), (0, 3), (0, 0)] [(0, 57)] (.inr rfl) rfl (by decide) (by decide) (fun e he => by simp at he; rcases he with rfl | rfl | rfl | rfl <;> decide) (by decide) rfl (fun i hi => by match i, hi with | 0, _ => decide) w hr
  have HC : Hid (∀ (w : World) (b : Nat), ERow w (some ⟨b, 0, none⟩) [(0, 57)] → Calls Try.prog 14 #[.slice (some ⟨b, 0, none⟩) 1 1, .int .i64 1] w fun e w' => ∃ v b, e = .returned (.tuple #[v, .int .i64 0]) ∧ w'.ownsRow w.heap.size 23 1 v 1 (pcs b 0 1 1) ∧ ERow w' (some ⟨b, 0, none⟩) [(0, 57)] ∧ Below w.heap.size w w') := fun w b hr =>
    wcut_ok 1 1 (some ⟨b, 0, none⟩) 1 [(0, 57)] (by decide) rfl (by decide) (fun h => by cases h) w hr
  go_enter Try.func5, Try.ntmps5
  go_wp2_with fail
  refine (HG.out _ _ ⟨fun i hi => ?_⟩).mono ?_
  · match i, hi with
    | 0, _ => exact ⟨_, _, rfl, by simp, by simp [go_sem], by simp [go_sem]⟩
    | 1, _ => exact ⟨_, _, rfl, by simp, by simp [go_sem], by simp [go_sem]⟩
    | 2, _ => exact ⟨_, _, rfl, by simp, by simp [go_sem], by simp [go_sem]⟩
    | 3, _ => exact ⟨_, _, rfl, by simp, by simp [go_sem], by simp [go_sem]⟩
  · rintro e w1 ⟨p, rfl, hE, hp, hb1⟩
    have HE : Hid (ERow w1 (some ⟨p, 0, none⟩) [(0, 57)]) := hE
    have HB : Hid (Below W.heap.size W w1) := ((Below.refl _ _).alloc (Nat.le_refl _) _).trans (hb1.mono (by simp))
    clear hE hb1 hp
    go_wp2_with fail
    refine (HC.out _ _ HE.out).mono ?_
    rintro e w2 ⟨v, b, rfl, hO, hE2, hb2⟩
    obtain ⟨a', cap', rfl, _⟩ := own_pcs hO
    obtain ⟨b', o', e, _, c1, c0⟩ := (HE.out.below hb2).cells 0 (by decide)
    simp only [Option.some.injEq, Addr.mk.injEq] at e
    obtain ⟨rfl, rfl, _⟩ := e
    have HB2 : Hid (Below W.heap.size W w2) := HB.out.trans (hb2.mono HB.out.size)
    replace c1 : w2.cell? ⟨p, 0, none⟩ = some (.int .u64 0) := c1
    replace c0 : w2.cell? ⟨p, 1, none⟩ = some (.int .u64 57) := c0
    clear hO hE2 hb2 HG HC HE HB
    go_wp2
    go_ret
    exact ⟨rfl, HB2.out⟩
end Go.Proofs.Ytccaobfhldfamaa
