/- Contracts of slices.Clone, cube.first, last, At, First and Last over the seat's translation. -/
import Derived.Test.YtccaobfhldfamaaPCbC
namespace Go.Proofs.Ytccaobfhldfamaa
open Go.RowKit
open Cb
open Tw (pm)

theorem cflat_ones (es : List (Nat × Nat)) : ∀ u ∈ flat es, u.oneCell' = true := by
  intro u hu
  unfold flat at hu
  obtain ⟨e, _, he⟩ := List.mem_flatMap.1 hu
  simp at he
  rcases he with rfl | rfl <;> rfl
theorem ERow.cflatOn {w : World} {b off : Nat} {es : List (Nat × Nat)} (h : ERow w (some ⟨b, off, none⟩) es) (j : Nat) (u : Value) (hu : (flat es)[j]? = some u) : w.cell? ((⟨b, off, none⟩ : Addr).add j) = some u := by
  have hj : j < es.length * 2 := by
    rw [← flat_len]
    obtain ⟨h1, _⟩ := List.getElem?_eq_some_iff.1 hu
    exact h1
  have ha : (⟨b, off, none⟩ : Addr).add j = ⟨b, off + j, none⟩ := by unfold Addr.add; split <;> simp_all
  rw [ha]
  have hi : j / 2 < es.length := by omega
  obtain ⟨b2, off2, e, _, c1, c0⟩ := h.cells (j / 2) hi
  have hf := flat_at es (j / 2) hi
  simp only [Option.some.injEq, Addr.mk.injEq] at e
  obtain ⟨rfl, rfl, _⟩ := e
  rcases Nat.mod_two_eq_zero_or_one j with h2 | h2
  · have e2 : j / 2 * 2 = j := by omega
    rw [e2] at c1 hf
    rw [hf.1] at hu
    rw [c1]; exact hu
  · have e2 : j / 2 * 2 + 1 = j := by omega
    rw [Nat.add_assoc, e2] at c0
    rw [e2] at hf
    rw [hf.2] at hu
    rw [c0]; exact hu
/-- A row of one's own, as elements. -/
theorem cown_elems {w : World} {base : Nat} {T : TypeId} {v : Value} {es : List (Nat × Nat)} (h : w.ownsRow base T 2 v es.length (flat es)) :
    ∃ a b cap, v = .slice a es.length cap ∧ (es.length = 0 ∨ a = some ⟨b, 0, none⟩) ∧ es.length ≤ cap ∧ ERow w a es := by
  obtain ⟨a', cap', e, hE⟩ := own_row h
  rcases h.2 with ⟨h1, h0⟩ | ⟨g, cap, cur, e2, _, _, hn, _⟩
  · refine ⟨a', 0, cap', e, .inl h0, by omega, hE⟩
  · rw [e2] at e
    injection e with e3 e4 e5
    subst e3 e5
    exact ⟨_, g, cap, e2, .inr rfl, hn, hE⟩
set_option maxHeartbeats 1000000 in
set_option maxRecDepth 100000 in
/-- A copy of elements. -/
theorem ccloned (a : Option Addr) (cap : Nat) (es : List (Nat × Nat)) (h10 : es.length ≤ 100000) (ha : a = none → es.length = 0 ∧ cap = 0) (W : World) (hr : ERow W a es) :
    Calls Try.prog 26 #[.slice a es.length cap] W fun e w' => ∃ a' b' cap', e = .returned (.slice a' es.length cap') ∧ (es.length = 0 ∨ a' = some ⟨b', 0, none⟩) ∧ es.length ≤ cap' ∧ ERow w' a' es ∧ Below W.heap.size W w' := by
  rcases a with _ | x
  · obtain ⟨h1, h2⟩ := ha rfl
    obtain rfl : es = [] := List.eq_nil_of_length_eq_zero h1
    subst h2
    clear hr ha
    have he : ∀ w, (binOp .eql 23 (.slice none 0 0) (.slice none 0 0)).run Try.prog w = .ok (.bool true) w := fun w => Go.Lib.run_eql_slice_nil w 23 44 _ _ _ _ _ Try.underlying23
    go_enter Try.func26, Try.ntmps26
    go_wp2
    go_ret
    exact ⟨none, 0, 0, rfl, .inl (by first | rfl | trivial), Nat.zero_le _, ⟨fun i hi => by simp at hi⟩, Below.refl _ _⟩
  · obtain ⟨i0, hi, hz0, hz1, hz2⟩ := info_elem
    have HI : Hid (Try.prog.info? 44 = some i0 ∧ i0.zero = some (.agg #[.int .u64 0, .int .u64 0]) ∧ i0.size = 2 ∧ i0.bytes = 16) := ⟨hi, hz0, hz1, hz2⟩
    have HR : Hid (∀ w, Below W.heap.size W w → ∀ p u, (flat es)[p]? = some u → w.cell? (x.add p) = some u) := by
      intro w hb p u hu
      rcases Nat.eq_zero_or_pos es.length with h | h
      · rw [List.eq_nil_of_length_eq_zero h] at hu; simp [flat] at hu
      · obtain ⟨b, off, e, _⟩ := hr.cells 0 h
        injection e with e
        subst e
        exact (hr.below hb).cflatOn p u hu
    clear hi hz0 hz1 hz2 hr ha
    have he : ∀ w, (binOp .eql 23 (.slice (some x) es.length cap) (.slice none 0 0)).run Try.prog w = .ok (.bool false) w := fun w => Go.Lib.run_eql_slice_nil w 23 44 _ _ _ _ _ Try.underlying23
    go_enter Try.func26, Try.ntmps26
    go_wp2_with (at_builtin; refine wpList_append_own _ rfl _ _ 23 rfl W.heap.size 44 i0 (.agg #[.int .u64 0, .int .u64 0]) 2 16 Try.underlying23 HI.out.1 HI.out.2.1 HI.out.2.2.1 HI.out.2.2.2 rfl (by decide) _ 0 [] rfl (World.ownsRow_made W #[] 0 (Nat.le_refl _) (by decide) rfl) x es.length cap (flat es) rfl (flat_len es) (fun p u hu => HR.out _ ((Below.refl _ _).alloc (Nat.le_refl _) _) p u hu) (cflat_ones es) (by simp only [maxLen]; omega) (by omega) (by simp) ?_; intro v' w' hown' hgr _)
    rw [Nat.zero_add, List.nil_append] at hown'
    obtain ⟨a', b', cap', rfl, h1, h2, hE⟩ := cown_elems hown'
    have HD : Hid (Below W.heap.size W w') := ((Below.refl _ _).alloc (Nat.le_refl _) _).grown hgr (by simp) fun k hk => ((World.ownsRow_made (e := 44) (size := 2) (base := W.heap.size) W #[] 0 (Nat.le_refl _) (by decide) rfl).lt k hk).1
    have HE : Hid (ERow w' a' es ∧ (es.length = 0 ∨ a' = some ⟨b', 0, none⟩) ∧ es.length ≤ cap') := ⟨hE, h1, h2⟩
    clear hE hown' hgr h1 h2
    go_wp2
    go_ret
    exact ⟨a', b', cap', rfl, HE.out.2.1, HE.out.2.2, HE.out.1, HD.out⟩

theorem row_some {w : World} {a : Option Addr} {es : List (Nat × Nat)} (h : ERow w a es) (hl : 0 < es.length) (cap : Nat) : a = none → es.length = 0 ∧ cap = 0 := by
  rintro rfl
  obtain ⟨b, off, e, _⟩ := h.cells 0 hl
  cases e
theorem lasts_app (t p q : List (Nat × Nat)) : lasts t (p ++ q) = lasts (lasts t p) q := by unfold lasts; rw [List.foldl_append]
theorem lasts_one (t : List (Nat × Nat)) (r : Nat × Nat) : lasts t [r] = lst1 t r := by simp only [lasts, List.foldl_cons, List.foldl_nil]
theorem pow_half (n : Nat) : 2 ^ (n + 1) / 2 = 2 ^ n := by rw [Nat.pow_succ]; omega
end Go.Proofs.Ytccaobfhldfamaa

/- The contract of cube.last over the seat's translation. -/
namespace Go.Proofs.Ytccaobfhldfamaa
open Go.RowKit
open Cb
open Tw (pm)

end Go.Proofs.Ytccaobfhldfamaa

/- Contracts of cube.At, First and Last over the seat's translation: what hinders, and what they give. -/
namespace Go.Proofs.Ytccaobfhldfamaa
open Go.RowKit
open Cb
open Tw (pm)

/-- What hinders At. -/
def atE (l : Int) (t p : List (Nat × Nat)) : Int := hnd l (decide ((p.length : Int) = lgz t.length)) t p
/-- What hinders First and Last. -/
def fiE (l : Int) (t p : List (Nat × Nat)) : Int := hnd l (decide ((p.length : Int) ≤ lgz t.length)) t p
theorem hnd_zero {l : Int} {f : Bool} {t p : List (Nat × Nat)} (h : hnd l f t p = 0) : (0 ≤ l ∧ l ≤ 7) ∧ f = true ∧ (t.all fun e => ofB l (e.1 : Int) (e.2 : Int)) = true ∧ (p.all fun e => ofB l (e.1 : Int) (e.2 : Int)) = true := by
  unfold hnd at h
  by_cases h1 : 0 ≤ l ∧ l ≤ 7
  · rw [if_pos h1] at h
    by_cases h2 : f = true
    · rw [if_pos h2] at h
      by_cases h3 : (t.all fun e => ofB l (e.1 : Int) (e.2 : Int)) = true ∧ (p.all fun e => ofB l (e.1 : Int) (e.2 : Int)) = true
      · exact ⟨h1, h2, h3.1, h3.2⟩
      · rw [if_neg h3] at h; exact absurd h (by decide)
    · rw [if_neg h2] at h; exact absurd h (by decide)
  · rw [if_neg h1] at h; exact absurd h (by decide)
theorem hnd_mk {l : Int} {f : Bool} {t p : List (Nat × Nat)} (h1 : 0 ≤ l ∧ l ≤ 7) (h2 : f = true) (h3 : (t.all fun e => ofB l (e.1 : Int) (e.2 : Int)) = true) (h4 : (p.all fun e => ofB l (e.1 : Int) (e.2 : Int)) = true) : hnd l f t p = 0 := by
  unfold hnd; rw [if_pos h1, if_pos h2, if_pos ⟨h3, h4⟩]
theorem all_of {k : Nat} {t : List (Nat × Nat)} : (t.all fun e => ofB (k : Int) (e.1 : Int) (e.2 : Int)) = true ↔ ofT k t := by
  rw [List.all_eq_true]; rfl
theorem at_zero {l : Int} {t p : List (Nat × Nat)} (h : atE l t p = 0) : ∃ k : Nat, k < 8 ∧ l = (k : Int) ∧ p.length ≤ 16 ∧ t.length = 2 ^ p.length ∧ ofT k t ∧ ofT k p := by
  obtain ⟨⟨h1, h2⟩, h3, h4, h5⟩ := hnd_zero h
  obtain ⟨k, rfl⟩ := Int.eq_ofNat_of_zero_le h1
  have h6 := of_decide_eq_true h3
  rcases lgz_or t.length with e | ⟨n, hn, e1, e2⟩
  · omega
  · obtain rfl : p.length = n := by omega
    exact ⟨k, by omega, rfl, hn, e1, all_of.1 h4, all_of.1 h5⟩
theorem fi_zero {l : Int} {t p : List (Nat × Nat)} (h : fiE l t p = 0) : ∃ k m : Nat, k < 8 ∧ l = (k : Int) ∧ p.length + m ≤ 16 ∧ t.length = 2 ^ (p.length + m) ∧ ofT k t ∧ ofT k p := by
  obtain ⟨⟨h1, h2⟩, h3, h4, h5⟩ := hnd_zero h
  obtain ⟨k, rfl⟩ := Int.eq_ofNat_of_zero_le h1
  have h6 := of_decide_eq_true h3
  rcases lgz_or t.length with e | ⟨n, hn, e1, e2⟩
  · omega
  · obtain ⟨m, rfl⟩ : ∃ m, n = p.length + m := ⟨n - p.length, by omega⟩
    exact ⟨k, m, by omega, rfl, hn, e1, all_of.1 h4, all_of.1 h5⟩
theorem at_mk {k : Nat} {t p : List (Nat × Nat)} (hk : k < 8) (hp : p.length ≤ 16) (hl : t.length = 2 ^ p.length) (ot : ofT k t) (op : ofT k p) : atE (k : Int) t p = 0 := by
  refine hnd_mk ⟨by omega, by omega⟩ (decide_eq_true ?_) (all_of.2 ot) (all_of.2 op)
  rw [hl, lgz_two _ hp]
theorem fi_mk {k m : Nat} {t p : List (Nat × Nat)} (hk : k < 8) (hp : p.length + m ≤ 16) (hl : t.length = 2 ^ (p.length + m)) (ot : ofT k t) (op : ofT k p) : fiE (k : Int) t p = 0 := by
  refine hnd_mk ⟨by omega, by omega⟩ (decide_eq_true ?_) (all_of.2 ot) (all_of.2 op)
  rw [hl, lgz_two _ hp]; omega
/-- A room for an element. -/
structure Rm (W w : World) : Prop where
  room : Ew w W.heap.size 0 0
  d : Below W.heap.size W w
theorem Rm.below {W w w' : World} (h : Rm W w) (hb : Below w.heap.size w w') : Rm W w' := ⟨h.room.below hb, h.d.trans (hb.mono h.d.size)⟩
theorem Rm.start (W : World) : Rm W (W.alloc (Obj.cells #[.int .u64 0, .int .u64 0] 44)) := ⟨⟨⟨by simp [go_sem], by simp [go_sem]⟩, by simp [go_sem], by simp [go_sem]⟩, by go_grown⟩
end Go.Proofs.Ytccaobfhldfamaa
