/- Slices of elements: what lies in memory; contracts of tower.Sum and steeplelaw01.Ref over the seat's translation. -/
import Derived.Test.YtcejppibcemdeaaTwBl
import Derived.Deep.OwnRows
import Derived.BigQuiet
namespace Go.Proofs.Ytcejppibcemdeaa
open Go.RowKit

/-- Elements in memory, as a slice has them. -/
structure ERow (w : World) (a : Option Addr) (es : List (Nat × Nat)) : Prop where
  cells : ∀ i, i < es.length → ∃ b off : Nat, a = some ⟨b, off, none⟩ ∧ b < w.heap.size ∧ w.cell? ⟨b, off + i * 2, none⟩ = some (.int .u64 ((es.getD i (0, 0)).1 : Nat)) ∧ w.cell? ⟨b, off + i * 2 + 1, none⟩ = some (.int .u64 ((es.getD i (0, 0)).2 : Nat))
theorem ERow.below {w w' : World} {a : Option Addr} {es : List (Nat × Nat)} (h : ERow w a es) (hb : Below w.heap.size w w') : ERow w' a es := ⟨fun i hi => by
  obtain ⟨b, off, h1, h2, h3, h4⟩ := h.cells i hi
  exact ⟨b, off, h1, Nat.lt_of_lt_of_le h2 hb.size, by rw [hb.cell (p := ⟨b, off + i * 2, none⟩) h2]; exact h3, by rw [hb.cell (p := ⟨b, off + i * 2 + 1, none⟩) h2]; exact h4⟩⟩
theorem ERow.drew {w : World} {a : Option Addr} {es : List (Nat × Nat)} (h : ERow w a es) : ERow w.drew a es := ⟨h.cells⟩
def ltE (es : List (Nat × Nat)) : Prop := ∀ e ∈ es, e.1 < 2 ^ 64 ∧ e.2 < 2 ^ 64
theorem ltE.at {es : List (Nat × Nat)} (h : ltE es) (i : Nat) : (es.getD i (0, 0)).1 < 2 ^ 64 ∧ (es.getD i (0, 0)).2 < 2 ^ 64 := by
  by_cases hi : i < es.length
  · rw [show es.getD i (0, 0) = es[i] by simp [hi]]; exact h _ (List.getElem_mem hi)
  · rw [show es.getD i (0, 0) = (0, 0) by simp [List.getD, List.getElem?_eq_none (Nat.not_lt.1 hi)]]; exact ⟨Nat.two_pow_pos 64, Nat.two_pow_pos 64⟩
theorem flat_at (es : List (Nat × Nat)) : ∀ i, i < es.length → (flat es)[i * 2]? = some (.int .u64 ((es.getD i (0, 0)).1 : Nat)) ∧ (flat es)[i * 2 + 1]? = some (.int .u64 ((es.getD i (0, 0)).2 : Nat)) := by
  induction es with
  | nil => intro i hi; simp at hi
  | cons e l ih =>
    intro i hi
    have ef : flat (e :: l) = .int .u64 (e.1 : Int) :: .int .u64 (e.2 : Int) :: flat l := by simp [flat]
    rw [ef]
    rcases i with _ | i
    · simp
    · have := ih i (by simpa using hi)
      rw [show (i + 1) * 2 = i * 2 + 1 + 1 by omega, show i * 2 + 1 + 1 + 1 = (i * 2 + 1) + 1 + 1 by omega]
      simpa using this
theorem own_row {w : World} {base : Nat} {T : TypeId} {v : Value} {es : List (Nat × Nat)} (h : w.ownsRow base T 2 v es.length (flat es)) :
    ∃ a cap, v = .slice a es.length cap ∧ ERow w a es := by
  rcases h.2 with ⟨h1, h0⟩ | ⟨g, cap, cur, rfl, _⟩
  · refine ⟨none, 0, ?_, ⟨fun i hi => by omega⟩⟩
    rw [h1, h0]
  · refine ⟨_, cap, rfl, ⟨fun i hi => ?_⟩⟩
    have e1 := h.cellAt (i * 2) (by omega)
    have e0 := h.cellAt (i * 2 + 1) (by omega)
    rw [(flat_at es i hi).1] at e1
    rw [(flat_at es i hi).2] at e0
    refine ⟨g, 0, rfl, ?_, by rw [Nat.zero_add]; exact e1, by rw [Nat.zero_add]; exact e0⟩
    rcases Nat.lt_or_ge g w.heap.size with h2 | h2
    · exact h2
    · simp [World.cell?, Array.getElem?_eq_none h2] at e1

theorem info_relem : ∃ i, Try.prog.info? 28 = some i ∧ i.zero = some (.agg #[.int .u64 0, .int .u64 0]) ∧ i.size = 2 ∧ i.bytes = 16 := by
  have h : (Try.prog.info? 28).map (fun i => (i.zero, i.size, i.bytes)) = some (some (.agg #[.int .u64 0, .int .u64 0]), 2, 16) := by kernel_rfl
  obtain ⟨i, hi, he⟩ := Option.map_eq_some_iff.1 h
  simp only [Prod.mk.injEq] at he
  exact ⟨i, hi, he.1, he.2.1, he.2.2⟩
set_option maxHeartbeats 1000000 in
set_option maxRecDepth 100000 in
/-- Elements as the document has them. -/
theorem ref_row (a : Option Addr) (cap : Nat) (es : List (Nat × Nat)) (hn : es.length ≤ 1000) (W : World) (hr : ERow W a es) :
    Calls Try.prog 19 #[.slice a es.length cap] W fun e w' => ∃ a' cap', e = .returned (.slice a' es.length cap') ∧ ERow w' a' es ∧ Below W.heap.size W w' := by
  have HC : Hid (ERow W a es) := hr
  clear hr
  go_enter Try.func19, Try.ntmps19
  go_wp2_with fail
  go_loopw [3, 4] (fun v u wr => ∃ j : Nat, j ≤ es.length ∧ u = .int .i64 j ∧ wr.ownsRow W.heap.size 28 2 v j (flat (es.take j)) ∧ Below W.heap.size W wr) (fun _ u _ => es.length - (intOf u).toNat)
  case atStart => exact ⟨0, Nat.zero_le _, rfl, ⟨by simp [flat], .inl ⟨rfl, rfl⟩⟩, Below.refl _ _⟩
  case round =>
    obtain ⟨j, hj, rfl, hown, hbw⟩ := hrel
    by_cases hlt : j < es.length
    · obtain ⟨b, off, rfl, hb, c1, c0⟩ := HC.out.cells j hlt
      have d1 : wr.cell? ⟨b, off + j * 2, none⟩ = some (.int .u64 ((es.getD j (0, 0)).1 : Nat)) := by rw [hbw.cell (p := ⟨b, off + j * 2, none⟩) hb]; exact c1
      have d0 : wr.cell? ⟨b, off + j * 2 + 1, none⟩ = some (.int .u64 ((es.getD j (0, 0)).2 : Nat)) := by rw [hbw.cell (p := ⟨b, off + j * 2 + 1, none⟩) hb]; exact c0
      have H : Hid (es.take (j + 1) = es.take j ++ [es.getD j (0, 0)]) := take_sn es j hlt
      obtain ⟨i0, hi, hz0, hz1, hz2⟩ := info_relem
      have HI : Hid (Try.prog.info? 28 = some i0 ∧ i0.zero = some (.agg #[.int .u64 0, .int .u64 0]) ∧ i0.size = 2 ∧ i0.bytes = 16) := ⟨hi, hz0, hz1, hz2⟩
      have HO : Hid (wr.ownsRow W.heap.size 28 2 u3 j (flat (es.take j))) := hown
      have HB : Hid (Below W.heap.size W wr) := hbw
      clear hown c1 c0 hi hz0 hz1 hz2 hbw HC
      generalize es.getD j (0, 0) = x at *
      go_wp2_with (at_builtin; refine wpList_append_own _ rfl _ _ 32 rfl W.heap.size 28 i0 (.agg #[.int .u64 0, .int .u64 0]) 2 16 Try.underlying32 HI.out.1 HI.out.2.1 HI.out.2.2.1 HI.out.2.2.2 rfl (by decide) _ _ _ rfl (own_below HO.out (by go_grown)) ⟨wr.heap.size, 0, none⟩ 1 1 [.int .u64 (x.1 : Int), .int .u64 (x.2 : Int)] rfl rfl (fun p u hu => by rcases p with _ | _ | p <;> simp at hu <;> subst hu <;> simp [go_sem]) (by intro u hu; simp at hu; rcases hu with rfl | rfl <;> rfl) (by simp only [maxLen]; omega) (by omega) (by have := HB.out.size; simp; omega) ?_; intro v' w' hown' hgr _)
      refine ⟨⟨j + 1, hlt, by simp, ?_, ?_⟩, by simp [intOf]; omega⟩
      · rw [H.out, flat_snoc]; exact hown'
      · exact (HB.out.alloc HB.out.size _).grown hgr (by have := HB.out.size; simp; omega) fun k hk => (HO.out.lt k hk).1
    · have hje : j = es.length := by omega
      subst hje
      rw [List.take_of_length_le (Nat.le_refl _)] at hown
      obtain ⟨a', cap', rfl, hE⟩ := own_row hown
      have HB : Hid (Below W.heap.size W wr) := hbw
      have HE : Hid (ERow wr a' es) := hE
      clear hown hbw hE HC
      go_wp2
      go_ret
      exact ⟨a', cap', rfl, HE.out, HB.out⟩
end Go.Proofs.Ytcejppibcemdeaa

/- Contracts of weave.joined over the seat's translation: halves joined to one element. -/
namespace Go.Proofs.Ytcejppibcemdeaa
open Go.RowKit

/-- Two halves as one element of the level k. -/
def jn (k : Nat) (x y : Nat × Nat) : Nat × Nat := if k = 7 then (x.2, y.2) else (0, 2 ^ 2 ^ (k - 1) * x.2 + y.2)
def jnd : Nat → Nat → List (Nat × Nat) → Nat × Nat
  | 0, _, es => es.getD 0 (0, 0)
  | d + 1, k, es => jn k (jnd d (k - 1) (es.drop (2 ^ d))) (jnd d (k - 1) (es.take (2 ^ d)))
theorem ERow.drop {w : World} {b off n : Nat} {es : List (Nat × Nat)} (h : ERow w (some ⟨b, off, none⟩) es) : ERow w (some ⟨b, off + n * 2, none⟩) (es.drop n) := ⟨fun i hi => by
  have hi' : n + i < es.length := by simp at hi; omega
  obtain ⟨b', o', e, h1, h2, h3⟩ := h.cells (n + i) hi'
  simp only [Option.some.injEq, Addr.mk.injEq] at e
  obtain ⟨rfl, rfl, _⟩ := e
  have eg : (es.drop n).getD i (0, 0) = es.getD (n + i) (0, 0) := by simp [List.getD]
  refine ⟨_, _, rfl, h1, ?_, ?_⟩
  · rw [eg, ← h2]; congr 2; omega
  · rw [eg, ← h3]; congr 2; omega⟩
theorem ERow.take {w : World} {a : Option Addr} {n : Nat} {es : List (Nat × Nat)} (h : ERow w a es) : ERow w a (es.take n) := ⟨fun i hi => by
  have hi' : i < es.length ∧ i < n := by simp at hi; omega
  obtain ⟨b', o', e, h1, h2, h3⟩ := h.cells i hi'.1
  have eg : (es.take n).getD i (0, 0) = es.getD i (0, 0) := by simp [List.getD, hi'.2]
  exact ⟨_, _, e, h1, by rw [eg]; exact h2, by rw [eg]; exact h3⟩⟩
end Go.Proofs.Ytcejppibcemdeaa

/- Contracts of weave.cut and of weave.Gather over the seat's translation, where nothing hinders it. -/
namespace Go.Proofs.Ytcejppibcemdeaa
open Go.RowKit

/-- The pieces: slices into the list's own row. -/
def pcs (b off wide j : Nat) : List Value := (List.range j).map fun i => .slice (some ⟨b, off + i * wide * 2, none⟩) wide wide
theorem pcs_len (b off wide j : Nat) : (pcs b off wide j).length = j := by simp [pcs]
theorem pcs_snoc (b off wide j : Nat) : pcs b off wide (j + 1) = pcs b off wide j ++ [.slice (some ⟨b, off + j * wide * 2, none⟩) wide wide] := by simp [pcs, List.range_succ]
theorem info_row : ∃ i, Try.prog.info? 25 = some i ∧ i.zero = some (.slice none 0 0) ∧ i.size = 1 ∧ i.bytes = 24 := by
  have h : (Try.prog.info? 25).map (fun i => (i.zero, i.size, i.bytes)) = some (some (.slice none 0 0), 1, 24) := by kernel_rfl
  obtain ⟨i, hi, he⟩ := Option.map_eq_some_iff.1 h
  simp only [Prod.mk.injEq] at he
  exact ⟨i, hi, he.1, he.2.1, he.2.2⟩
theorem own_pcs {w : World} {base b off wide q : Nat} {v : Value} (h : w.ownsRow base 25 1 v q (pcs b off wide q)) :
    ∃ a' cap', v = .slice a' q cap' ∧ ∀ i, i < q → ∃ g, a' = some ⟨g, 0, none⟩ ∧ base ≤ g ∧ g < w.heap.size ∧ w.cell? ⟨g, i, none⟩ = some (.slice (some ⟨b, off + i * wide * 2, none⟩) wide wide) := by
  have hlt := h.lt
  rcases h.2 with ⟨h1, h0⟩ | ⟨g, cap, cur, rfl, hb, _⟩
  · exact ⟨none, 0, by rw [h1, h0], fun i hi => by omega⟩
  · refine ⟨_, cap, rfl, fun i hi => ⟨g, rfl, ?_, ?_, ?_⟩⟩
    · exact (hlt g rfl).1
    · exact (hlt g rfl).2
    · have := h.cellAt i (by omega)
      rw [this]
      simp [pcs, hi]
theorem own_isRow {w : World} {base : Nat} {T : TypeId} {g n c : Nat} {xs : List Value} (h : w.ownsRow base T 2 (.slice (some ⟨g, 0, none⟩) n n) n xs) (hc : c = n * 2) : ∃ f, w.rowIs g T c f := by
  subst hc
  rcases h.2 with ⟨h1, _⟩ | ⟨g', cap, cur, e, _, hg, _, _, hs, _⟩
  · injection h1 with h2; cases h2
  · injection e with e1 e2 e3
    obtain rfl : g = g' := by injection e1 with e4; injection e4
    subst e3
    exact ⟨fun i => cur.getD i undef, cur, hg, hs, fun i hi => by
      show cur[i]? = some (cur.getD i undef)
      rw [Array.getD_eq_getD_getElem?, Array.getElem?_eq_getElem (by omega)]; rfl⟩
/-- The cells of elements. -/
def gcell (gs : List (Nat × Nat)) (p : Nat) : Value := if p % 2 = 0 then .int .u64 ((gs.getD (p / 2) (0, 0)).1 : Nat) else .int .u64 ((gs.getD (p / 2) (0, 0)).2 : Nat)
theorem row_g {w : World} {g n : Nat} {T : TypeId} {f : Nat → Value} {gs : List (Nat × Nat)} (hn : gs.length = n) (h : w.rowIs g T (n * 2) f) (hf : ∀ p, p < n * 2 → f p = gcell gs p) : ERow w (some ⟨g, 0, none⟩) gs := ⟨fun i hi => by
  have h1 := h.cell (i := i * 2) (by omega)
  have h2 := h.cell (i := i * 2 + 1) (by omega)
  rw [hf _ (by omega)] at h1 h2
  unfold gcell at h1 h2
  rw [if_pos (by omega), show i * 2 / 2 = i by omega] at h1
  rw [if_neg (by omega), show (i * 2 + 1) / 2 = i by omega] at h2
  refine ⟨g, 0, rfl, h.lt, by rw [Nat.zero_add]; exact h1, by rw [Nat.zero_add]; exact h2⟩⟩
end Go.Proofs.Ytcejppibcemdeaa
