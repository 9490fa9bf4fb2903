/- The contract of cube.halved over the seat's translation. -/
import Derived.Test.YtcejppibcemdeaaCbB
import Derived.Deep.OwnRows
namespace Go.Proofs.Ytcejppibcemdeaa
open Go.RowKit
open Cb
open Tw (pm)

/-- The cell number p of a table. -/
def tcell (f : Nat → Nat × Nat) (p : Nat) : Value := if p % 2 = 0 then .int .u64 ((f (p / 2)).1 : Int) else .int .u64 ((f (p / 2)).2 : Int)
theorem row_tab {w : World} {g : Nat} {T : TypeId} {m : Nat} {f : Nat → Value} {es : List (Nat × Nat)} (hm : es.length = m) (R : w.rowIs g T (m * 2) f) (F : ∀ p, p < m * 2 → f p = tcell (el es) p) : ERow w (some ⟨g, 0, none⟩) es := ⟨fun i hi => by
  have c1 := R.cell (i := i * 2) (by omega)
  have c0 := R.cell (i := i * 2 + 1) (by omega)
  rw [F _ (by omega)] at c1 c0
  unfold tcell at c1 c0
  rw [if_pos (by omega), show i * 2 / 2 = i by omega] at c1
  rw [if_neg (by omega), show (i * 2 + 1) / 2 = i by omega] at c0
  exact ⟨g, 0, rfl, R.lt, by rw [Nat.zero_add]; exact c1, by rw [Nat.zero_add]; exact c0⟩⟩
theorem own_rowT {w : World} {base : Nat} {T : TypeId} {g n c : Nat} {xs : List Value} (h : w.ownsRow base T 2 (.slice (some ⟨g, 0, none⟩) n n) n xs) (hc : c = n * 2) : ∃ f, w.rowIs g T c f := by
  subst hc
  rcases h.2 with ⟨h1, _⟩ | ⟨g', cap, cur, e, _, hg, _, _, hs, _⟩
  · injection h1 with h2; cases h2
  · injection e with e1 e2 e3
    obtain rfl : g = g' := by injection e1 with e4; injection e4
    subst e3
    exact ⟨fun i => cur.getD i undef, cur, hg, hs, fun i hi => by
      show cur[i]? = some (cur.getD i undef)
      rw [Array.getD_eq_getD_getElem?, Array.getElem?_eq_getElem (by omega)]; rfl⟩
theorem half_el (st gp : Nat) (t : List (Nat × Nat)) (r : Nat × Nat) {i m : Nat} (hm : t.length / 2 = m) (h : i < m) : el (half st gp t r) i = hv st gp t r i := half_at st gp t r (by omega)
theorem Ew.off {w : World} {b c h l : Nat} (e : Ew w c h l) (hn : b ≠ c) (o o' : Nat) (u v : Value) : Ew ((w.setCell ⟨b, o, none⟩ u).setCell ⟨b, o', none⟩ v) c h l := by
  obtain ⟨⟨h1, h2⟩, h3, h4⟩ := e
  have hn' : c ≠ b := fun h => hn h.symm
  exact ⟨⟨by simp [go_sem, *], by simp [go_sem, *]⟩, by simp [go_sem, *], by simp [go_sem, *]⟩
/-- Three elements in boxes, and the row that is filled. -/
structure Hst (W w : World) (m : Nat) (f : Nat → Value) (P1 P2 : Nat) (r x y : Nat × Nat) : Prop where
  r : Ew w W.heap.size r.1 r.2
  x : El w P1 x.1 x.2
  y : El w P2 y.1 y.2
  row : w.rowIs (W.heap.size + 1) 24 (m * 2) f
  d : Below W.heap.size W w
theorem Hst.below {W w w' : World} {m : Nat} {f : Nat → Value} {P1 P2 : Nat} {r x y : Nat × Nat} (h : Hst W w m f P1 P2 r x y) (hb : Below w.heap.size w w') : Hst W w' m f P1 P2 r x y :=
  ⟨h.r.below hb, h.x.below hb, h.y.below hb, h.row.of_block (hb.block _ h.row.lt), h.d.trans (hb.mono h.d.size)⟩
theorem Hst.drew {W w : World} {m : Nat} {f : Nat → Value} {P1 P2 : Nat} {r x y : Nat × Nat} (h : Hst W w m f P1 P2 r x y) : Hst W w.drew m f P1 P2 r x y := h.below (Below.refl _ _).drew
theorem Hst.facts {W w : World} {m : Nat} {f : Nat → Value} {P1 P2 : Nat} {r x y : Nat × Nat} (h : Hst W w m f P1 P2 r x y) :
    w.cell? ⟨W.heap.size, 0, none⟩ = some (.int .u64 (r.1 : Int)) ∧ w.cell? ⟨W.heap.size, 1, none⟩ = some (.int .u64 (r.2 : Int)) ∧ w.cell? ⟨P1, 0, none⟩ = some (.int .u64 (x.1 : Int)) ∧ w.cell? ⟨P1, 1, none⟩ = some (.int .u64 (x.2 : Int)) ∧ w.cell? ⟨P2, 0, none⟩ = some (.int .u64 (y.1 : Int)) ∧ w.cell? ⟨P2, 1, none⟩ = some (.int .u64 (y.2 : Int)) :=
  ⟨h.r.hi, h.r.lo, h.x.hi, h.x.lo, h.y.hi, h.y.lo⟩
end Go.Proofs.Ytcejppibcemdeaa

/- Contracts of slices.Clone, cube.first, last, At, First and Last over the seat's translation. -/
namespace Go.Proofs.Ytcejppibcemdeaa
open Go.RowKit
open Cb
open Tw (pm)

theorem cflat_ones (es : List (Nat × Nat)) : ∀ u ∈ flat es, u.oneCell' = true := by
  intro u hu
  unfold flat at hu
  obtain ⟨e, _, he⟩ := List.mem_flatMap.1 hu
  simp at he
  rcases he with rfl | rfl <;> rfl
theorem ERow.cflatOn {w : World} {b off : Nat} {es : List (Nat × Nat)} (h : ERow w (some ⟨b, off, none⟩) es) (j : Nat) (u : Value) (hu : (flat es)[j]? = some u) : w.cell? ((⟨b, off, none⟩ : Addr).add j) = some u := by
  have hj : j < es.length * 2 := by
    rw [← flat_len]
    obtain ⟨h1, _⟩ := List.getElem?_eq_some_iff.1 hu
    exact h1
  have ha : (⟨b, off, none⟩ : Addr).add j = ⟨b, off + j, none⟩ := by unfold Addr.add; split <;> simp_all
  rw [ha]
  have hi : j / 2 < es.length := by omega
  obtain ⟨b2, off2, e, _, c1, c0⟩ := h.cells (j / 2) hi
  have hf := flat_at es (j / 2) hi
  simp only [Option.some.injEq, Addr.mk.injEq] at e
  obtain ⟨rfl, rfl, _⟩ := e
  rcases Nat.mod_two_eq_zero_or_one j with h2 | h2
  · have e2 : j / 2 * 2 = j := by omega
    rw [e2] at c1 hf
    rw [hf.1] at hu
    rw [c1]; exact hu
  · have e2 : j / 2 * 2 + 1 = j := by omega
    rw [Nat.add_assoc, e2] at c0
    rw [e2] at hf
    rw [hf.2] at hu
    rw [c0]; exact hu
/-- A row of one's own, as elements. -/
theorem cown_elems {w : World} {base : Nat} {T : TypeId} {v : Value} {es : List (Nat × Nat)} (h : w.ownsRow base T 2 v es.length (flat es)) :
    ∃ a b cap, v = .slice a es.length cap ∧ (es.length = 0 ∨ a = some ⟨b, 0, none⟩) ∧ es.length ≤ cap ∧ ERow w a es := by
  obtain ⟨a', cap', e, hE⟩ := own_row h
  rcases h.2 with ⟨h1, h0⟩ | ⟨g, cap, cur, e2, _, _, hn, _⟩
  · refine ⟨a', 0, cap', e, .inl h0, by omega, hE⟩
  · rw [e2] at e
    injection e with e3 e4 e5
    subst e3 e5
    exact ⟨_, g, cap, e2, .inr rfl, hn, hE⟩
theorem row_some {w : World} {a : Option Addr} {es : List (Nat × Nat)} (h : ERow w a es) (hl : 0 < es.length) (cap : Nat) : a = none → es.length = 0 ∧ cap = 0 := by
  rintro rfl
  obtain ⟨b, off, e, _⟩ := h.cells 0 hl
  cases e
theorem lasts_app (t p q : List (Nat × Nat)) : lasts t (p ++ q) = lasts (lasts t p) q := by unfold lasts; rw [List.foldl_append]
theorem lasts_one (t : List (Nat × Nat)) (r : Nat × Nat) : lasts t [r] = lst1 t r := by simp only [lasts, List.foldl_cons, List.foldl_nil]
theorem pow_half (n : Nat) : 2 ^ (n + 1) / 2 = 2 ^ n := by rw [Nat.pow_succ]; omega
end Go.Proofs.Ytcejppibcemdeaa

/- The contract of cube.last over the seat's translation. -/
namespace Go.Proofs.Ytcejppibcemdeaa
open Go.RowKit
open Cb
open Tw (pm)

end Go.Proofs.Ytcejppibcemdeaa

/- Contracts of cube.At, First and Last over the seat's translation: what hinders, and what they give. -/
namespace Go.Proofs.Ytcejppibcemdeaa
open Go.RowKit
open Cb
open Tw (pm)

/-- What hinders At. -/
def atE (l : Int) (t p : List (Nat × Nat)) : Int := hnd l (decide ((p.length : Int) = lgz t.length)) t p
/-- What hinders First and Last. -/
def fiE (l : Int) (t p : List (Nat × Nat)) : Int := hnd l (decide ((p.length : Int) ≤ lgz t.length)) t p
theorem hnd_zero {l : Int} {f : Bool} {t p : List (Nat × Nat)} (h : hnd l f t p = 0) : (0 ≤ l ∧ l ≤ 7) ∧ f = true ∧ (t.all fun e => ofB l (e.1 : Int) (e.2 : Int)) = true ∧ (p.all fun e => ofB l (e.1 : Int) (e.2 : Int)) = true := by
  unfold hnd at h
  by_cases h1 : 0 ≤ l ∧ l ≤ 7
  · rw [if_pos h1] at h
    by_cases h2 : f = true
    · rw [if_pos h2] at h
      by_cases h3 : (t.all fun e => ofB l (e.1 : Int) (e.2 : Int)) = true ∧ (p.all fun e => ofB l (e.1 : Int) (e.2 : Int)) = true
      · exact ⟨h1, h2, h3.1, h3.2⟩
      · rw [if_neg h3] at h; exact absurd h (by decide)
    · rw [if_neg h2] at h; exact absurd h (by decide)
  · rw [if_neg h1] at h; exact absurd h (by decide)
theorem hnd_mk {l : Int} {f : Bool} {t p : List (Nat × Nat)} (h1 : 0 ≤ l ∧ l ≤ 7) (h2 : f = true) (h3 : (t.all fun e => ofB l (e.1 : Int) (e.2 : Int)) = true) (h4 : (p.all fun e => ofB l (e.1 : Int) (e.2 : Int)) = true) : hnd l f t p = 0 := by
  unfold hnd; rw [if_pos h1, if_pos h2, if_pos ⟨h3, h4⟩]
theorem all_of {k : Nat} {t : List (Nat × Nat)} : (t.all fun e => ofB (k : Int) (e.1 : Int) (e.2 : Int)) = true ↔ ofT k t := by
  rw [List.all_eq_true]; rfl
theorem at_zero {l : Int} {t p : List (Nat × Nat)} (h : atE l t p = 0) : ∃ k : Nat, k < 8 ∧ l = (k : Int) ∧ p.length ≤ 16 ∧ t.length = 2 ^ p.length ∧ ofT k t ∧ ofT k p := by
  obtain ⟨⟨h1, h2⟩, h3, h4, h5⟩ := hnd_zero h
  obtain ⟨k, rfl⟩ := Int.eq_ofNat_of_zero_le h1
  have h6 := of_decide_eq_true h3
  rcases lgz_or t.length with e | ⟨n, hn, e1, e2⟩
  · omega
  · obtain rfl : p.length = n := by omega
    exact ⟨k, by omega, rfl, hn, e1, all_of.1 h4, all_of.1 h5⟩
theorem fi_zero {l : Int} {t p : List (Nat × Nat)} (h : fiE l t p = 0) : ∃ k m : Nat, k < 8 ∧ l = (k : Int) ∧ p.length + m ≤ 16 ∧ t.length = 2 ^ (p.length + m) ∧ ofT k t ∧ ofT k p := by
  obtain ⟨⟨h1, h2⟩, h3, h4, h5⟩ := hnd_zero h
  obtain ⟨k, rfl⟩ := Int.eq_ofNat_of_zero_le h1
  have h6 := of_decide_eq_true h3
  rcases lgz_or t.length with e | ⟨n, hn, e1, e2⟩
  · omega
  · obtain ⟨m, rfl⟩ : ∃ m, n = p.length + m := ⟨n - p.length, by omega⟩
    exact ⟨k, m, by omega, rfl, hn, e1, all_of.1 h4, all_of.1 h5⟩
theorem at_mk {k : Nat} {t p : List (Nat × Nat)} (hk : k < 8) (hp : p.length ≤ 16) (hl : t.length = 2 ^ p.length) (ot : ofT k t) (op : ofT k p) : atE (k : Int) t p = 0 := by
  refine hnd_mk ⟨by omega, by omega⟩ (decide_eq_true ?_) (all_of.2 ot) (all_of.2 op)
  rw [hl, lgz_two _ hp]
theorem fi_mk {k m : Nat} {t p : List (Nat × Nat)} (hk : k < 8) (hp : p.length + m ≤ 16) (hl : t.length = 2 ^ (p.length + m)) (ot : ofT k t) (op : ofT k p) : fiE (k : Int) t p = 0 := by
  refine hnd_mk ⟨by omega, by omega⟩ (decide_eq_true ?_) (all_of.2 ot) (all_of.2 op)
  rw [hl, lgz_two _ hp]; omega
/-- A room for an element. -/
structure Rm (W w : World) : Prop where
  room : Ew w W.heap.size 0 0
  d : Below W.heap.size W w
theorem Rm.below {W w w' : World} (h : Rm W w) (hb : Below w.heap.size w w') : Rm W w' := ⟨h.room.below hb, h.d.trans (hb.mono h.d.size)⟩
theorem Rm.start (W : World) : Rm W (W.alloc (Obj.cells #[.int .u64 0, .int .u64 0] 24)) := ⟨⟨⟨by simp [go_sem], by simp [go_sem]⟩, by simp [go_sem], by simp [go_sem]⟩, by go_grown⟩
end Go.Proofs.Ytcejppibcemdeaa
