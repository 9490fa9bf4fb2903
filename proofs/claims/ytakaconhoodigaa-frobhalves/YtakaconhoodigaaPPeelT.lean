/- The contract of linpoly's value over the seat's translation. -/
import Derived.Test.YtakaconhoodigaaLpA
import Derived.Test.YtakaconhoodigaaPeel
import Derived.BigQuiet
import Derived.Deep.AppendLies
import Derived.Test.YtakaconhoodigaaPSlA
namespace Go.Proofs.Ytakaconhoodigaa
open Go.RowKit

/-- An element that changes, and a room. -/
structure Gst (W w : World) (h l : Nat) : Prop where
  x : Ew w W.heap.size h l
  r : Ew w (W.heap.size + 1) 0 0
  d : Below W.heap.size W w
theorem Gst.below {W w w' : World} {h l : Nat} (k : Gst W w h l) (hb : Below w.heap.size w w') : Gst W w' h l := ⟨k.x.below hb, k.r.below hb, k.d.trans (hb.mono k.d.size)⟩
theorem Gst.drew {W w : World} {h l : Nat} (k : Gst W w h l) : Gst W w.drew h l := ⟨k.x.drew, k.r.drew, k.d.drew⟩
theorem Gst.put {W w : World} {h l : Nat} (k : Gst W w h l) (u v : Nat) : Gst W ((w.setCell ⟨W.heap.size, 0, none⟩ (.int .u64 (u : Int))).setCell ⟨W.heap.size, 1, none⟩ (.int .u64 (v : Int))) u v :=
  ⟨k.x.set _ _, k.r.other (by omega) _ _, below2 (p := W.heap.size) k.d (Nat.le_refl _) _ _⟩
theorem Gst.old {W w : World} {h l : Nat} (k : Gst W w h l) {a : Addr} {v : Value} (ha : a.block < W.heap.size) (hc : W.cell? a = some v) : w.cell? a = some v := by rw [k.d.cell ha]; exact hc
end Go.Proofs.Ytakaconhoodigaa

/- Contracts of linpoly.allOf, slices.Clone and linpoly's Dim, has and Value over the seat's translation. -/
namespace Go.Proofs.Ytakaconhoodigaa
open Go.RowKit

theorem flat_one (es : List (Nat × Nat)) : ∀ u ∈ flat es, u.oneCell' = true := by
  intro u hu
  unfold flat at hu
  obtain ⟨e, _, he⟩ := List.mem_flatMap.1 hu
  simp at he
  rcases he with rfl | rfl <;> rfl
theorem ERow.flatAt {w : World} {b off : Nat} {es : List (Nat × Nat)} (h : ERow w (some ⟨b, off, none⟩) es) (j : Nat) (u : Value) (hu : (flat es)[j]? = some u) : w.cell? ((⟨b, off, none⟩ : Addr).add j) = some u := by
  have hj : j < es.length * 2 := by
    rw [← flat_len]
    obtain ⟨h1, _⟩ := List.getElem?_eq_some_iff.1 hu
    exact h1
  have ha : (⟨b, off, none⟩ : Addr).add j = ⟨b, off + j, none⟩ := by unfold Addr.add; split <;> simp_all
  rw [ha]
  have hi : j / 2 < es.length := by omega
  obtain ⟨b2, off2, e, _, c1, c0⟩ := h.cells (j / 2) hi
  have hf := flat_at es (j / 2) hi
  simp only [Option.some.injEq, Addr.mk.injEq] at e
  obtain ⟨rfl, rfl, _⟩ := e
  rcases Nat.mod_two_eq_zero_or_one j with h2 | h2
  · have e2 : j / 2 * 2 = j := by omega
    rw [e2] at c1 hf
    rw [hf.1] at hu
    rw [c1]; exact hu
  · have e2 : j / 2 * 2 + 1 = j := by omega
    rw [Nat.add_assoc, e2] at c0
    rw [e2] at hf
    rw [hf.2] at hu
    rw [c0]; exact hu
end Go.Proofs.Ytakaconhoodigaa

/- The contract of linpoly.made for a basis of one element, over the seat's translation. -/
namespace Go.Proofs.Ytakaconhoodigaa
open Go.RowKit

theorem own_row2 {w : World} {base : Nat} {T : TypeId} {v : Value} {es : List (Nat × Nat)} (h : w.ownsRow base T 2 v es.length (flat es)) :
    ∃ a cap, v = .slice a es.length cap ∧ ERow w a es ∧ ∀ b off, a = some ⟨b, off, none⟩ → base ≤ b := by
  obtain ⟨a, cap, rfl, hE⟩ := own_row h
  exact ⟨a, cap, rfl, hE, fun b off e => by subst e; exact (h.lt b rfl).1⟩
theorem ERow.setOther {w : World} {a : Option Addr} {es : List (Nat × Nat)} (h : ERow w a es) {p o : Nat} (v : Value) (hne : ∀ b off, a = some ⟨b, off, none⟩ → b ≠ p) : ERow (w.setCell ⟨p, o, none⟩ v) a es := ⟨fun i hi => by
  obtain ⟨b, off, rfl, hb, c1, c0⟩ := h.cells i hi
  have hn := hne b off rfl
  have hn2 : ¬ p = b := fun e => hn e.symm
  exact ⟨b, off, rfl, by simpa [go_sem] using hb, by rw [World.cell?_setCell_other _ _ _ _ (fun e => hn2 (by injection e))]; exact c1, by rw [World.cell?_setCell_other _ _ _ _ (fun e => hn2 (by injection e))]; exact c0⟩⟩
/-- A space's cells while it is made. -/
structure Pst1 (W w : World) (l : Int) (b off cap : Nat) (vT vB : Value) : Prop where
  c0 : w.cell? ⟨W.heap.size, 0, none⟩ = some (.int .i64 l)
  c1 : w.cell? ⟨W.heap.size, 1, none⟩ = some (.slice (some ⟨b, off, none⟩) 1 cap)
  c2 : w.cell? ⟨W.heap.size, 2, none⟩ = some vT
  c3 : w.cell? ⟨W.heap.size, 3, none⟩ = some vB
  f2 : w.frozen? ⟨W.heap.size, 2, none⟩ = false
  f3 : w.frozen? ⟨W.heap.size, 3, none⟩ = false
  d : Below W.heap.size W w
theorem Pst1.below {W w w' : World} {l : Int} {b off cap : Nat} {vT vB : Value} (h : Pst1 W w l b off cap vT vB) (k : Below w.heap.size w w') : Pst1 W w' l b off cap vT vB :=
  ⟨keepc k h.c0, keepc k h.c1, keepc k h.c2, keepc k h.c3, keepf k h.c2 h.f2, keepf k h.c3 h.f3, h.d.trans (k.mono h.d.size)⟩
theorem Pst1.drew {W w : World} {l : Int} {b off cap : Nat} {vT vB : Value} (h : Pst1 W w l b off cap vT vB) : Pst1 W w.drew l b off cap vT vB := ⟨h.c0, h.c1, h.c2, h.c3, h.f2, h.f3, h.d.drew⟩
theorem Pst1.tops {W w : World} {l : Int} {b off cap : Nat} {vT vB : Value} (h : Pst1 W w l b off cap vT vB) (v : Value) : Pst1 W (w.setCell ⟨W.heap.size, 2, none⟩ v) l b off cap v vB :=
  ⟨by simp [go_sem, h.c0], by simp [go_sem, h.c1], by simp [go_sem, h.c2], by simp [go_sem, h.c3], by simp [go_sem, h.f2], by simp [go_sem, h.f3], h.d.setCell (Nat.le_refl _) _⟩
theorem Pst1.backs {W w : World} {l : Int} {b off cap : Nat} {vT vB : Value} (h : Pst1 W w l b off cap vT vB) (v : Value) : Pst1 W (w.setCell ⟨W.heap.size, 3, none⟩ v) l b off cap vT v :=
  ⟨by simp [go_sem, h.c0], by simp [go_sem, h.c1], by simp [go_sem, h.c2], by simp [go_sem, h.c3], by simp [go_sem, h.f2], by simp [go_sem, h.f3], h.d.setCell (Nat.le_refl _) _⟩
end Go.Proofs.Ytakaconhoodigaa

/- The contract of linpoly's value for any space: each value out of the one ahead of it. -/
namespace Go.Proofs.Ytakaconhoodigaa
open Go.RowKit
open Tw (pm)

/-- W(k) at x, reckoned out of the tops: (W + top) W. -/
def wv (l : Int) (ts : List (Nat × Nat)) (x : Nat × Nat) : Nat → Nat × Nat
  | 0 => x
  | k + 1 => mulv l (wv l ts x k) ((wv l ts x k).1 ^^^ (ts.getD k (0, 0)).1, (wv l ts x k).2 ^^^ (ts.getD k (0, 0)).2)
theorem mulv_lt (l : Int) (a b : Nat × Nat) : (mulv l a b).1 < 2 ^ 64 ∧ (mulv l a b).2 < 2 ^ 64 := by
  unfold mulv
  split
  · exact Tw.pm_lt _ _
  · exact ⟨Nat.two_pow_pos 64, Nat.two_pow_pos 64⟩
theorem mulv_zero (l : Int) (b : Nat × Nat) : mulv l (0, 0) b = (0, 0) := by
  unfold mulv
  split
  · rw [Tw.pm_comm', Tw.pm_none]
  · rfl
theorem wv_lt (l : Int) (ts : List (Nat × Nat)) (x : Nat × Nat) (h1 : x.1 < 2 ^ 64) (h2 : x.2 < 2 ^ 64) : ∀ k, (wv l ts x k).1 < 2 ^ 64 ∧ (wv l ts x k).2 < 2 ^ 64
  | 0 => ⟨h1, h2⟩
  | _ + 1 => mulv_lt _ _ _
theorem wv_zero (l : Int) (ts : List (Nat × Nat)) (x : Nat × Nat) (k : Nat) (h : wv l ts x k = (0, 0)) : ∀ d, wv l ts x (k + d) = (0, 0)
  | 0 => h
  | d + 1 => by
    show mulv l (wv l ts x (k + d)) _ = _
    rw [wv_zero l ts x k h d, mulv_zero]
end Go.Proofs.Ytakaconhoodigaa

/- A space while it is made: two rows that grow side by side. -/
namespace Go.Proofs.Ytakaconhoodigaa
open Go.RowKit

/-- A space's cells and its two rows. -/
structure Mk (W w : World) (l : Int) (vA vT vB : Value) (nT nB : Nat) (xT xB : List Value) : Prop where
  c0 : w.cell? ⟨W.heap.size, 0, none⟩ = some (.int .i64 l)
  c1 : w.cell? ⟨W.heap.size, 1, none⟩ = some vA
  c2 : w.cell? ⟨W.heap.size, 2, none⟩ = some vT
  c3 : w.cell? ⟨W.heap.size, 3, none⟩ = some vB
  f2 : w.frozen? ⟨W.heap.size, 2, none⟩ = false
  f3 : w.frozen? ⟨W.heap.size, 3, none⟩ = false
  oT : w.ownsRow (W.heap.size + 1) 24 2 vT nT xT
  oB : w.ownsRow (W.heap.size + 1) 24 2 vB nB xB
  ne : ∀ g h, vT.ownBlock = some g → vB.ownBlock = some h → g ≠ h
  d : Below W.heap.size W w
variable {W w wA w' : World} {l : Int} {vA vT vB v' : Value} {nT nB n' g : Nat} {xT xB x' : List Value}
theorem Mk.below (h : Mk W w l vA vT vB nT nB xT xB) (k : Below w.heap.size w w') : Mk W w' l vA vT vB nT nB xT xB :=
  ⟨keepc k h.c0, keepc k h.c1, keepc k h.c2, keepc k h.c3, keepf k h.c2 h.f2, keepf k h.c3 h.f3, own_below h.oT k, own_below h.oB k, h.ne, h.d.trans (k.mono h.d.size)⟩
theorem row_ne {base k n size : Nat} {T : TypeId} {v : Value} {xs : List Value} (h : w.ownsRow base T size v n xs) (hk : k < base) : some k ≠ v.ownBlock := fun e => by
  have := (h.lt k e.symm).1; omega
theorem grown_cell {row : Option Nat} (hgr : wA.grownBy w' row) {k o : Nat} (hk : k < wA.heap.size) (hn : some k ≠ row) : w'.cell? ⟨k, o, none⟩ = wA.cell? ⟨k, o, none⟩ := World.cell?_of_block (a := ⟨k, o, none⟩) (hgr.block k hk hn)
theorem grown_frozen {row : Option Nat} (hgr : wA.grownBy w' row) {k o : Nat} (hk : k < wA.heap.size) (hn : some k ≠ row) : w'.frozen? ⟨k, o, none⟩ = wA.frozen? ⟨k, o, none⟩ := World.frozen?_of_block (a := ⟨k, o, none⟩) (hgr.block k hk hn)
theorem Mk.tops (h : Mk W w l vA vT vB nT nB xT xB) (BA : Below w.heap.size w wA) (hgr : wA.grownBy w' vT.ownBlock) (own' : w'.ownsRow (W.heap.size + 1) 24 2 v' n' x') (hv : v'.ownBlock = some g) (hl : vT.ownBlock = some g ∨ g = wA.heap.size) :
    Mk W (w'.setCell ⟨W.heap.size, 2, none⟩ v') l vA v' vB n' nB x' xB := by
  have K := h.below BA
  have hP : W.heap.size < wA.heap.size := cell_lt K.c0
  have hn : some W.heap.size ≠ vT.ownBlock := row_ne K.oT (by omega)
  have e : ∀ o, w'.cell? ⟨W.heap.size, o, none⟩ = wA.cell? ⟨W.heap.size, o, none⟩ := fun o => grown_cell hgr hP hn
  have f : ∀ o, w'.frozen? ⟨W.heap.size, o, none⟩ = wA.frozen? ⟨W.heap.size, o, none⟩ := fun o => grown_frozen hgr hP hn
  refine ⟨?_, ?_, ?_, ?_, ?_, ?_, ownsRow_setCell_below own' (by show W.heap.size < W.heap.size + 1; omega) _, ownsRow_setCell_below (K.oB.kept hgr ?_) (by show W.heap.size < W.heap.size + 1; omega) _, ?_, (K.d.grown hgr K.d.size (fun k hk => by have := (K.oT.lt k hk).1; omega)).setCell (Nat.le_refl _) _⟩
  · simp [go_sem, e, K.c0]
  · simp [go_sem, e, K.c1]
  · simp [go_sem, e, K.c2]
  · simp [go_sem, e, K.c3]
  · simp [go_sem, f, K.f2]
  · simp [go_sem, f, K.f3]
  · cases hB : vB.ownBlock with
    | none => exact .inl rfl
    | some b => exact .inr fun e => h.ne b b e.symm hB rfl
  · intro g1 h1 e1 e2
    rw [hv] at e1
    obtain rfl := Option.some.inj e1
    rcases hl with hl | rfl
    · exact h.ne _ _ hl e2
    · have := (K.oB.lt h1 e2).2; omega
theorem Mk.backs (h : Mk W w l vA vT vB nT nB xT xB) (BA : Below w.heap.size w wA) (hgr : wA.grownBy w' vB.ownBlock) (own' : w'.ownsRow (W.heap.size + 1) 24 2 v' n' x') (hv : v'.ownBlock = some g) (hl : vB.ownBlock = some g ∨ g = wA.heap.size) :
    Mk W (w'.setCell ⟨W.heap.size, 3, none⟩ v') l vA vT v' nT n' xT x' := by
  have K := h.below BA
  have hP : W.heap.size < wA.heap.size := cell_lt K.c0
  have hn : some W.heap.size ≠ vB.ownBlock := row_ne K.oB (by omega)
  have e : ∀ o, w'.cell? ⟨W.heap.size, o, none⟩ = wA.cell? ⟨W.heap.size, o, none⟩ := fun o => grown_cell hgr hP hn
  have f : ∀ o, w'.frozen? ⟨W.heap.size, o, none⟩ = wA.frozen? ⟨W.heap.size, o, none⟩ := fun o => grown_frozen hgr hP hn
  refine ⟨?_, ?_, ?_, ?_, ?_, ?_, ownsRow_setCell_below (K.oT.kept hgr ?_) (by show W.heap.size < W.heap.size + 1; omega) _, ownsRow_setCell_below own' (by show W.heap.size < W.heap.size + 1; omega) _, ?_, (K.d.grown hgr K.d.size (fun k hk => by have := (K.oB.lt k hk).1; omega)).setCell (Nat.le_refl _) _⟩
  · simp [go_sem, e, K.c0]
  · simp [go_sem, e, K.c1]
  · simp [go_sem, e, K.c2]
  · simp [go_sem, e, K.c3]
  · simp [go_sem, f, K.f2]
  · simp [go_sem, f, K.f3]
  · cases hT : vT.ownBlock with
    | none => exact .inl rfl
    | some b => exact .inr fun e => h.ne b b hT e.symm rfl
  · intro g1 h1 e1 e2
    rw [hv] at e2
    obtain rfl := Option.some.inj e2
    rcases hl with hl | rfl
    · exact h.ne _ _ e1 hl
    · have := (K.oT.lt g1 e1).2; omega
end Go.Proofs.Ytakaconhoodigaa

/- The contract of linpoly.made for any basis, over the seat's translation. -/
namespace Go.Proofs.Ytakaconhoodigaa
open Go.RowKit

theorem own_erow {w : World} {base : Nat} {T : TypeId} {a : Option Addr} {cap : Nat} {es : List (Nat × Nat)} (h : w.ownsRow base T 2 (.slice a es.length cap) es.length (flat es)) : ERow w a es := by
  obtain ⟨a', cap', e, hE⟩ := own_row h
  injection e with e1
  rw [e1]; exact hE
theorem ltE.snoc {es : List (Nat × Nat)} (h : ltE es) {e : Nat × Nat} (h1 : e.1 < 2 ^ 64 ∧ e.2 < 2 ^ 64) : ltE (es ++ [e]) := fun x hx => by
  rcases List.mem_append.1 hx with h2 | h2
  · exact h x h2
  · rw [List.mem_singleton.1 h2]; exact h1
/-- The tops are the values of W at the basis. -/
def TopsOk (l : Int) (ts es : List (Nat × Nat)) : Prop := ∀ i, i < ts.length → ts.getD i (0, 0) = wv l ts (es.getD i (0, 0)) i
theorem wv_more (l : Int) (ts : List (Nat × Nat)) (y x : Nat × Nat) : ∀ k, k ≤ ts.length → wv l (ts ++ [y]) x k = wv l ts x k
  | 0, _ => rfl
  | k + 1, h => by
    have e : (ts ++ [y]).getD k (0, 0) = ts.getD k (0, 0) := by simp [List.getD, List.getElem?_append_left (show k < ts.length from h)]
    show mulv l (wv l (ts ++ [y]) x k) _ = mulv l (wv l ts x k) _
    rw [wv_more l ts y x k (by omega), e]
theorem TopsOk.snoc {l : Int} {ts es : List (Nat × Nat)} {y : Nat × Nat} (h : TopsOk l ts es) (hy : wv l ts (es.getD ts.length (0, 0)) ts.length = y) : TopsOk l (ts ++ [y]) es := fun i hi => by
  rw [List.length_append, List.length_singleton] at hi
  rw [wv_more l ts y _ i (by omega)]
  by_cases h1 : i < ts.length
  · rw [← h i h1]; simp [List.getD, List.getElem?_append_left h1]
  · obtain rfl : i = ts.length := by omega
    rw [hy]; simp [List.getD]
end Go.Proofs.Ytakaconhoodigaa

/- Rows of a list of one element: contracts of span's long, reduce and add over the seat's translation. -/
namespace Go.Proofs.Ytakaconhoodigaa
open Go.RowKit

theorem long_one : Ret 65 #[.agg #[.int .u64 0, .int .u64 1]] (.int .i64 1) := by
  have := long_low 1 1 (fun W => by have := len64_any 1 W (by decide) (by decide); exact this)
  exact this
set_option maxHeartbeats 1000000 in
/-- Nothing is taken where there are no rows. -/
theorem reduce_none (v : Value) (xh xl : Nat) : Ret 55 #[.agg #[.slice none 0 0, v], .agg #[.int .u64 (xh : Int), .int .u64 (xl : Int)]] (.tuple #[.agg #[.int .u64 (xh : Int), .int .u64 (xl : Int)], .agg #[.int .u64 0, .int .u64 0]]) := by
  intro W
  go_enter Try.func55, Try.ntmps55
  go_wp2_with fail
  go_rounds 1
  go_region
  all_goals
    go_wp2
    refine bodyPost_ret (v := .tuple #[.agg #[.int .u64 (xh : Int), .int .u64 (xl : Int)], .agg #[.int .u64 0, .int .u64 0]]) (by simp [results, Try.results55, go_sem]) rfl ⟨rfl, ?_⟩
    go_grown
end Go.Proofs.Ytakaconhoodigaa

/- Rows of any list: contracts of span's long and has over the seat's translation (SnA). -/
namespace Go.Proofs.Ytakaconhoodigaa
theorem lp_s : True := trivial
end Go.Proofs.Ytakaconhoodigaa

/- As Peel, for a region whose last two operations wait for all others. -/
namespace Go
section
variable {P : Program} {Q : Exit → Act → World → Prop}

/-- A region that draws its order, without its last two operations: what S says need not hold behind the first of them. -/
theorem wp_region_peel2 {id : Nat} {ops' : Array Oper} {a : Act} {w : World} {S : World → Prop} (n : Nat) (hm : P.follows .mixedOrders = true) (hn : ops'.size = n + 1 + 1) (hp : peelsB ops' (n + 1) = true) (hp2 : peelsB ops'.pop n = true) (hS : S w.drew)
    (h : S w.drew → wpAnyH P .any ops'.pop.pop (peelQ P ops'.pop n (peelQ P ops' (n + 1) Q)) S n (Array.replicate n false) a w.drew) : (Code.region id ops' true).wp P Q a w := by
  obtain ⟨st, p⟩ := peels_of hn hp
  have hn2 : ops'.pop.size = n + 1 := by rw [Array.size_pop, hn]; omega
  obtain ⟨st2, p2⟩ := peels_of hn2 hp2
  refine wp_region_any hm ?_
  have cl : ∀ (ops : Array Oper) k, Closed .any ops (Array.replicate k false) := fun ops k i o _ hi => by
    simp only [Array.getD_eq_getD_getElem?, Array.getElem?_replicate] at hi
    split at hi <;> cases hi
  have h1 := wpAny_peel p2 n (Array.replicate n false) a w.drew (by simp) (cl _ _) (wpAny_of_held _ _ _ _ (h hS))
  rw [← Array.replicate_succ] at h1
  have := wpAny_peel p (n + 1) (Array.replicate (n + 1) false) a w.drew (by simp) (cl _ _) h1
  rw [hn, Array.replicate_succ]
  exact this
end
end Go
