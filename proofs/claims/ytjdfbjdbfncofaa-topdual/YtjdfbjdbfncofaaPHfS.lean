/- Struct variables that are laid and filled in one region, in whatever order: what is known of each, by what has come up. -/
import Derived.Test.YtjdfbjdbfncofaaPIvA
import Derived.Test.YtjdfbjdbfncofaaTwBl
import Derived.Test.YtjdfbjdbfncofaaPSlA
import Derived.Test.YtjdfbjdbfncofaaSqD
namespace Go.Proofs.Ytjdfbjdbfncofaa
open Go.RowKit

/-- A variable: the number of its alloc, of its store, its block, its pointer, and what is stored. -/
structure Va where
  ia : Nat
  is : Nat
  q : Nat
  p : Value
  v : Nat × Nat
structure VaOk (N : Nat) (w : World) (L : Nat → Bool) (x : Va) : Prop where
  late : L x.is = true → L x.ia = true
  ptr : L x.ia = true → x.p = .pointer (some ⟨x.q, 0, none⟩)
  low : L x.ia = true → N ≤ x.q
  room : L x.ia = true → ∃ c : Nat × Nat, Ew w x.q c.1 c.2 ∧ (L x.is = true → c = x.v)
theorem VaOk.below {N : Nat} {w w' : World} {L : Nat → Bool} {x : Va} (h : VaOk N w L x) (hb : Below w.heap.size w w') : VaOk N w' L x :=
  ⟨h.late, h.ptr, h.low, fun e => by obtain ⟨c, h1, h2⟩ := h.room e; exact ⟨c, h1.below hb, h2⟩⟩
theorem VaOk.same {N : Nat} {w : World} {L L' : Nat → Bool} {x : Va} (h : VaOk N w L x) (h1 : L' x.ia = L x.ia) (h2 : L' x.is = L x.is) : VaOk N w L' x := by
  obtain ⟨a, b, c, d⟩ := h
  refine ⟨?_, ?_, ?_, ?_⟩ <;> rw [h1] <;> (try rw [h2]) <;> assumption
theorem VaOk.lt {N : Nat} {w : World} {L : Nat → Bool} {x : Va} (h : VaOk N w L x) (e : L x.ia = true) : x.q < w.heap.size := by
  obtain ⟨c, h1, _⟩ := h.room e
  exact h1.lt
/-- All of them. -/
structure Vas (N : Nat) (w : World) (L : Nat → Bool) (l : List Va) : Prop where
  ok : ∀ x ∈ l, VaOk N w L x
  apart : l.Pairwise fun x y => L x.ia = true → L y.ia = true → x.q ≠ y.q
/-- The numbers. -/
def nums (l : List Va) : List Nat := l.flatMap fun x => [x.ia, x.is]
theorem nums_mem {l : List Va} {x : Va} (h : x ∈ l) : x.ia ∈ nums l ∧ x.is ∈ nums l := by
  unfold nums
  exact ⟨List.mem_flatMap.2 ⟨x, h, by simp⟩, List.mem_flatMap.2 ⟨x, h, by simp⟩⟩
theorem Vas.below {N : Nat} {w w' : World} {L : Nat → Bool} {l : List Va} (h : Vas N w L l) (hb : Below w.heap.size w w') : Vas N w' L l :=
  ⟨fun x hx => (h.ok x hx).below hb, h.apart⟩
/-- Another operation comes up. -/
theorem Vas.step {N : Nat} {w : World} {L : Nat → Bool} {l : List Va} (h : Vas N w L l) {i : Nat} (hi : i ∉ nums l) : Vas N w (setL L i) l := by
  have h1 : ∀ x ∈ l, setL L i x.ia = L x.ia ∧ setL L i x.is = L x.is := fun x hx => ⟨setL_other L fun e => hi (e ▸ (nums_mem hx).1), setL_other L fun e => hi (e ▸ (nums_mem hx).2)⟩
  refine ⟨fun x hx => (h.ok x hx).same (h1 x hx).1 (h1 x hx).2, ?_⟩
  refine List.Pairwise.imp_of_mem (fun {x y} hx hy hxy => ?_) h.apart
  rw [(h1 x hx).1, (h1 y hy).1]; exact hxy
/-- One is laid. -/
theorem Vas.laid {N : Nat} {w : World} {L : Nat → Bool} {l1 l2 : List Va} {x : Va} {T : TypeId} (h : Vas N w L (l1 ++ x :: l2)) (hL : L x.ia = false) (hN : N ≤ w.heap.size) (hd : (nums (l1 ++ x :: l2)).Nodup) :
    Vas N (w.alloc (Obj.cells #[.int .u64 0, .int .u64 0] T)) (setL L x.ia) (l1 ++ { x with q := w.heap.size, p := .pointer (some ⟨w.heap.size, 0, none⟩) } :: l2) := by
  have hb : Below w.heap.size w (w.alloc (Obj.cells #[.int .u64 0, .int .u64 0] T)) := (Below.refl _ _).alloc (Nat.le_refl _) _
  have hn := hd
  unfold nums at hn
  rw [List.flatMap_append, List.flatMap_cons] at hn
  obtain ⟨_, h2, h3⟩ := List.nodup_append.1 hn
  obtain ⟨h4, h5, h6⟩ := List.nodup_append.1 h2
  have hxi : x.is ≠ x.ia := fun e => by simp [e] at h4
  have hs : L x.is = false := by
    cases hb : L x.is with
    | false => rfl
    | true => rw [(h.ok x (by simp)).late hb] at hL; cases hL
  have hne : ∀ y, y ∈ l1 ∨ y ∈ l2 → y.ia ≠ x.ia ∧ y.is ≠ x.ia := fun y hy => by
    rcases hy with hy | hy
    · have m := nums_mem hy
      exact ⟨fun e => h3 _ m.1 _ (by simp) e, fun e => h3 _ m.2 _ (by simp) e⟩
    · have m := nums_mem hy
      exact ⟨fun e => h6 x.ia (by simp) _ m.1 e.symm, fun e => h6 x.ia (by simp) _ m.2 e.symm⟩
  have hin : ∀ y, y ∈ l1 ∨ y ∈ l2 → y ∈ l1 ++ x :: l2 := fun y hy => by rcases hy with hy | hy <;> simp [hy]
  have old : ∀ y, y ∈ l1 ∨ y ∈ l2 → VaOk N (w.alloc (Obj.cells #[.int .u64 0, .int .u64 0] T)) (setL L x.ia) y := fun y hy => ((h.ok y (hin y hy)).below hb).same (setL_other L (hne y hy).1) (setL_other L (hne y hy).2)
  have new : VaOk N (w.alloc (Obj.cells #[.int .u64 0, .int .u64 0] T)) (setL L x.ia) { x with q := w.heap.size, p := .pointer (some ⟨w.heap.size, 0, none⟩) } := by
    refine ⟨fun _ => setL_same _ _, fun _ => rfl, fun _ => hN, fun _ => ⟨(0, 0), ⟨⟨by simp [go_sem], by simp [go_sem]⟩, by simp [go_sem], by simp [go_sem]⟩, fun e => ?_⟩⟩
    have e' : setL L x.ia x.is = true := e
    rw [setL_other L hxi, hs] at e'
    cases e'
  refine ⟨fun y hy => ?_, ?_⟩
  · rcases List.mem_append.1 hy with hy | hy
    · exact old y (.inl hy)
    · rcases List.mem_cons.1 hy with rfl | hy
      · exact new
      · exact old y (.inr hy)
  · have hp := h.apart
    rw [List.pairwise_append, List.pairwise_cons] at hp ⊢
    obtain ⟨p1, ⟨p2, p3⟩, p4⟩ := hp
    have lt : ∀ y, y ∈ l1 ∨ y ∈ l2 → setL L x.ia y.ia = true → y.q < w.heap.size := fun y hy e => by
      rw [setL_other L (hne y hy).1] at e
      exact (h.ok y (hin y hy)).lt e
    refine ⟨List.Pairwise.imp_of_mem (fun {y z} hy hz hyz => ?_) p1, ⟨fun y hy _ e => ?_, List.Pairwise.imp_of_mem (fun {y z} hy hz hyz => ?_) p3⟩, fun y hy z hz => ?_⟩
    · rw [setL_other L (hne y (.inl hy)).1, setL_other L (hne z (.inl hz)).1]; exact hyz
    · have := lt y (.inr hy) e
      show w.heap.size ≠ y.q
      omega
    · rw [setL_other L (hne y (.inr hy)).1, setL_other L (hne z (.inr hz)).1]; exact hyz
    · rcases List.mem_cons.1 hz with rfl | hz
      · intro e _
        have := lt y (.inl hy) e
        show y.q ≠ w.heap.size
        omega
      · rw [setL_other L (hne y (.inl hy)).1, setL_other L (hne z (.inr hz)).1]
        exact p4 y hy z (List.mem_cons_of_mem _ hz)
/-- One is filled. -/
theorem Vas.fill {N : Nat} {w : World} {L : Nat → Bool} {l1 l2 : List Va} {x : Va} (h : Vas N w L (l1 ++ x :: l2)) (hL : L x.ia = true) (hall : ∀ y, y ∈ l1 ∨ y ∈ l2 → L y.ia = true) (hd : (nums (l1 ++ x :: l2)).Nodup) :
    Vas N ((w.setCell ⟨x.q, 0, none⟩ (.int .u64 (x.v.1 : Int))).setCell ⟨x.q, 1, none⟩ (.int .u64 (x.v.2 : Int))) (setL L x.is) (l1 ++ x :: l2) := by
  have hn := hd
  unfold nums at hn
  rw [List.flatMap_append, List.flatMap_cons] at hn
  obtain ⟨_, h2, h3⟩ := List.nodup_append.1 hn
  obtain ⟨h4, h5, h6⟩ := List.nodup_append.1 h2
  have hxi : x.ia ≠ x.is := fun e => by simp [e] at h4
  have hne : ∀ y, y ∈ l1 ∨ y ∈ l2 → y.ia ≠ x.is ∧ y.is ≠ x.is := fun y hy => by
    rcases hy with hy | hy
    · have m := nums_mem hy
      exact ⟨fun e => h3 _ m.1 _ (by simp) e, fun e => h3 _ m.2 _ (by simp) e⟩
    · have m := nums_mem hy
      exact ⟨fun e => h6 x.is (by simp) _ m.1 e.symm, fun e => h6 x.is (by simp) _ m.2 e.symm⟩
  have hin : ∀ y, y ∈ l1 ∨ y ∈ l2 → y ∈ l1 ++ x :: l2 := fun y hy => by rcases hy with hy | hy <;> simp [hy]
  have hp := h.apart
  rw [List.pairwise_append, List.pairwise_cons] at hp
  obtain ⟨p1, ⟨p2, p3⟩, p4⟩ := hp
  have hq : ∀ y, y ∈ l1 ∨ y ∈ l2 → x.q ≠ y.q := fun y hy => by
    rcases hy with hy | hy
    · exact fun e => p4 y hy x (List.mem_cons_self ..) (hall y (.inl hy)) hL e.symm
    · exact p2 y hy hL (hall y (.inr hy))
  have old : ∀ y, y ∈ l1 ∨ y ∈ l2 → VaOk N ((w.setCell ⟨x.q, 0, none⟩ (.int .u64 (x.v.1 : Int))).setCell ⟨x.q, 1, none⟩ (.int .u64 (x.v.2 : Int))) (setL L x.is) y := fun y hy => by
    refine VaOk.same (L := L) ?_ (setL_other L (hne y hy).1) (setL_other L (hne y hy).2)
    obtain ⟨a, b, c, d⟩ := h.ok y (hin y hy)
    exact ⟨a, b, c, fun e => by obtain ⟨z, h1, h2⟩ := d e; exact ⟨z, h1.other (hq y hy) _ _, h2⟩⟩
  have hx := h.ok x (by simp)
  obtain ⟨c, hc, _⟩ := hx.room hL
  refine ⟨fun y hy => ?_, ?_⟩
  · rcases List.mem_append.1 hy with hy | hy
    · exact old y (.inl hy)
    · rcases List.mem_cons.1 hy with rfl | hy
      · exact ⟨fun _ => setL_true hL, fun _ => hx.ptr hL, fun _ => hx.low hL, fun _ => ⟨y.v, hc.set _ _, fun _ => rfl⟩⟩
      · exact old y (.inr hy)
  · refine List.Pairwise.imp_of_mem (fun {y z} hy hz hyz => ?_) h.apart
    have e : ∀ y, y ∈ l1 ++ x :: l2 → L y.ia = true := fun y hy => by
      rcases List.mem_append.1 hy with hy | hy
      · exact hall y (.inl hy)
      · rcases List.mem_cons.1 hy with rfl | hy
        · exact hL
        · exact hall y (.inr hy)
    exact fun _ _ => hyz (e y hy) (e z hz)
theorem ERow.offV {w : World} {a : Option Addr} {es : List (Nat × Nat)} (e : ERow w a es) {b : Nat} (hn : 0 < es.length → ∀ g off, a = some ⟨g, off, none⟩ → g ≠ b) (o o' : Nat) (u v : Value) : ERow ((w.setCell ⟨b, o, none⟩ u).setCell ⟨b, o', none⟩ v) a es := ⟨fun i hi => by
  obtain ⟨g, off, e1, e2, e3, e4⟩ := e.cells i hi
  have hg := hn (by omega) g off e1
  have hg' : b ≠ g := fun h => hg h.symm
  exact ⟨g, off, e1, by simpa [World.setCell] using e2, by simp [go_sem, *], by simp [go_sem, *]⟩⟩
theorem VaOk.el {N : Nat} {w : World} {L : Nat → Bool} {x : Va} (h : VaOk N w L x) (e : L x.is = true) : El w x.q x.v.1 x.v.2 := by
  obtain ⟨c, h1, h2⟩ := h.room (h.late e)
  have := h2 e
  subst this
  exact h1.toEl
theorem Vas.start {N : Nat} {w : World} {L : Nat → Bool} {l : List Va} (h : ∀ x ∈ l, L x.ia = false ∧ L x.is = false) : Vas N w L l :=
  ⟨fun x hx => ⟨fun e => absurd e (by simp [(h x hx).2]), fun e => absurd e (by simp [(h x hx).1]), fun e => absurd e (by simp [(h x hx).1]), fun e => absurd e (by simp [(h x hx).1])⟩,
    List.Pairwise.imp_of_mem (R := fun _ _ => True) (fun {x y} hx _ _ e => absurd e (by simp [(h x hx).1])) (List.pairwise_of_forall fun _ _ => trivial)⟩
theorem all_setL {L : Nat → Bool} {l : List Nat} (i : Nat) (h : (l.all fun j => L j) = true) : (l.all fun j => setL L i j) = true := by
  rw [List.all_eq_true] at h ⊢
  exact fun j hj => setL_true (h j hj)
theorem setL_un {L : Nat → Bool} {i j : Nat} {X : Prop} (h : j ≠ i) (f : L j = true → X) : setL L i j = true → X := fun e => f (by rwa [setL_other L h] at e)
theorem all_at {L : Nat → Bool} {l : List Nat} (h : (l.all fun j => L j) = true) (i : Nat) (hi : l.contains i = true) : L i = true := List.all_eq_true.1 h i (List.contains_iff_mem.1 hi)
/-- A row that a call gives in the region. -/
structure RoOk (w : World) (L : Nat → Bool) (ic : Nat) (v : Value) (es : List (Nat × Nat)) (l : List Va) : Prop where
  row : L ic = true → ∃ a cap, v = .slice a es.length cap ∧ ERow w a es ∧ (0 < es.length → ∀ g off, a = some ⟨g, off, none⟩ → g < w.heap.size ∧ ∀ x ∈ l, L x.ia = true → x.q ≠ g)
theorem RoOk.below {w w' : World} {L : Nat → Bool} {ic : Nat} {v : Value} {es : List (Nat × Nat)} {l : List Va} (h : RoOk w L ic v es l) (hb : Below w.heap.size w w') : RoOk w' L ic v es l :=
  ⟨fun e => by obtain ⟨a, cap, h1, h2, h3⟩ := h.row e; exact ⟨a, cap, h1, h2.below hb, fun h0 g off he => ⟨Nat.lt_of_lt_of_le (h3 h0 g off he).1 hb.size, (h3 h0 g off he).2⟩⟩⟩
theorem RoOk.start {w : World} {L : Nat → Bool} {ic : Nat} {v : Value} {es : List (Nat × Nat)} {l : List Va} (h : L ic = false) : RoOk w L ic v es l := ⟨fun e => absurd e (by simp [h])⟩
theorem RoOk.step {w : World} {L : Nat → Bool} {ic : Nat} {v : Value} {es : List (Nat × Nat)} {l : List Va} (h : RoOk w L ic v es l) {i : Nat} (hi : i ∉ nums l) (hc : i ≠ ic) : RoOk w (setL L i) ic v es l :=
  ⟨fun e => by
    rw [setL_other L (fun h => hc h.symm)] at e
    obtain ⟨a, cap, h1, h2, h3⟩ := h.row e
    exact ⟨a, cap, h1, h2, fun h0 g off he => ⟨(h3 h0 g off he).1, fun x hx ex => (h3 h0 g off he).2 x hx (by rwa [setL_other L (show x.ia ≠ i from fun e => hi (e ▸ (nums_mem hx).1))] at ex)⟩⟩⟩
theorem RoOk.call {N : Nat} {w w' : World} {L : Nat → Bool} {ic : Nat} {v : Value} {es : List (Nat × Nat)} {l : List Va} {T : TypeId} (h : Vas N w L l) (hi : ic ∉ nums l) (ho : w'.ownsRow w.heap.size T 2 v es.length (flat es)) : RoOk w' (setL L ic) ic v es l :=
  ⟨fun _ => by
    obtain ⟨a, cap, rfl, hr⟩ := own_row ho
    refine ⟨a, cap, rfl, hr, fun h0 g off he => ?_⟩
    subst he
    obtain ⟨b, off', e1, e2, _⟩ := hr.cells 0 h0
    injection e1 with e1; injection e1 with e1 _; subst e1
    refine ⟨e2, fun x hx ex => ?_⟩
    rw [setL_other L (show x.ia ≠ ic from fun e => hi (e ▸ (nums_mem hx).1))] at ex
    have := (h.ok x hx).lt ex
    rcases ho.2 with ⟨h1, _⟩ | ⟨g', cap', cur, h1, h2, _⟩
    · cases h1
    · injection h1 with h1 _ _; injection h1 with h1; injection h1 with h1 _ _; omega⟩
theorem RoOk.laid {w : World} {L : Nat → Bool} {ic : Nat} {v : Value} {es : List (Nat × Nat)} {l1 l2 : List Va} {x : Va} {T : TypeId} (h : RoOk w L ic v es (l1 ++ x :: l2)) (hc : x.ia ≠ ic) (hd : (nums (l1 ++ x :: l2)).Nodup) :
    RoOk (w.alloc (Obj.cells #[.int .u64 0, .int .u64 0] T)) (setL L x.ia) ic v es (l1 ++ { x with q := w.heap.size, p := .pointer (some ⟨w.heap.size, 0, none⟩) } :: l2) := by
  have hb : Below w.heap.size w (w.alloc (Obj.cells #[.int .u64 0, .int .u64 0] T)) := (Below.refl _ _).alloc (Nat.le_refl _) _
  have hn := hd
  unfold nums at hn
  rw [List.flatMap_append, List.flatMap_cons] at hn
  obtain ⟨_, h2, h3⟩ := List.nodup_append.1 hn
  obtain ⟨h4, h5, h6⟩ := List.nodup_append.1 h2
  have hne : ∀ y, y ∈ l1 ∨ y ∈ l2 → y.ia ≠ x.ia := fun y hy => by
    rcases hy with hy | hy
    · exact fun e => h3 _ (nums_mem hy).1 _ (by simp) e
    · exact fun e => h6 x.ia (by simp) _ (nums_mem hy).1 e.symm
  refine ⟨fun e => ?_⟩
  rw [setL_other L (fun h => hc h.symm)] at e
  obtain ⟨a, cap, g1, g2, g3⟩ := h.row e
  refine ⟨a, cap, g1, g2.below hb, fun h0 g off he => ⟨Nat.lt_of_lt_of_le (g3 h0 g off he).1 hb.size, fun y hy ey => ?_⟩⟩
  have hg := g3 h0 g off he
  rcases List.mem_append.1 hy with hy | hy
  · exact hg.2 y (by simp [hy]) (by rwa [setL_other L (hne y (.inl hy))] at ey)
  · rcases List.mem_cons.1 hy with rfl | hy
    · show w.heap.size ≠ g
      omega
    · exact hg.2 y (by simp [hy]) (by rwa [setL_other L (hne y (.inr hy))] at ey)
theorem RoOk.fill {w : World} {L : Nat → Bool} {ic : Nat} {v : Value} {es : List (Nat × Nat)} {l : List Va} (h : RoOk w L ic v es l) {x : Va} (hx : x ∈ l) (hL : L x.ia = true) (hc : x.is ≠ ic) (hd : ∀ y ∈ l, y.ia ≠ x.is) :
    RoOk ((w.setCell ⟨x.q, 0, none⟩ (.int .u64 (x.v.1 : Int))).setCell ⟨x.q, 1, none⟩ (.int .u64 (x.v.2 : Int))) (setL L x.is) ic v es l :=
  ⟨fun e => by
    rw [setL_other L (fun h => hc h.symm)] at e
    obtain ⟨a, cap, g1, g2, g3⟩ := h.row e
    refine ⟨a, cap, g1, g2.offV (fun h0 g off he => fun e => (g3 h0 g off he).2 x hx hL e.symm) _ _ _ _, fun h0 g off he => ⟨by simpa [World.setCell] using (g3 h0 g off he).1, fun y hy ey => (g3 h0 g off he).2 y hy (by rwa [setL_other L (hd y hy)] at ey)⟩⟩⟩
end Go.Proofs.Ytjdfbjdbfncofaa

/- span.Solve over the seat's translation, where neither sorting nor Basis is in it: cut out of SqQ, SqH, SqI, SqW and SqX. -/
namespace Go.Proofs.Ytjdfbjdbfncofaa
open Go.RowKit
open Cb Rg Sq

theorem hs_ext {x y : Nat × Nat} (hx : lt2 x) (hy : lt2 y) (h : ∀ b, b < 128 → hs x b = hs y b) : x = y := by
  have e := hs_none (lt_xa hx hy) fun b hb => by rw [hs_xa, h b hb]; simp
  have := xa_back x y
  rw [e, xa_zero] at this
  exact this
theorem bx_pick (c : Nat → Bool) (b : Nat) : ∀ n, bx n (fun v => c v && decide (b = v)) = (decide (b < n) && c b)
  | 0 => by simp [bx]
  | n + 1 => by
    unfold bx
    rw [bx_pick c b n]
    by_cases h : b = n
    · subst h; simp
    · by_cases h2 : b < n
      · simp [h, h2, show b < n + 1 by omega]
      · simp [h, h2, show ¬ b < n + 1 by omega]
theorem bx_congr {f g : Nat → Bool} : ∀ n, (∀ i, i < n → f i = g i) → bx n f = bx n g
  | 0, _ => rfl
  | n + 1, h => by unfold bx; rw [bx_congr n (fun i hi => h i (by omega)), h n (by omega)]
/-- A sum of bits has these bits. -/
theorem hs_bits (c : Nat → Bool) (n b : Nat) (hn : n ≤ 128) (hb : b < 128) : hs (xs n fun v => sl (c v) (bv (v : Int))) b = (decide (b < n) && c b) := by
  rw [hs_xs, bx_congr n (g := fun v => c v && decide (b = v)) fun v hv => ?_, bx_pick]
  rw [hs_sl]
  congr 1
  exact bv_has v b (by omega) hb
/-- eliminate, and what its rows leave. -/
theorem elim_red (a : Option Addr) (cap : Nat) (l : List (Nat × Nat)) (hl : ltE l) (h128 : l.length ≤ 128) (W : World) (hr : ERow W a l) :
    Calls Try.prog 43 #[.slice a l.length cap] W fun e w' => ∃ a0 n0 a1 n1, e = .returned (.agg #[.slice a0 (elm l l.length).1.length n0, .slice a1 (elm l l.length).2.length n1]) ∧ w'.ownsRow W.heap.size 95 4 (.slice a0 (elm l l.length).1.length n0) (elm l l.length).1.length (flatR (elm l l.length).1) ∧ w'.ownsRow W.heap.size 3 1 (.slice a1 (elm l l.length).2.length n1) (elm l l.length).2.length (ints (elm l l.length).2) ∧
      (∀ w2, Below w'.heap.size w' w2 → ∀ x : Nat × Nat, lt2 x → Calls Try.prog 44 #[.agg #[.slice a0 (elm l l.length).1.length n0, .slice a1 (elm l l.length).2.length n1], .agg #[.int .u64 (x.1 : Int), .int .u64 (x.2 : Int)]] w2 fun e w3 => e = .returned (.tuple #[.agg #[.int .u64 ((redv (elm l l.length).1 x (elm l l.length).1.length).1.1 : Int), .int .u64 ((redv (elm l l.length).1 x (elm l l.length).1.length).1.2 : Int)], .agg #[.int .u64 ((redv (elm l l.length).1 x (elm l l.length).1.length).2.1 : Int), .int .u64 ((redv (elm l l.length).1 x (elm l l.length).1.length).2.2 : Int)]]) ∧ Below w2.heap.size w2 w3) ∧ Below W.heap.size W w' := by
  refine (eliminate_any a cap l hl h128 W hr).mono ?_
  rintro e w' ⟨v0, v1, rfl, o0, o1, hb⟩
  obtain ⟨a0, n0, rfl⟩ := own_slc o0
  obtain ⟨a1, n1, rfl⟩ := own_slc o1
  have h := elm_ei hl l.length (Nat.le_refl _)
  refine ⟨a0, n0, a1, n1, rfl, o0, o1, fun w2 h2 x hx => ?_, hb⟩
  exact reduce_any a0 n0 _ _ x w2 (own_rr (own_below o0 h2)) (by have := h.len; have := h.le; omega) (ltR_of h.rr h.of) hx.1 hx.2
structure IRow (w : World) (a : Option Addr) (fr : List Nat) : Prop where
  cells : ∀ i, i < fr.length → ∃ b off, a = some ⟨b, off, none⟩ ∧ b < w.heap.size ∧ w.cell? ⟨b, off + i, none⟩ = some (.int .i64 ((fr.getD i 0 : Nat) : Int))
theorem ints_at (fr : List Nat) {i : Nat} (h : i < fr.length) : (ints fr)[i]? = some (.int .i64 ((fr.getD i 0 : Nat) : Int)) := by
  simp [ints, List.getD, h]
theorem own_irow {w : World} {base : Nat} {a : Option Addr} {c : Nat} {fr : List Nat} (h : w.ownsRow base 3 1 (.slice a fr.length c) fr.length (ints fr)) : IRow w a fr := by
  rcases h.2 with ⟨h1, h0⟩ | ⟨g, cap, cur, e, _⟩
  · exact ⟨fun i hi => by omega⟩
  · have e1 : a = some ⟨g, 0, none⟩ := by injection e
    have e2 : c = cap := by injection e
    subst e1 e2
    refine ⟨fun i hi => ?_⟩
    have c0 := (own_cell h i (by omega)).1
    rw [ints_at fr hi] at c0
    exact ⟨g, 0, rfl, cell_lt c0, by rw [Nat.zero_add]; exact c0⟩
theorem IRow.below {w w' : World} {a : Option Addr} {fr : List Nat} (h : IRow w a fr) (hb : Below w.heap.size w w') : IRow w' a fr := ⟨fun i hi => by
  obtain ⟨b, off, e, hl, c⟩ := h.cells i hi
  exact ⟨b, off, e, Nat.lt_of_lt_of_le hl hb.size, keepc hb c⟩⟩
namespace Sq
/-- The sum of those of the new elements that a number's bits name. -/
def cmb (l : List (Nat × Nat)) (fr : List Nat) (o : Nat × Nat) : Nat × Nat := xs fr.length fun k => sl (hs o k) (el l (fr.getD k 0))
theorem cmb_xa (l : List (Nat × Nat)) (fr : List Nat) (a b : Nat × Nat) : cmb l fr (xa a b) = xa (cmb l fr a) (cmb l fr b) := by
  unfold cmb
  rw [← xs_two]
  exact xs_congr _ fun k _ => by rw [hs_xa, sl_xor]
theorem cmb_zero (l : List (Nat × Nat)) (fr : List Nat) : cmb l fr (0, 0) = (0, 0) := xs_none _ fun k _ => by rw [hs_zero]; rfl
theorem cmb_snoc (l : List (Nat × Nat)) (fr : List Nat) (i : Nat) (o : Nat × Nat) : cmb l (fr ++ [i]) o = xa (cmb l fr o) (sl (hs o fr.length) (el l i)) := by
  unfold cmb
  rw [List.length_append, List.length_singleton]
  simp only [xs]
  congr 1
  · refine xs_congr _ fun k hk => ?_
    congr 2
    simp [List.getD, List.getElem?_append_left hk]
  · congr 2
    simp [List.getD]
theorem lt_cmb {l : List (Nat × Nat)} (hl : ltE l) (fr : List Nat) (o : Nat × Nat) : lt2 (cmb l fr o) := lt_xs (fun _ => lt_sl (ltE_el hl _)) _
/-- What each row is of. -/
structure EO (l : List (Nat × Nat)) (s : List Row × List Nat) : Prop where
  sum : ∀ r ∈ s.1, r.1 = cmb l s.2 r.2
  top : ∀ r ∈ s.1, ∀ k, s.2.length ≤ k → hs r.2 k = false
theorem getR {rs : List Row} {m : Nat} (h : m < rs.length) : rs.getD m ((0, 0), (0, 0)) ∈ rs := by
  have : rs.getD m ((0, 0), (0, 0)) = rs[m] := by simp [List.getD, h]
  rw [this]; exact List.getElem_mem h
theorem redv_of {l : List (Nat × Nat)} {s : List Row × List Nat} (h : EO l s) (x : Nat × Nat) : ∀ m, m ≤ s.1.length → (redv s.1 x m).1 = xa x (cmb l s.2 (redv s.1 x m).2) ∧ ∀ k, s.2.length ≤ k → hs (redv s.1 x m).2 k = false
  | 0, _ => ⟨by show x = xa x (cmb l s.2 (0, 0)); rw [cmb_zero, xa_zero], fun k _ => hs_zero k⟩
  | m + 1, hm => by
    obtain ⟨i1, i2⟩ := redv_of h x m (by omega)
    have mem := getR (rs := s.1) (m := m) (by omega)
    have r1 := h.sum _ mem
    have r2 := h.top _ mem
    unfold redv
    split
    · refine ⟨?_, fun k hk => ?_⟩
      · show xa (redv s.1 x m).1 (s.1.getD m ((0, 0), (0, 0))).1 = xa x (cmb l s.2 (xa (redv s.1 x m).2 (s.1.getD m ((0, 0), (0, 0))).2))
        rw [cmb_xa, ← r1, ← xa_assoc, ← i1]
      · show hs (xa (redv s.1 x m).2 (s.1.getD m ((0, 0), (0, 0))).2) k = false
        rw [hs_xa, i2 k hk, r2 k hk]; rfl
    · exact ⟨i1, i2⟩
theorem bv_at (n k : Nat) (hn : n < 128) (hk : k < 128) : hs (bv (n : Int)) k = decide (k = n) := bv_has n k hn hk
theorem bv_high (n k : Nat) (hn : n < 128) (hk : n < k) : hs (bv (n : Int)) k = false := by
  by_cases h : k < 128
  · rw [bv_at n k hn h]; simp; omega
  · have l0 := bv_lt2 (n : Int)
    have h1 : hs (bv (n : Int)) n = true := by rw [bv_at n n hn hn]; simp
    have n0 := hs_ne h1
    have := ld_lt l0 n0
    exact hs_above l0 (by omega)
theorem EO.step {l : List (Nat × Nat)} {s : List Row × List Nat} (h : EO l s) (hn : s.2.length < 128) (i : Nat) : EO l (stp s i (el l i)) := by
  obtain ⟨q1, q2⟩ := redv_of h (el l i) s.1.length (Nat.le_refl _)
  unfold stp
  simp only
  generalize redv s.1 (el l i) s.1.length = q at *
  split
  · exact h
  · have hb : hs (bv (s.2.length : Int)) s.2.length = true := by rw [bv_at _ _ hn hn]; simp
    have new1 : q.1 = cmb l (s.2 ++ [i]) (xa q.2 (bv (s.2.length : Int))) := by
      rw [cmb_snoc, cmb_xa, hs_xa, q2 _ (Nat.le_refl _), hb, q1]
      have : cmb l s.2 (bv (s.2.length : Int)) = (0, 0) := xs_none _ fun k hk => by
        rw [bv_at _ k hn (by omega)]
        simp [show ¬ k = s.2.length by omega, sl]
      rw [this, xa_zero]
      show _ = xa (cmb l s.2 q.2) (el l i)
      rw [xa_comm]
    have new2 : ∀ k, s.2.length + 1 ≤ k → hs (xa q.2 (bv (s.2.length : Int))) k = false := fun k hk => by
      rw [hs_xa, q2 k (by omega), bv_high _ k hn (by omega)]; rfl
    have old : ∀ r ∈ s.1, r.1 = cmb l (s.2 ++ [i]) r.2 := fun r hr => by
      rw [cmb_snoc, h.top r hr _ (Nat.le_refl _), ← h.sum r hr]
      exact (xa_zero _).symm
    refine ⟨fun r hr => ?_, fun r hr k hk => ?_⟩
    · simp only [more, List.mem_append, List.mem_map, List.mem_singleton] at hr
      rcases hr with ⟨o, ho, rfl⟩ | rfl
      · unfold outv
        split
        · show xa o.1 q.1 = cmb l (s.2 ++ [i]) (xa o.2 (xa q.2 (bv (s.2.length : Int))))
          rw [cmb_xa, ← new1, ← old o ho]
        · exact old o ho
      · exact new1
    · have hk' : s.2.length + 1 ≤ k := by simpa using hk
      simp only [more, List.mem_append, List.mem_map, List.mem_singleton] at hr
      rcases hr with ⟨o, ho, rfl⟩ | rfl
      · unfold outv
        split
        · show hs (xa o.2 (xa q.2 (bv (s.2.length : Int)))) k = false
          rw [hs_xa, h.top o ho k (by omega), new2 k hk']; rfl
        · exact h.top o ho k (by omega)
      · exact new2 k hk'
theorem elm_eo {l : List (Nat × Nat)} (hl : ltE l) (h128 : l.length ≤ 128) : ∀ i, i ≤ l.length → EO l (elm l i)
  | 0, _ => ⟨fun r hr => by simp [elm] at hr, fun r hr => by simp [elm] at hr⟩
  | i + 1, h => (elm_eo hl h128 i (by omega)).step (by have := (elm_ei hl i (by omega)).le; omega) i
/-- Is it in the span of those ahead? -/
def old? (l : List (Nat × Nat)) (i : Nat) : Bool := decide (red (sms (elm l i).1) (el l i) = (0, 0))
theorem elm_succ (l : List (Nat × Nat)) (i : Nat) : (elm l (i + 1)).2 = if old? l i = true then (elm l i).2 else (elm l i).2 ++ [i] := by
  show (stp (elm l i) i (el l i)).2 = _
  unfold stp old?
  simp only [redv_all]
  by_cases h : red (sms (elm l i).1) (el l i) = (0, 0)
  · rw [if_pos h, if_pos (by simp [h])]
  · rw [if_neg h, if_neg (by simp [h])]
theorem old_iff {l : List (Nat × Nat)} (hl : ltE l) {i : Nat} (hi : i ≤ l.length) : old? l i = true ↔ Sp (l.take i) (el l i) := by
  have h := elm_ei hl i hi
  unfold old?
  rw [decide_eq_true_iff, ← red_iff h.rr, h.eqs]
/-- Is the element i among them? -/
def wch (l : List (Nat × Nat)) (o : Nat × Nat) (i : Nat) : Bool := !old? l i && hs o (elm l i).2.length
/-- The sum of them up to i. -/
def ups (l : List (Nat × Nat)) (o : Nat × Nat) (i : Nat) : Nat × Nat := cmb l (elm l i).2 o
theorem ups_zero (l : List (Nat × Nat)) (o : Nat × Nat) : ups l o 0 = (0, 0) := rfl
theorem ups_succ (l : List (Nat × Nat)) (o : Nat × Nat) (i : Nat) : ups l o (i + 1) = xa (ups l o i) (sl (wch l o i) (el l i)) := by
  unfold ups wch
  rw [elm_succ]
  cases old? l i
  · rw [if_neg (by decide), cmb_snoc]; rfl
  · rw [if_pos rfl]; exact (xa_zero _).symm
theorem ups_xs (l : List (Nat × Nat)) (o : Nat × Nat) : ∀ i, ups l o i = xs i fun j => sl (wch l o j) (el l j)
  | 0 => rfl
  | i + 1 => by rw [ups_succ, ups_xs l o i]; rfl
theorem ups_sp {l : List (Nat × Nat)} (o : Nat × Nat) : ∀ i, i ≤ l.length → Sp (l.take i) (ups l o i)
  | 0, _ => by rw [ups_zero]; exact sp_zero _
  | i + 1, h => by
    rw [ups_succ, take_el (by omega)]
    refine sp_add _ (sp_app (ups_sp o i (by omega))) ?_
    cases wch l o i
    · exact sp_zero _
    · exact sp_app' (sp_mem (show el l i ∈ [el l i] by simp))
theorem lt_ups {l : List (Nat × Nat)} (hl : ltE l) (o : Nat × Nat) (i : Nat) : lt2 (ups l o i) := lt_cmb hl _ o
theorem ltE_take {l : List (Nat × Nat)} (hl : ltE l) (i : Nat) : ltE (l.take i) := fun e he => hl e (List.mem_of_mem_take he)
/-- Has one more no more rows? -/
def in? (l : List (Nat × Nat)) (x : Nat × Nat) : Bool := decide ((rb (l ++ [x])).length = (rb l).length)
theorem in?_iff {l : List (Nat × Nat)} (hl : ltE l) {x : Nat × Nat} (hx : lt2 x) : in? l x = true ↔ Sp l x := by
  unfold in?
  rw [decide_eq_true_iff]
  exact (rb_in hl hx).symm
theorem old_in {l : List (Nat × Nat)} (hl : ltE l) {i : Nat} (hi : i ≤ l.length) : old? l i = in? (l.take i) (el l i) := by
  rw [Bool.eq_iff_iff, old_iff hl hi, in?_iff (ltE_take hl i) (ltE_el hl i)]
/-- From the last one down: it is in the sum if it is new and what is left is not in the span of those ahead. -/
theorem wch_iff {l : List (Nat × Nat)} (hl : ltE l) (o : Nat × Nat) {i : Nat} (hi : i < l.length) : wch l o i = (!in? (l.take i) (el l i) && !in? (l.take i) (ups l o (i + 1))) := by
  rw [← old_in hl (Nat.le_of_lt hi)]
  have e : wch l o i = (!old? l i && hs o (elm l i).2.length) := rfl
  cases h : old? l i
  · rw [h] at e
    rw [ups_succ]
    have s1 := ups_sp (l := l) o i (Nat.le_of_lt hi)
    have n1 : ¬ Sp (l.take i) (el l i) := fun k => by
      rw [(old_iff hl (Nat.le_of_lt hi)).2 k] at h; cases h
    cases hb : wch l o i
    · have : in? (l.take i) (xa (ups l o i) (sl false (el l i))) = true := (in?_iff (ltE_take hl i) (lt_xa (lt_ups hl o i) (lt_sl (ltE_el hl i)))).2 (by show Sp _ (xa (ups l o i) (0, 0)); rw [xa_zero]; exact s1)
      rw [this]; rfl
    · have : in? (l.take i) (xa (ups l o i) (sl true (el l i))) = false := by
        cases q : in? (l.take i) (xa (ups l o i) (sl true (el l i)))
        · rfl
        · refine absurd ?_ n1
          have k := (in?_iff (ltE_take hl i) (lt_xa (lt_ups hl o i) (lt_sl (ltE_el hl i)))).1 q
          have k2 := sp_add _ s1 k
          rw [← xa_assoc, xa_self, xa_comm, xa_zero] at k2
          exact k2
      rw [this]; rfl
  · rw [h] at e; rw [e]; rfl
end Sq
theorem elm_mem (l : List (Nat × Nat)) (p : Nat) : ∀ i, p ∈ (elm l i).2 ↔ p < i ∧ old? l p = false
  | 0 => by simp [elm]
  | i + 1 => by
    rw [elm_succ]
    cases h : old? l i
    · rw [if_neg (by decide), List.mem_append, elm_mem l p i, List.mem_singleton]
      constructor
      · rintro (⟨h1, h2⟩ | rfl)
        · exact ⟨by omega, h2⟩
        · exact ⟨by omega, h⟩
      · rintro ⟨h1, h2⟩
        by_cases e : p = i
        · exact .inr e
        · exact .inl ⟨by omega, h2⟩
    · rw [if_pos rfl, elm_mem l p i]
      constructor
      · rintro ⟨h1, h2⟩; exact ⟨by omega, h2⟩
      · rintro ⟨h1, h2⟩
        by_cases e : p = i
        · subst e; rw [h] at h2; cases h2
        · exact ⟨by omega, h2⟩
theorem elm_at (l : List (Nat × Nat)) (o : Nat × Nat) (k : Nat) : ∀ i, k < (elm l i).2.length → wch l o ((elm l i).2.getD k 0) = hs o k
  | 0, h => by simp [elm] at h
  | i + 1, h => by
    rw [elm_succ] at h ⊢
    cases hi : old? l i
    · rw [hi, if_neg (by decide)] at h
      rw [if_neg (by decide)]
      by_cases e : k < (elm l i).2.length
      · have := elm_at l o k i e
        rw [show ((elm l i).2 ++ [i]).getD k 0 = (elm l i).2.getD k 0 by simp [List.getD, List.getElem?_append_left e]]
        exact this
      · obtain rfl : k = (elm l i).2.length := by simp at h; omega
        rw [show ((elm l i).2 ++ [i]).getD (elm l i).2.length 0 = i by simp [List.getD]]
        unfold wch
        rw [hi]; rfl
    · rw [hi, if_pos rfl] at h
      rw [if_pos rfl]
      exact elm_at l o k i h
theorem wch_old {l : List (Nat × Nat)} {o : Nat × Nat} {p : Nat} (hp : p < l.length) (h : p ∉ (elm l l.length).2) : wch l o p = false := by
  unfold wch
  cases e : old? l p
  · exact absurd ((elm_mem l p l.length).2 ⟨hp, e⟩) h
  · rfl
/-- Of what x is the sum. -/
def ofv (l : List (Nat × Nat)) (x : Nat × Nat) : Nat × Nat := (redv (elm l l.length).1 x (elm l l.length).1.length).2
def wchs (l : List (Nat × Nat)) (x : Nat × Nat) : List Bool := (List.range l.length).map (wch l (ofv l x))
theorem wchs_len (l : List (Nat × Nat)) (x : Nat × Nat) : (wchs l x).length = l.length := by simp [wchs]
theorem wchs_at (l : List (Nat × Nat)) (x : Nat × Nat) {p : Nat} (h : p < l.length) : (wchs l x).getD p false = wch l (ofv l x) p := by simp [wchs, List.getD, h]
theorem in?_red {l : List (Nat × Nat)} (hl : ltE l) {x : Nat × Nat} (hx : lt2 x) : in? l x = decide ((redv (elm l l.length).1 x (elm l l.length).1.length).1 = (0, 0)) := by
  rw [redv_all, Bool.eq_iff_iff, decide_eq_true_iff, in?_iff hl hx, elm_in hl x]
theorem take_ns (fr : List Nat) (k : Nat) (h : k < fr.length) : fr.take (k + 1) = fr.take k ++ [fr.getD k 0] := by
  rw [List.take_succ_eq_append_getElem h]; simp [h]
theorem xa_eq_zero {a b : Nat × Nat} (h : xa a b = (0, 0)) : a = b := by
  have h2 : xa (xa a b) b = xa (0, 0) b := by rw [h]
  rwa [xa_assoc, xa_self, xa_zero, xa_comm, xa_zero] at h2
/-- In the span, it is the sum of those that are told. -/
theorem ups_all {l : List (Nat × Nat)} (hl : ltE l) (h128 : l.length ≤ 128) {x : Nat × Nat} (hx : lt2 x) (h : in? l x = true) : ups l (ofv l x) l.length = x := by
  rw [in?_red hl hx, decide_eq_true_iff] at h
  have := (redv_of (elm_eo hl h128 l.length (Nat.le_refl _)) x _ (Nat.le_refl _)).1
  rw [h] at this
  exact (xa_eq_zero this.symm).symm

/-- Bools in memory. -/
structure QRow (w : World) (a : Option Addr) (bs : List Bool) : Prop where
  cells : ∀ i, i < bs.length → ∃ b off : Nat, a = some ⟨b, off, none⟩ ∧ b < w.heap.size ∧ w.cell? ⟨b, off + i, none⟩ = some (.bool (bs.getD i false))
theorem QRow.below {w w' : World} {a : Option Addr} {bs : List Bool} (h : QRow w a bs) (hb : Below w.heap.size w w') : QRow w' a bs := ⟨fun i hi => by
  obtain ⟨b, off, h1, h2, h3⟩ := h.cells i hi
  exact ⟨b, off, h1, Nat.lt_of_lt_of_le h2 hb.size, keepc hb h3⟩⟩
theorem row_q {w : World} {g : Nat} {T : TypeId} {f : Nat → Value} {bs : List Bool} (R : w.rowIs g T bs.length f) (F : ∀ p, p < bs.length → f p = .bool (bs.getD p false)) : QRow w (some ⟨g, 0, none⟩) bs := ⟨fun i hi => by
  have c := R.cell hi
  rw [F i hi] at c
  exact ⟨g, 0, rfl, R.lt, by rw [Nat.zero_add]; exact c⟩⟩
theorem own_rowQ {w : World} {base : Nat} {T : TypeId} {g n : Nat} {z : Value} (h : w.ownsRow base T 1 (.slice (some ⟨g, 0, none⟩) n n) n (List.replicate n z)) : ∃ f, w.rowIs g T n f ∧ ∀ p, p < n → f p = z := by
  have hc := h
  rcases h.2 with ⟨h1, _⟩ | ⟨g', cap, cur, e, _, hg, _, _, hs, _⟩
  · injection h1 with h2; cases h2
  · injection e with e1 e2 e3
    obtain rfl : g = g' := by injection e1 with e4; injection e4
    subst e3
    have R : w.rowIs g T n (fun i => cur.getD i undef) := ⟨cur, hg, by omega, fun i hi => by
      show cur[i]? = some (cur.getD i undef)
      rw [Array.getD_eq_getD_getElem?, Array.getElem?_eq_getElem (by omega)]; rfl⟩
    refine ⟨_, R, fun p hp => ?_⟩
    have c1 := R.cell hp
    have c2 := hc.cellAt p (by omega)
    rw [c1, List.getElem?_replicate, if_pos hp] at c2
    exact Option.some.inj c2
theorem info_qbool : ∃ i, Try.prog.info? 4 = some i ∧ i.zero = some (.bool false) ∧ i.size = 1 ∧ i.bytes = 1 := by
  have h : (Try.prog.info? 4).map (fun i => (i.zero, i.size, i.bytes)) = some (some (.bool false), 1, 1) := by kernel_rfl
  obtain ⟨i, hi, he⟩ := Option.map_eq_some_iff.1 h
  simp only [Prod.mk.injEq] at he
  exact ⟨i, hi, he.1, he.2.1, he.2.2⟩
/-- What Solve holds when the row is made. -/
structure Sv (W w : World) (g8 g : Nat) (a1 : Option Addr) (fr : List Nat) (o : Nat × Nat) (n : Nat) (f : Nat → Value) : Prop where
  i : IRow w a1 fr
  x1 : w.cell? ⟨g8, 0, none⟩ = some (.int .u64 (o.1 : Int))
  x0 : w.cell? ⟨g8, 1, none⟩ = some (.int .u64 (o.2 : Int))
  R : w.rowIs g 4 n f
  d : Below W.heap.size W w
  b8 : g8 < g
  bg : W.heap.size ≤ g
  bi : ∀ b off, a1 = some ⟨b, off, none⟩ → 0 < fr.length → b < g
theorem Sv.below {W w w' : World} {g8 g : Nat} {a1 : Option Addr} {fr : List Nat} {o : Nat × Nat} {n : Nat} {f : Nat → Value} (h : Sv W w g8 g a1 fr o n f) (hb : Below w.heap.size w w') : Sv W w' g8 g a1 fr o n f :=
  ⟨h.i.below hb, keepc hb h.x1, keepc hb h.x0, h.R.of_block (hb.block _ h.R.lt), h.d.trans (hb.mono h.d.size), h.b8, h.bg, h.bi⟩
theorem Sv.put {W w : World} {g8 g : Nat} {a1 : Option Addr} {fr : List Nat} {o : Nat × Nat} {n : Nat} {f : Nat → Value} (h : Sv W w g8 g a1 fr o n f) (j : Nat) (v : Value) : Sv W (w.setCell ⟨g, j, none⟩ v) g8 g a1 fr o n (fun p => if p = j then v else f p) :=
  ⟨⟨fun k hk => by
      obtain ⟨b, off, e, hb, c⟩ := h.i.cells k hk
      have n1 := h.bi b off e (by omega)
      exact ⟨b, off, e, by simpa using hb, by rw [World.cell?_setCell_other _ _ _ _ (fun e => by injection e with e; omega)]; exact c⟩⟩,
    by rw [World.cell?_setCell_other _ _ _ _ (fun e => by injection e with e; have := h.b8; omega)]; exact h.x1,
    by rw [World.cell?_setCell_other _ _ _ _ (fun e => by injection e with e; have := h.b8; omega)]; exact h.x0,
    h.R.set j _, h.d.setCell h.bg _, h.b8, h.bg, h.bi⟩
end Go.Proofs.Ytjdfbjdbfncofaa
