/- Struct variables that are laid and filled in one region, in whatever order: what is known of each, by what has come up. -/
import Derived.Test.YtghapohempogkaaIvA
import Derived.Test.YtghapohempogkaaTwBl
import Derived.Test.YtghapohempogkaaPOrB
namespace Go.Proofs.Ytghapohempogkaa
open Go.RowKit

/-- A variable: the number of its alloc, of its store, its block, its pointer, and what is stored. -/
structure Va where
  ia : Nat
  is : Nat
  q : Nat
  p : Value
  v : Nat × Nat
structure VaOk (N : Nat) (w : World) (L : Nat → Bool) (x : Va) : Prop where
  late : L x.is = true → L x.ia = true
  ptr : L x.ia = true → x.p = .pointer (some ⟨x.q, 0, none⟩)
  low : L x.ia = true → N ≤ x.q
  room : L x.ia = true → ∃ c : Nat × Nat, Ew w x.q c.1 c.2 ∧ (L x.is = true → c = x.v)
theorem VaOk.below {N : Nat} {w w' : World} {L : Nat → Bool} {x : Va} (h : VaOk N w L x) (hb : Below w.heap.size w w') : VaOk N w' L x :=
  ⟨h.late, h.ptr, h.low, fun e => by obtain ⟨c, h1, h2⟩ := h.room e; exact ⟨c, h1.below hb, h2⟩⟩
theorem VaOk.same {N : Nat} {w : World} {L L' : Nat → Bool} {x : Va} (h : VaOk N w L x) (h1 : L' x.ia = L x.ia) (h2 : L' x.is = L x.is) : VaOk N w L' x := by
  obtain ⟨a, b, c, d⟩ := h
  refine ⟨?_, ?_, ?_, ?_⟩ <;> rw [h1] <;> (try rw [h2]) <;> assumption
theorem VaOk.lt {N : Nat} {w : World} {L : Nat → Bool} {x : Va} (h : VaOk N w L x) (e : L x.ia = true) : x.q < w.heap.size := by
  obtain ⟨c, h1, _⟩ := h.room e
  exact h1.lt
/-- All of them. -/
structure Vas (N : Nat) (w : World) (L : Nat → Bool) (l : List Va) : Prop where
  ok : ∀ x ∈ l, VaOk N w L x
  apart : l.Pairwise fun x y => L x.ia = true → L y.ia = true → x.q ≠ y.q
/-- The numbers. -/
def nums (l : List Va) : List Nat := l.flatMap fun x => [x.ia, x.is]
theorem nums_mem {l : List Va} {x : Va} (h : x ∈ l) : x.ia ∈ nums l ∧ x.is ∈ nums l := by
  unfold nums
  exact ⟨List.mem_flatMap.2 ⟨x, h, by simp⟩, List.mem_flatMap.2 ⟨x, h, by simp⟩⟩
theorem Vas.below {N : Nat} {w w' : World} {L : Nat → Bool} {l : List Va} (h : Vas N w L l) (hb : Below w.heap.size w w') : Vas N w' L l :=
  ⟨fun x hx => (h.ok x hx).below hb, h.apart⟩
/-- Another operation comes up. -/
theorem Vas.step {N : Nat} {w : World} {L : Nat → Bool} {l : List Va} (h : Vas N w L l) {i : Nat} (hi : i ∉ nums l) : Vas N w (setL L i) l := by
  have h1 : ∀ x ∈ l, setL L i x.ia = L x.ia ∧ setL L i x.is = L x.is := fun x hx => ⟨setL_other L fun e => hi (e ▸ (nums_mem hx).1), setL_other L fun e => hi (e ▸ (nums_mem hx).2)⟩
  refine ⟨fun x hx => (h.ok x hx).same (h1 x hx).1 (h1 x hx).2, ?_⟩
  refine List.Pairwise.imp_of_mem (fun {x y} hx hy hxy => ?_) h.apart
  rw [(h1 x hx).1, (h1 y hy).1]; exact hxy
/-- One is laid. -/
theorem Vas.laid {N : Nat} {w : World} {L : Nat → Bool} {l1 l2 : List Va} {x : Va} {T : TypeId} (h : Vas N w L (l1 ++ x :: l2)) (hL : L x.ia = false) (hN : N ≤ w.heap.size) (hd : (nums (l1 ++ x :: l2)).Nodup) :
    Vas N (w.alloc (Obj.cells #[.int .u64 0, .int .u64 0] T)) (setL L x.ia) (l1 ++ { x with q := w.heap.size, p := .pointer (some ⟨w.heap.size, 0, none⟩) } :: l2) := by
  have hb : Below w.heap.size w (w.alloc (Obj.cells #[.int .u64 0, .int .u64 0] T)) := (Below.refl _ _).alloc (Nat.le_refl _) _
  have hn := hd
  unfold nums at hn
  rw [List.flatMap_append, List.flatMap_cons] at hn
  obtain ⟨_, h2, h3⟩ := List.nodup_append.1 hn
  obtain ⟨h4, h5, h6⟩ := List.nodup_append.1 h2
  have hxi : x.is ≠ x.ia := fun e => by simp [e] at h4
  have hs : L x.is = false := by
    cases hb : L x.is with
    | false => rfl
    | true => rw [(h.ok x (by simp)).late hb] at hL; cases hL
  have hne : ∀ y, y ∈ l1 ∨ y ∈ l2 → y.ia ≠ x.ia ∧ y.is ≠ x.ia := fun y hy => by
    rcases hy with hy | hy
    · have m := nums_mem hy
      exact ⟨fun e => h3 _ m.1 _ (by simp) e, fun e => h3 _ m.2 _ (by simp) e⟩
    · have m := nums_mem hy
      exact ⟨fun e => h6 x.ia (by simp) _ m.1 e.symm, fun e => h6 x.ia (by simp) _ m.2 e.symm⟩
  have hin : ∀ y, y ∈ l1 ∨ y ∈ l2 → y ∈ l1 ++ x :: l2 := fun y hy => by rcases hy with hy | hy <;> simp [hy]
  have old : ∀ y, y ∈ l1 ∨ y ∈ l2 → VaOk N (w.alloc (Obj.cells #[.int .u64 0, .int .u64 0] T)) (setL L x.ia) y := fun y hy => ((h.ok y (hin y hy)).below hb).same (setL_other L (hne y hy).1) (setL_other L (hne y hy).2)
  have new : VaOk N (w.alloc (Obj.cells #[.int .u64 0, .int .u64 0] T)) (setL L x.ia) { x with q := w.heap.size, p := .pointer (some ⟨w.heap.size, 0, none⟩) } := by
    refine ⟨fun _ => setL_same _ _, fun _ => rfl, fun _ => hN, fun _ => ⟨(0, 0), ⟨⟨by simp [go_sem], by simp [go_sem]⟩, by simp [go_sem], by simp [go_sem]⟩, fun e => ?_⟩⟩
    have e' : setL L x.ia x.is = true := e
    rw [setL_other L hxi, hs] at e'
    cases e'
  refine ⟨fun y hy => ?_, ?_⟩
  · rcases List.mem_append.1 hy with hy | hy
    · exact old y (.inl hy)
    · rcases List.mem_cons.1 hy with rfl | hy
      · exact new
      · exact old y (.inr hy)
  · have hp := h.apart
    rw [List.pairwise_append, List.pairwise_cons] at hp ⊢
    obtain ⟨p1, ⟨p2, p3⟩, p4⟩ := hp
    have lt : ∀ y, y ∈ l1 ∨ y ∈ l2 → setL L x.ia y.ia = true → y.q < w.heap.size := fun y hy e => by
      rw [setL_other L (hne y hy).1] at e
      exact (h.ok y (hin y hy)).lt e
    refine ⟨List.Pairwise.imp_of_mem (fun {y z} hy hz hyz => ?_) p1, ⟨fun y hy _ e => ?_, List.Pairwise.imp_of_mem (fun {y z} hy hz hyz => ?_) p3⟩, fun y hy z hz => ?_⟩
    · rw [setL_other L (hne y (.inl hy)).1, setL_other L (hne z (.inl hz)).1]; exact hyz
    · have := lt y (.inr hy) e
      show w.heap.size ≠ y.q
      omega
    · rw [setL_other L (hne y (.inr hy)).1, setL_other L (hne z (.inr hz)).1]; exact hyz
    · rcases List.mem_cons.1 hz with rfl | hz
      · intro e _
        have := lt y (.inl hy) e
        show y.q ≠ w.heap.size
        omega
      · rw [setL_other L (hne y (.inl hy)).1, setL_other L (hne z (.inr hz)).1]
        exact p4 y hy z (List.mem_cons_of_mem _ hz)
/-- One is filled. -/
theorem Vas.fill {N : Nat} {w : World} {L : Nat → Bool} {l1 l2 : List Va} {x : Va} (h : Vas N w L (l1 ++ x :: l2)) (hL : L x.ia = true) (hall : ∀ y, y ∈ l1 ∨ y ∈ l2 → L y.ia = true) (hd : (nums (l1 ++ x :: l2)).Nodup) :
    Vas N ((w.setCell ⟨x.q, 0, none⟩ (.int .u64 (x.v.1 : Int))).setCell ⟨x.q, 1, none⟩ (.int .u64 (x.v.2 : Int))) (setL L x.is) (l1 ++ x :: l2) := by
  have hn := hd
  unfold nums at hn
  rw [List.flatMap_append, List.flatMap_cons] at hn
  obtain ⟨_, h2, h3⟩ := List.nodup_append.1 hn
  obtain ⟨h4, h5, h6⟩ := List.nodup_append.1 h2
  have hxi : x.ia ≠ x.is := fun e => by simp [e] at h4
  have hne : ∀ y, y ∈ l1 ∨ y ∈ l2 → y.ia ≠ x.is ∧ y.is ≠ x.is := fun y hy => by
    rcases hy with hy | hy
    · have m := nums_mem hy
      exact ⟨fun e => h3 _ m.1 _ (by simp) e, fun e => h3 _ m.2 _ (by simp) e⟩
    · have m := nums_mem hy
      exact ⟨fun e => h6 x.is (by simp) _ m.1 e.symm, fun e => h6 x.is (by simp) _ m.2 e.symm⟩
  have hin : ∀ y, y ∈ l1 ∨ y ∈ l2 → y ∈ l1 ++ x :: l2 := fun y hy => by rcases hy with hy | hy <;> simp [hy]
  have hp := h.apart
  rw [List.pairwise_append, List.pairwise_cons] at hp
  obtain ⟨p1, ⟨p2, p3⟩, p4⟩ := hp
  have hq : ∀ y, y ∈ l1 ∨ y ∈ l2 → x.q ≠ y.q := fun y hy => by
    rcases hy with hy | hy
    · exact fun e => p4 y hy x (List.mem_cons_self ..) (hall y (.inl hy)) hL e.symm
    · exact p2 y hy hL (hall y (.inr hy))
  have old : ∀ y, y ∈ l1 ∨ y ∈ l2 → VaOk N ((w.setCell ⟨x.q, 0, none⟩ (.int .u64 (x.v.1 : Int))).setCell ⟨x.q, 1, none⟩ (.int .u64 (x.v.2 : Int))) (setL L x.is) y := fun y hy => by
    refine VaOk.same (L := L) ?_ (setL_other L (hne y hy).1) (setL_other L (hne y hy).2)
    obtain ⟨a, b, c, d⟩ := h.ok y (hin y hy)
    exact ⟨a, b, c, fun e => by obtain ⟨z, h1, h2⟩ := d e; exact ⟨z, h1.other (hq y hy) _ _, h2⟩⟩
  have hx := h.ok x (by simp)
  obtain ⟨c, hc, _⟩ := hx.room hL
  refine ⟨fun y hy => ?_, ?_⟩
  · rcases List.mem_append.1 hy with hy | hy
    · exact old y (.inl hy)
    · rcases List.mem_cons.1 hy with rfl | hy
      · exact ⟨fun _ => setL_true hL, fun _ => hx.ptr hL, fun _ => hx.low hL, fun _ => ⟨y.v, hc.set _ _, fun _ => rfl⟩⟩
      · exact old y (.inr hy)
  · refine List.Pairwise.imp_of_mem (fun {y z} hy hz hyz => ?_) h.apart
    have e : ∀ y, y ∈ l1 ++ x :: l2 → L y.ia = true := fun y hy => by
      rcases List.mem_append.1 hy with hy | hy
      · exact hall y (.inl hy)
      · rcases List.mem_cons.1 hy with rfl | hy
        · exact hL
        · exact hall y (.inr hy)
    exact fun _ _ => hyz (e y hy) (e z hz)
theorem ERow.offV {w : World} {a : Option Addr} {es : List (Nat × Nat)} (e : ERow w a es) {b : Nat} (hn : 0 < es.length → ∀ g off, a = some ⟨g, off, none⟩ → g ≠ b) (o o' : Nat) (u v : Value) : ERow ((w.setCell ⟨b, o, none⟩ u).setCell ⟨b, o', none⟩ v) a es := ⟨fun i hi => by
  obtain ⟨g, off, e1, e2, e3, e4⟩ := e.cells i hi
  have hg := hn (by omega) g off e1
  have hg' : b ≠ g := fun h => hg h.symm
  exact ⟨g, off, e1, by simpa [World.setCell] using e2, by simp [go_sem, *], by simp [go_sem, *]⟩⟩
theorem VaOk.el {N : Nat} {w : World} {L : Nat → Bool} {x : Va} (h : VaOk N w L x) (e : L x.is = true) : El w x.q x.v.1 x.v.2 := by
  obtain ⟨c, h1, h2⟩ := h.room (h.late e)
  have := h2 e
  subst this
  exact h1.toEl
theorem Vas.start {N : Nat} {w : World} {L : Nat → Bool} {l : List Va} (h : ∀ x ∈ l, L x.ia = false ∧ L x.is = false) : Vas N w L l :=
  ⟨fun x hx => ⟨fun e => absurd e (by simp [(h x hx).2]), fun e => absurd e (by simp [(h x hx).1]), fun e => absurd e (by simp [(h x hx).1]), fun e => absurd e (by simp [(h x hx).1])⟩,
    List.Pairwise.imp_of_mem (R := fun _ _ => True) (fun {x y} hx _ _ e => absurd e (by simp [(h x hx).1])) (List.pairwise_of_forall fun _ _ => trivial)⟩
theorem all_setL {L : Nat → Bool} {l : List Nat} (i : Nat) (h : (l.all fun j => L j) = true) : (l.all fun j => setL L i j) = true := by
  rw [List.all_eq_true] at h ⊢
  exact fun j hj => setL_true (h j hj)
theorem setL_un {L : Nat → Bool} {i j : Nat} {X : Prop} (h : j ≠ i) (f : L j = true → X) : setL L i j = true → X := fun e => f (by rwa [setL_other L h] at e)
theorem all_at {L : Nat → Bool} {l : List Nat} (h : (l.all fun j => L j) = true) (i : Nat) (hi : l.contains i = true) : L i = true := List.all_eq_true.1 h i (List.contains_iff_mem.1 hi)
/-- A row that a call gives in the region. -/
structure RoOk (w : World) (L : Nat → Bool) (ic : Nat) (v : Value) (es : List (Nat × Nat)) (l : List Va) : Prop where
  row : L ic = true → ∃ a cap, v = .slice a es.length cap ∧ ERow w a es ∧ (0 < es.length → ∀ g off, a = some ⟨g, off, none⟩ → g < w.heap.size ∧ ∀ x ∈ l, L x.ia = true → x.q ≠ g)
theorem RoOk.below {w w' : World} {L : Nat → Bool} {ic : Nat} {v : Value} {es : List (Nat × Nat)} {l : List Va} (h : RoOk w L ic v es l) (hb : Below w.heap.size w w') : RoOk w' L ic v es l :=
  ⟨fun e => by obtain ⟨a, cap, h1, h2, h3⟩ := h.row e; exact ⟨a, cap, h1, h2.below hb, fun h0 g off he => ⟨Nat.lt_of_lt_of_le (h3 h0 g off he).1 hb.size, (h3 h0 g off he).2⟩⟩⟩
theorem RoOk.start {w : World} {L : Nat → Bool} {ic : Nat} {v : Value} {es : List (Nat × Nat)} {l : List Va} (h : L ic = false) : RoOk w L ic v es l := ⟨fun e => absurd e (by simp [h])⟩
theorem RoOk.step {w : World} {L : Nat → Bool} {ic : Nat} {v : Value} {es : List (Nat × Nat)} {l : List Va} (h : RoOk w L ic v es l) {i : Nat} (hi : i ∉ nums l) (hc : i ≠ ic) : RoOk w (setL L i) ic v es l :=
  ⟨fun e => by
    rw [setL_other L (fun h => hc h.symm)] at e
    obtain ⟨a, cap, h1, h2, h3⟩ := h.row e
    exact ⟨a, cap, h1, h2, fun h0 g off he => ⟨(h3 h0 g off he).1, fun x hx ex => (h3 h0 g off he).2 x hx (by rwa [setL_other L (show x.ia ≠ i from fun e => hi (e ▸ (nums_mem hx).1))] at ex)⟩⟩⟩
theorem RoOk.call {N : Nat} {w w' : World} {L : Nat → Bool} {ic : Nat} {v : Value} {es : List (Nat × Nat)} {l : List Va} {T : TypeId} (h : Vas N w L l) (hi : ic ∉ nums l) (ho : w'.ownsRow w.heap.size T 2 v es.length (flat es)) : RoOk w' (setL L ic) ic v es l :=
  ⟨fun _ => by
    obtain ⟨a, cap, rfl, hr⟩ := own_row ho
    refine ⟨a, cap, rfl, hr, fun h0 g off he => ?_⟩
    subst he
    obtain ⟨b, off', e1, e2, _⟩ := hr.cells 0 h0
    injection e1 with e1; injection e1 with e1 _; subst e1
    refine ⟨e2, fun x hx ex => ?_⟩
    rw [setL_other L (show x.ia ≠ ic from fun e => hi (e ▸ (nums_mem hx).1))] at ex
    have := (h.ok x hx).lt ex
    rcases ho.2 with ⟨h1, _⟩ | ⟨g', cap', cur, h1, h2, _⟩
    · cases h1
    · injection h1 with h1 _ _; injection h1 with h1; injection h1 with h1 _ _; omega⟩
theorem RoOk.laid {w : World} {L : Nat → Bool} {ic : Nat} {v : Value} {es : List (Nat × Nat)} {l1 l2 : List Va} {x : Va} {T : TypeId} (h : RoOk w L ic v es (l1 ++ x :: l2)) (hc : x.ia ≠ ic) (hd : (nums (l1 ++ x :: l2)).Nodup) :
    RoOk (w.alloc (Obj.cells #[.int .u64 0, .int .u64 0] T)) (setL L x.ia) ic v es (l1 ++ { x with q := w.heap.size, p := .pointer (some ⟨w.heap.size, 0, none⟩) } :: l2) := by
  have hb : Below w.heap.size w (w.alloc (Obj.cells #[.int .u64 0, .int .u64 0] T)) := (Below.refl _ _).alloc (Nat.le_refl _) _
  have hn := hd
  unfold nums at hn
  rw [List.flatMap_append, List.flatMap_cons] at hn
  obtain ⟨_, h2, h3⟩ := List.nodup_append.1 hn
  obtain ⟨h4, h5, h6⟩ := List.nodup_append.1 h2
  have hne : ∀ y, y ∈ l1 ∨ y ∈ l2 → y.ia ≠ x.ia := fun y hy => by
    rcases hy with hy | hy
    · exact fun e => h3 _ (nums_mem hy).1 _ (by simp) e
    · exact fun e => h6 x.ia (by simp) _ (nums_mem hy).1 e.symm
  refine ⟨fun e => ?_⟩
  rw [setL_other L (fun h => hc h.symm)] at e
  obtain ⟨a, cap, g1, g2, g3⟩ := h.row e
  refine ⟨a, cap, g1, g2.below hb, fun h0 g off he => ⟨Nat.lt_of_lt_of_le (g3 h0 g off he).1 hb.size, fun y hy ey => ?_⟩⟩
  have hg := g3 h0 g off he
  rcases List.mem_append.1 hy with hy | hy
  · exact hg.2 y (by simp [hy]) (by rwa [setL_other L (hne y (.inl hy))] at ey)
  · rcases List.mem_cons.1 hy with rfl | hy
    · show w.heap.size ≠ g
      omega
    · exact hg.2 y (by simp [hy]) (by rwa [setL_other L (hne y (.inr hy))] at ey)
theorem RoOk.fill {w : World} {L : Nat → Bool} {ic : Nat} {v : Value} {es : List (Nat × Nat)} {l : List Va} (h : RoOk w L ic v es l) {x : Va} (hx : x ∈ l) (hL : L x.ia = true) (hc : x.is ≠ ic) (hd : ∀ y ∈ l, y.ia ≠ x.is) :
    RoOk ((w.setCell ⟨x.q, 0, none⟩ (.int .u64 (x.v.1 : Int))).setCell ⟨x.q, 1, none⟩ (.int .u64 (x.v.2 : Int))) (setL L x.is) ic v es l :=
  ⟨fun e => by
    rw [setL_other L (fun h => hc h.symm)] at e
    obtain ⟨a, cap, g1, g2, g3⟩ := h.row e
    refine ⟨a, cap, g1, g2.offV (fun h0 g off he => fun e => (g3 h0 g off he).2 x hx hL e.symm) _ _ _ _, fun h0 g off he => ⟨by simpa [World.setCell] using (g3 h0 g off he).1, fun y hy ey => (g3 h0 g off he).2 y hy (by rwa [setL_other L (hd y hy)] at ey)⟩⟩⟩
end Go.Proofs.Ytghapohempogkaa
