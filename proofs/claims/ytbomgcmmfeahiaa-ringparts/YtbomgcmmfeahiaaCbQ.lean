/- Laws: append of whatever slice, nil too, onto a row of one's own; elements that lie in another block than the row that grows. -/
import Derived.Test.YtbomgcmmfeahiaaPCbN
import Derived.Test.YtbomgcmmfeahiaaPCbF
import Derived.Deep.AppendSrc
import Derived.Lib.AppendZeros
import Derived.Maps.AppendAt
namespace Go.Proofs.Ytbomgcmmfeahiaa
open Go.RowKit
open Cb

theorem wpList_app {P : Program} (w : World) {ops : Array Oper} {rest : List Oper} {o : Oper} {a : Act} {Q : Exit → Act → World → Prop} (hgd : o.guard = none) (s x : Operand) (t : TypeId)
    (ho : o.op = .call { callee := .builtin .append, args := #[s, x], argTypes := #[t, t] })
    (base : Nat) (e : TypeId) (i : TypeInfo) (z : Value) (size bytes : Nat) (ht : P.underlying t = some (.slice e)) (hi : P.info? e = some i) (hz : i.zero = some z)
    (hsize : i.size = size) (hby : i.bytes = bytes) (hzs : z.cells.size = size) (hsz : 0 < size)
    (v : Value) (n : Nat) (xs : List Value) (hs : a.eval s = v) (hown : w.ownsRow base e size v n xs)
    (src : Option Addr) (m c : Nat) (news : List Value) (hx : a.eval x = .slice src m c) (hl : news.length = m * size) (hnil : src = none → m = 0) (hnews : ∀ ad, src = some ad → ∀ j u, news[j]? = some u → w.cell? (ad.add j) = some u) (h1 : ∀ u ∈ news, u.oneCell' = true)
    (h63 : n + m ≤ maxLen) (hbytes : (n + m) * bytes ≤ 140737488355328) (hbase : base ≤ w.heap.size)
    (h : ∀ v' w', w'.ownsRow base e size v' (n + m) (xs ++ news) → w.grownBy w' v.ownBlock → wpList P ops Q rest (a.put o.dst v') w') : wpList P ops Q (o :: rest) a w := by
  rcases src with _ | ad
  · obtain rfl := hnil rfl
    have hn : news = [] := List.eq_nil_of_length_eq_zero (by simpa using hl)
    subst hn
    have hg : w.grownBy w v.ownBlock := ⟨rfl, rfl, rfl, Nat.le_refl _, fun _ _ _ => rfl⟩
    have hr : (Builtin.append_ #[t, t] o.type #[v, .slice none 0 c]).run P w = .ok v w := by
      rcases hown.2 with ⟨rfl, rfl⟩ | ⟨g, cap, cur, rfl, hbg, hg, hnc, hcm, hcs, htake⟩
      · simp [Builtin.append_, run_underlying ht, sizeOf, typeInfo, hi, Builtin.lenOf, Builtin.firstCells]
      · have := run_append_room_src (P := P) w t t o.type e i ht hi g 0 n cap (.slice none 0 c) 0 [] (Src.ofNil w ht c) (by omega) (fun j hj => by simp at hj) (fun j hj => by simp at hj)
        simpa [World.setCells] using this
    refine Go.Lib.wpList_append_run w hgd s x t t ho v (.slice none 0 c) hs hx v w hr ?_
    refine h v w ?_ hg
    simpa using hown
  · exact wpList_append_own w hgd s x t ho base e i z size bytes ht hi hz hsize hby hzs hsz v n xs hs hown ad m c news hx hl (hnews ad rfl) h1 h63 hbytes hbase fun v' w' h2 h3 _ => h v' w' h2 h3
theorem step_app {P : Program} (w : World) {ops : Array Oper} {o : Oper} {a : Act} {K : Act → World → Prop} {Q : Exit → Act → World → Prop} {E : Prop} (hgd : o.guard = none) (s x : Operand) (t : TypeId)
    (ho : o.op = .call { callee := .builtin .append, args := #[s, x], argTypes := #[t, t] })
    (base : Nat) (e : TypeId) (i : TypeInfo) (z : Value) (size bytes : Nat) (ht : P.underlying t = some (.slice e)) (hi : P.info? e = some i) (hz : i.zero = some z)
    (hsize : i.size = size) (hby : i.bytes = bytes) (hzs : z.cells.size = size) (hsz : 0 < size)
    (v : Value) (n : Nat) (xs : List Value) (hs : a.eval s = v) (hown : w.ownsRow base e size v n xs)
    (src : Option Addr) (m c : Nat) (news : List Value) (hx : a.eval x = .slice src m c) (hl : news.length = m * size) (hnil : src = none → m = 0) (hnews : ∀ ad, src = some ad → ∀ j u, news[j]? = some u → w.cell? (ad.add j) = some u) (h1 : ∀ u ∈ news, u.oneCell' = true)
    (h63 : n + m ≤ maxLen) (hbytes : (n + m) * bytes ≤ 140737488355328) (hbase : base ≤ w.heap.size)
    (h : ∀ v' w', w'.ownsRow base e size v' (n + m) (xs ++ news) → w.grownBy w' v.ownBlock → (v'.ownBlock = v.ownBlock ∨ v'.ownBlock = some w.heap.size) → K (a.put o.dst v') w') :
    if Region.wanted o (yielded ops a.tmps) = true then Oper.wp P o a w K Q else E := by
  have hw : Region.wanted o (yielded ops a.tmps) = true := by simp [Region.wanted, hgd]
  rw [if_pos hw]
  rcases src with _ | ad
  · obtain rfl := hnil rfl
    have hn : news = [] := List.eq_nil_of_length_eq_zero (by simpa using hl)
    subst hn
    have hg : w.grownBy w v.ownBlock := ⟨rfl, rfl, rfl, Nat.le_refl _, fun _ _ _ => rfl⟩
    have hr : (Builtin.append_ #[t, t] o.type #[v, .slice none 0 c]).run P w = .ok v w := by
      rcases hown.2 with ⟨rfl, rfl⟩ | ⟨g, cap, cur, rfl, hbg, hg, hnc, hcm, hcs, htake⟩
      · simp [Builtin.append_, run_underlying ht, sizeOf, typeInfo, hi, Builtin.lenOf, Builtin.firstCells]
      · have := run_append_room_src (P := P) w t t o.type e i ht hi g 0 n cap (.slice none 0 c) 0 [] (Src.ofNil w ht c) (by omega) (fun j hj => by simp at hj) (fun j hj => by simp at hj)
        simpa [World.setCells] using this
    refine Go.Lib.wp_append_run w s x t t ho v (.slice none 0 c) hs hx v w hr ?_
    refine h v w ?_ hg (.inl rfl)
    simpa using hown
  · obtain ⟨v', w', hr, h2, h3, _, h5⟩ := run_append_own_at (P := P) w base t o.type e i z size bytes ht hi hz hsize hby hzs hsz v n xs hown ad m c news hl (hnews ad rfl) h1 h63 hbytes hbase
    exact Go.Lib.wp_append_run w s x t t ho v (.slice (some ad) m c) hs hx v' w' hr (h v' w' h2 h3 h5)
theorem Ew.far {w w' : World} {q h l : Nat} {ob : Option Nat} (hg : w.grownBy w' ob) (e : Ew w q h l) (hne : ob ≠ some q) : Ew w' q h l := by
  have hq : q < w.heap.size := e.toEl.lt
  have hn : some q ≠ ob := fun h => hne h.symm
  exact ⟨⟨by rw [hg.cell_far ⟨q, 0, none⟩ hq hn]; exact e.hi, by rw [hg.cell_far ⟨q, 1, none⟩ hq hn]; exact e.lo⟩, by rw [hg.frozen_far ⟨q, 0, none⟩ hq hn]; exact e.fhi, by rw [hg.frozen_far ⟨q, 1, none⟩ hq hn]; exact e.flo⟩
theorem Hid.mk' {p : Prop} (h : p) : Hid p := h
theorem own_ne {w : World} {base : Nat} {T : TypeId} {v : Value} {n : Nat} {xs : List Value} (h : w.ownsRow base T 2 v n xs) : v.ownBlock ≠ some w.heap.size := fun e => Nat.lt_irrefl _ (h.lt _ e).2
theorem box_ne {w : World} {q b : Nat} {a : Option Addr} {n c : Nat} (h : Ew w q 0 0) (x : w.cell? ⟨b, 0, none⟩ = some (.slice a n c)) : q ≠ b ∧ b ≠ q := by
  have : q ≠ b := by
    rintro rfl
    have h1 := h.hi
    rw [x] at h1
    cases h1
  exact ⟨this, this.symm⟩
/-- A room that has just been laid. -/
theorem Ew.room (w : World) (T : TypeId) : Ew (w.alloc (Obj.cells #[.int .u64 0, .int .u64 0] T)) w.heap.size 0 0 := ⟨⟨by simp [go_sem], by simp [go_sem]⟩, by simp [go_sem], by simp [go_sem]⟩
theorem ERow.far {w w' : World} {a : Option Addr} {es : List (Nat × Nat)} {ob : Option Nat} (h : ERow w a es) (hg : w.grownBy w' ob) (hne : ∀ g off, a = some ⟨g, off, none⟩ → ob ≠ some g) : ERow w' a es := ⟨fun i hi => by
  obtain ⟨b, off, e, hb, c1, c0⟩ := h.cells i hi
  have hn : some b ≠ ob := fun h => hne b off e h.symm
  exact ⟨b, off, e, Nat.lt_of_lt_of_le hb hg.size, by rw [hg.cell_far ⟨b, off + i * 2, none⟩ hb hn]; exact c1, by rw [hg.cell_far ⟨b, off + i * 2 + 1, none⟩ hb hn]; exact c0⟩⟩
/-- The cells of a row that is appended. -/
theorem row_news {w : World} {a : Option Addr} {es : List (Nat × Nat)} (h : ERow w a es) : ∀ ad, a = some ad → ∀ j u, (flat es)[j]? = some u → w.cell? (ad.add j) = some u := by
  rintro ad rfl j u hu
  rcases Nat.eq_zero_or_pos es.length with h0 | h0
  · rw [List.eq_nil_of_length_eq_zero h0] at hu; simp [flat] at hu
  · obtain ⟨b, off, e, _⟩ := h.cells 0 h0
    injection e with e
    subst e
    exact h.cflatOn j u hu
theorem flat_app (es fs : List (Nat × Nat)) : flat es ++ flat fs = flat (es ++ fs) := by simp [flat]
theorem own_two {w : World} {base : Nat} {T : TypeId} {v : Value} {es fs : List (Nat × Nat)} {n m : Nat} (hn : es.length = n) (hm : fs.length = m) (h : w.ownsRow base T 2 v (0 + n + m) ([] ++ flat es ++ flat fs)) :
    ∃ a cap, v = .slice a (n + m) cap ∧ ERow w a (es ++ fs) := by
  have hl : (es ++ fs).length = n + m := by rw [List.length_append, hn, hm]
  have h' : w.ownsRow base T 2 v (es ++ fs).length (flat (es ++ fs)) := by
    rw [hl, ← flat_app, ← Nat.zero_add n]
    simpa using h
  obtain ⟨a, cap, e, hE⟩ := own_row h'
  rw [hl] at e
  exact ⟨a, cap, e, hE⟩
theorem El.newQ (w : World) (v : Nat × Nat) (T : TypeId) : El (w.alloc (Obj.cells #[.int .u64 (v.1 : Int), .int .u64 (v.2 : Int)] T)) w.heap.size v.1 v.2 := ⟨by simp [go_sem], by simp [go_sem]⟩
theorem name_box {w : World} {q : Nat} (b : Ew w q 0 0) : ∃ q', q' = q ∧ Ew w q' 0 0 := ⟨q, rfl, b⟩
theorem name_size (w : World) : ∃ q', q' = w.heap.size := ⟨_, rfl⟩
theorem El.offQ {w : World} {b c h l : Nat} (e : El w c h l) (hn : b ≠ c) (u v : Value) : El ((w.setCell ⟨b, 0, none⟩ u).setCell ⟨b, 1, none⟩ v) c h l := by
  obtain ⟨h1, h2⟩ := e
  have hn' : c ≠ b := fun h => hn h.symm
  exact ⟨by simp [go_sem, *], by simp [go_sem, *]⟩
/-- A box that was there is filled. -/
theorem box_end1 {w4 w7 : World} {q : Nat} (D : Below w4.heap.size w4 w7) (b : Ew w7 q 0 0) (hq : w4.heap.size ≤ q) (x : Nat × Nat) :
    El ((w7.setCell ⟨q, 0, none⟩ (.int .u64 (x.1 : Int))).setCell ⟨q, 1, none⟩ (.int .u64 (x.2 : Int))) q x.1 x.2 ∧ Below w4.heap.size w4 ((w7.setCell ⟨q, 0, none⟩ (.int .u64 (x.1 : Int))).setCell ⟨q, 1, none⟩ (.int .u64 (x.2 : Int))) :=
  ⟨(b.set x.1 x.2).toEl, (D.setCell hq _).setCell hq _⟩
/-- A box that is laid behind the call. -/
theorem box_end2 {w4 w7 : World} (D : Below w4.heap.size w4 w7) (x : Nat × Nat) (T : TypeId) :
    El (w7.alloc (Obj.cells #[.int .u64 (x.1 : Int), .int .u64 (x.2 : Int)] T)) w7.heap.size x.1 x.2 ∧ Below w4.heap.size w4 (w7.alloc (Obj.cells #[.int .u64 (x.1 : Int), .int .u64 (x.2 : Int)] T)) :=
  ⟨El.newQ w7 x T, D.alloc D.size _⟩
/-- Four values in boxes, and all that was there. -/
structure Us (R w : World) (qu qv qw qy : Nat) (u v x y : Nat × Nat) : Prop where
  u : El w qu u.1 u.2
  v : El w qv v.1 v.2
  x : El w qw x.1 x.2
  y : El w qy y.1 y.2
  d : Below R.heap.size R w
theorem Us.below {R w w' : World} {qu qv qw qy : Nat} {u v x y : Nat × Nat} (h : Us R w qu qv qw qy u v x y) (hb : Below w.heap.size w w') : Us R w' qu qv qw qy u v x y := ⟨h.u.below hb, h.v.below hb, h.x.below hb, h.y.below hb, h.d.trans (hb.mono h.d.size)⟩
theorem Us.drew {R w : World} {qu qv qw qy : Nat} {u v x y : Nat × Nat} (h : Us R w qu qv qw qy u v x y) : Us R w.drew qu qv qw qy u v x y := h.below (Below.refl _ _).drew
theorem Us.facts {R w : World} {qu qv qw qy : Nat} {u v x y : Nat × Nat} (h : Us R w qu qv qw qy u v x y) :
    w.cell? ⟨qu, 0, none⟩ = some (.int .u64 (u.1 : Int)) ∧ w.cell? ⟨qu, 1, none⟩ = some (.int .u64 (u.2 : Int)) ∧ w.cell? ⟨qv, 0, none⟩ = some (.int .u64 (v.1 : Int)) ∧ w.cell? ⟨qv, 1, none⟩ = some (.int .u64 (v.2 : Int)) ∧ w.cell? ⟨qw, 0, none⟩ = some (.int .u64 (x.1 : Int)) ∧ w.cell? ⟨qw, 1, none⟩ = some (.int .u64 (x.2 : Int)) ∧ w.cell? ⟨qy, 0, none⟩ = some (.int .u64 (y.1 : Int)) ∧ w.cell? ⟨qy, 1, none⟩ = some (.int .u64 (y.2 : Int)) :=
  ⟨h.u.hi, h.u.lo, h.v.hi, h.v.lo, h.x.hi, h.x.lo, h.y.hi, h.y.lo⟩
end Go.Proofs.Ytbomgcmmfeahiaa
