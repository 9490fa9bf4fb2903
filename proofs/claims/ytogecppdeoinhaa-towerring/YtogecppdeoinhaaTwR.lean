/- The walk of steeplelaw02.TowerRing over the seat's translation. -/
import Derived.Test.YtogecppdeoinhaaTwQ
import Derived.Deep.RegionHeld3
import Derived.Deep.DeepCutAuto
namespace Go.Proofs.Ytogecppdeoinhaa
open Go.RowKit

/-- The call gives r back, and leaves what lay there as it was. -/
def Ret (f : Nat) (args : Array Value) (r : Value) : Prop := ∀ W, Calls Try.prog f args W fun e w' => e = .returned r ∧ Below W.heap.size W w'
theorem Ret.go {f : Nat} {args : Array Value} {r : Value} (h : Ret f args r) (W : World) : Calls Try.prog f args W fun e w' => e = .returned r ∧ Below W.heap.size W w' := h W

/-- Four elements in memory. -/
structure B4 (W w : World) (p7 p8 p9 p10 xh xl yh yl zh zl ph pl : Nat) : Prop where
  x : El w p7 xh xl
  y : El w p8 yh yl
  z : El w p9 zh zl
  p : El w p10 ph pl
  b : Below W.heap.size W w
theorem B4.below {W w w' : World} {p7 p8 p9 p10 xh xl yh yl zh zl ph pl : Nat} (h : B4 W w p7 p8 p9 p10 xh xl yh yl zh zl ph pl) (hb : Below w.heap.size w w') : B4 W w' p7 p8 p9 p10 xh xl yh yl zh zl ph pl :=
  ⟨h.x.below hb, h.y.below hb, h.z.below hb, h.p.below hb, h.b.trans (hb.mono h.b.size)⟩
theorem B4.drew {W w : World} {p7 p8 p9 p10 xh xl yh yl zh zl ph pl : Nat} (h : B4 W w p7 p8 p9 p10 xh xl yh yl zh zl ph pl) : B4 W w.drew p7 p8 p9 p10 xh xl yh yl zh zl ph pl :=
  ⟨h.x.drew, h.y.drew, h.z.drew, h.p.drew, h.b.drew⟩
theorem B4.facts {W w : World} {p7 p8 p9 p10 xh xl yh yl zh zl ph pl : Nat} (h : B4 W w p7 p8 p9 p10 xh xl yh yl zh zl ph pl) :
    w.cell? ⟨p7, 0, none⟩ = some (.int .u64 (xh : Int)) ∧ w.cell? ⟨p7, 1, none⟩ = some (.int .u64 (xl : Int)) ∧ w.cell? ⟨p8, 0, none⟩ = some (.int .u64 (yh : Int)) ∧ w.cell? ⟨p8, 1, none⟩ = some (.int .u64 (yl : Int)) ∧ w.cell? ⟨p9, 0, none⟩ = some (.int .u64 (zh : Int)) ∧ w.cell? ⟨p9, 1, none⟩ = some (.int .u64 (zl : Int)) ∧ w.cell? ⟨p10, 0, none⟩ = some (.int .u64 (ph : Int)) ∧ w.cell? ⟨p10, 1, none⟩ = some (.int .u64 (pl : Int)) :=
  ⟨h.x.hi, h.x.lo, h.y.hi, h.y.lo, h.z.hi, h.z.lo, h.p.hi, h.p.lo⟩

/-- Two elements in memory. -/
structure B2 (W w : World) (p7 p8 xh xl yh yl : Nat) : Prop where
  x : El w p7 xh xl
  y : El w p8 yh yl
  b : Below W.heap.size W w
theorem B2.below {W w w' : World} {p7 p8 xh xl yh yl : Nat} (h : B2 W w p7 p8 xh xl yh yl) (hb : Below w.heap.size w w') : B2 W w' p7 p8 xh xl yh yl :=
  ⟨h.x.below hb, h.y.below hb, h.b.trans (hb.mono h.b.size)⟩
theorem B2.drew {W w : World} {p7 p8 xh xl yh yl : Nat} (h : B2 W w p7 p8 xh xl yh yl) : B2 W w.drew p7 p8 xh xl yh yl := ⟨h.x.drew, h.y.drew, h.b.drew⟩
theorem B2.alloc {W w : World} {p7 p8 xh xl yh yl : Nat} (h : B2 W w p7 p8 xh xl yh yl) (o : Obj) : B2 W (w.alloc o) p7 p8 xh xl yh yl := ⟨h.x.alloc o, h.y.alloc o, h.b.alloc h.b.size o⟩
theorem B2.facts {W w : World} {p7 p8 xh xl yh yl : Nat} (h : B2 W w p7 p8 xh xl yh yl) :
    w.cell? ⟨p7, 0, none⟩ = some (.int .u64 (xh : Int)) ∧ w.cell? ⟨p7, 1, none⟩ = some (.int .u64 (xl : Int)) ∧ w.cell? ⟨p8, 0, none⟩ = some (.int .u64 (yh : Int)) ∧ w.cell? ⟨p8, 1, none⟩ = some (.int .u64 (yl : Int)) :=
  ⟨h.x.hi, h.x.lo, h.y.hi, h.y.lo⟩

set_option maxHeartbeats 8000000 in
set_option maxRecDepth 100000 in
theorem ring_core (level : Int) (k : Nat) (ah al bh bl ch cl xh xl yh yl zh zl ph pl qh ql rh rl sh sl th tl uh ul : Nat)
    (HOF : Hid (∀ W b cap, b < W.heap.size → El W b ah al → W.cell? ⟨b, 2, none⟩ = some (.int .u64 (bh : Int)) → W.cell? ⟨b, 3, none⟩ = some (.int .u64 (bl : Int)) → W.cell? ⟨b, 4, none⟩ = some (.int .u64 (ch : Int)) → W.cell? ⟨b, 5, none⟩ = some (.int .u64 (cl : Int)) →
      Calls Try.prog 36 #[.int .i64 level, .slice (some ⟨b, 0, none⟩) 3 cap] W fun e w' => ∃ g cap2, e = .returned (.tuple #[.int .i64 (k : Int), .slice (some ⟨g, 0, none⟩) 3 cap2]) ∧ El w' g xh xl ∧ w'.cell? ⟨g, 2, none⟩ = some (.int .u64 (yh : Int)) ∧ w'.cell? ⟨g, 3, none⟩ = some (.int .u64 (yl : Int)) ∧ w'.cell? ⟨g, 4, none⟩ = some (.int .u64 (zh : Int)) ∧ w'.cell? ⟨g, 5, none⟩ = some (.int .u64 (zl : Int)) ∧ Below W.heap.size W w'))
    (M1 : Ret 15 #[.int .i64 (k : Int), .agg #[.int .u64 (xh : Int), .int .u64 (xl : Int)], .agg #[.int .u64 (yh : Int), .int .u64 (yl : Int)]] (.agg #[.int .u64 (ph : Int), .int .u64 (pl : Int)]))
    (M2 : Ret 15 #[.int .i64 (k : Int), .agg #[.int .u64 (yh : Int), .int .u64 (yl : Int)], .agg #[.int .u64 (xh : Int), .int .u64 (xl : Int)]] (.agg #[.int .u64 (ph : Int), .int .u64 (pl : Int)]))
    (M3 : Ret 15 #[.int .i64 (k : Int), .agg #[.int .u64 (ph : Int), .int .u64 (pl : Int)], .agg #[.int .u64 (zh : Int), .int .u64 (zl : Int)]] (.agg #[.int .u64 (qh : Int), .int .u64 (ql : Int)]))
    (M4 : Ret 15 #[.int .i64 (k : Int), .agg #[.int .u64 (yh : Int), .int .u64 (yl : Int)], .agg #[.int .u64 (zh : Int), .int .u64 (zl : Int)]] (.agg #[.int .u64 (rh : Int), .int .u64 (rl : Int)]))
    (M5 : Ret 15 #[.int .i64 (k : Int), .agg #[.int .u64 (xh : Int), .int .u64 (xl : Int)], .agg #[.int .u64 (rh : Int), .int .u64 (rl : Int)]] (.agg #[.int .u64 (qh : Int), .int .u64 (ql : Int)]))
    (A1 : Ret 12 #[.agg #[.int .u64 (yh : Int), .int .u64 (yl : Int)], .agg #[.int .u64 (zh : Int), .int .u64 (zl : Int)]] (.agg #[.int .u64 (sh : Int), .int .u64 (sl : Int)]))
    (M6 : Ret 15 #[.int .i64 (k : Int), .agg #[.int .u64 (xh : Int), .int .u64 (xl : Int)], .agg #[.int .u64 (sh : Int), .int .u64 (sl : Int)]] (.agg #[.int .u64 (th : Int), .int .u64 (tl : Int)]))
    (M7 : Ret 15 #[.int .i64 (k : Int), .agg #[.int .u64 (xh : Int), .int .u64 (xl : Int)], .agg #[.int .u64 (zh : Int), .int .u64 (zl : Int)]] (.agg #[.int .u64 (uh : Int), .int .u64 (ul : Int)]))
    (A2 : Ret 12 #[.agg #[.int .u64 (ph : Int), .int .u64 (pl : Int)], .agg #[.int .u64 (uh : Int), .int .u64 (ul : Int)]] (.agg #[.int .u64 (th : Int), .int .u64 (tl : Int)]))
    (AW : Ret 10 #[] (.bool true))
    (O1 : Ret 35 #[] (.agg #[.int .u64 0, .int .u64 1]))
    (M8 : Ret 15 #[.int .i64 (k : Int), .agg #[.int .u64 (xh : Int), .int .u64 (xl : Int)], .agg #[.int .u64 0, .int .u64 1]] (.agg #[.int .u64 (xh : Int), .int .u64 (xl : Int)]))
    (HS : Hid (∀ W b cap, b < W.heap.size → El W b xh xl → W.cell? ⟨b, 2, none⟩ = some (.int .u64 (yh : Int)) → W.cell? ⟨b, 3, none⟩ = some (.int .u64 (yl : Int)) → W.cell? ⟨b, 4, none⟩ = some (.int .u64 (xh : Int)) → W.cell? ⟨b, 5, none⟩ = some (.int .u64 (xl : Int)) → Calls Try.prog 37 #[.slice (some ⟨b, 0, none⟩) 3 cap] W fun e w' => e = .returned (.agg #[.int .u64 (yh : Int), .int .u64 (yl : Int)]) ∧ Below W.heap.size W w'))
    (S0 : Ret 37 #[.slice none 0 0] (.agg #[.int .u64 0, .int .u64 0]))
    (W : World) :
    Calls Try.prog 6 #[.int .i64 level, .agg #[.int .u64 (ah : Int), .int .u64 (al : Int), .int .u64 (bh : Int), .int .u64 (bl : Int), .int .u64 (ch : Int), .int .u64 (cl : Int)]] W fun e w' => e = .returned (.bool true) ∧ Below W.heap.size W w' := by
  go_enter Try.func6, Try.ntmps6
  go_wp2_with fail
  refine Calls.mono (HOF.out _ _ _ ?b ?x1 ?y1 ?y2 ?z1 ?z2) ?_
  case b => simp
  case x1 => exact ⟨by simp [go_sem], by simp [go_sem]⟩
  case y1 => simp [go_sem]
  case y2 => simp [go_sem]
  case z1 => simp [go_sem]
  case z2 => simp [go_sem]
  rintro e w1 ⟨g, cap2, rfl, ⟨e1, e0⟩, y1, y0, z1, z0, hb1⟩
  have HB : Hid (Below W.heap.size W w1) := (((Below.refl _ _).alloc (Nat.le_refl _) _).alloc (by simp) _).trans (hb1.mono (by simp <;> omega))
  have hg : g < w1.heap.size := (El.mk e1 e0).lt
  have hn0 : ¬ g = w1.heap.size := by omega
  have hn1 : ¬ g = w1.heap.size + 1 := by omega
  have hn2 : ¬ g = w1.heap.size + 1 + 1 := by omega
  have hl1 : g < w1.heap.size + 1 := by omega
  have hl2 : g < w1.heap.size + 1 + 1 := by omega
  clear HOF hb1
  go_upto_region 2 with fail
  go_cut [7, 8, 9] (fun s7 s8 s9 w => ∃ p7 p8 p9, s7 = .pointer (some ⟨p7, 0, none⟩) ∧ s8 = .pointer (some ⟨p8, 0, none⟩) ∧ s9 = .pointer (some ⟨p9, 0, none⟩) ∧ El w p7 xh xl ∧ El w p8 yh yl ∧ El w p9 zh zl ∧ Below W.heap.size W w)
  case first =>
    go_region
    all_goals
      go_wp2_with fail
      go_meet
      exact ⟨_, _, _, rfl, rfl, rfl, ⟨by simp [go_sem], by simp [go_sem]⟩, ⟨by simp [go_sem], by simp [go_sem]⟩, ⟨by simp [go_sem], by simp [go_sem]⟩, HB.out.trans (by have := HB.out.size; go_grown)⟩
  case rest =>
    obtain ⟨p7, p8, p9, rfl, rfl, rfl, X, Y, Z, hbw⟩ := hcut
    clear e1 e0 y1 y0 z1 z0 HB hg hn0 hn1 hn2 hl1 hl2
    have x1 := X.hi
    have x0 := X.lo
    have y1 := Y.hi
    have y0 := Y.lo
    go_wp2_with fail
    refine (M1.go _).mono ?_
    rintro e w2 ⟨rfl, hb2⟩
    have B0 : B4 W (w2.alloc (Obj.cells #[.int .u64 (ph : Int), .int .u64 (pl : Int)] 24)) p7 p8 p9 w2.heap.size xh xl yh yl zh zl ph pl :=
      ⟨(X.below hb2).alloc _, (Y.below hb2).alloc _, (Z.below hb2).alloc _, ⟨by simp [go_sem], by simp [go_sem]⟩, (hbw.trans (hb2.mono hbw.size)).alloc (by have := hbw.size; have := hb2.size; omega) _⟩
    clear x1 x0 y1 y0 X Y Z hbw hb2
    go_upto_region 4 with fail
    have F := B0.facts
    generalize w2.alloc (Obj.cells #[.int .u64 (ph : Int), .int .u64 (pl : Int)] 24) = w3 at *
    generalize w2.heap.size = p10 at *
    go_cut [70] (fun s w => s = .bool false ∧ El w p7 xh xl ∧ El w p8 yh yl ∧ Below W.heap.size W w)
    case first =>
      clear M1
      have B := B0
      clear B0
      go_region_held3 (fun w => w.cell? ⟨p7, 0, none⟩ = some (.int .u64 (xh : Int)) ∧ w.cell? ⟨p7, 1, none⟩ = some (.int .u64 (xl : Int)) ∧ w.cell? ⟨p8, 0, none⟩ = some (.int .u64 (yh : Int)) ∧ w.cell? ⟨p8, 1, none⟩ = some (.int .u64 (yl : Int)) ∧ w.cell? ⟨p9, 0, none⟩ = some (.int .u64 (zh : Int)) ∧ w.cell? ⟨p9, 1, none⟩ = some (.int .u64 (zl : Int)) ∧ w.cell? ⟨p10, 0, none⟩ = some (.int .u64 (ph : Int)) ∧ w.cell? ⟨p10, 1, none⟩ = some (.int .u64 (pl : Int))) (go_keep) (first | (go_at_call_of 15 (#[.int .i64 (k : Int), .agg #[.int .u64 (yh : Int), .int .u64 (yl : Int)], .agg #[.int .u64 (xh : Int), .int .u64 (xl : Int)]] : Array Value); refine (M2.go _).mono ?_; rintro e w' ⟨rfl, hb'⟩; have B'' : B4 W w' p7 p8 p9 p10 xh xl yh yl zh zl ph pl := (by first | exact B.below hb' | exact B.drew.below hb'); clear F B hb'; have B := B''; clear B''; have F := B.facts) | (go_at_call_of 15 (#[.int .i64 (k : Int), .agg #[.int .u64 (ph : Int), .int .u64 (pl : Int)], .agg #[.int .u64 (zh : Int), .int .u64 (zl : Int)]] : Array Value); refine (M3.go _).mono ?_; rintro e w' ⟨rfl, hb'⟩; have B'' : B4 W w' p7 p8 p9 p10 xh xl yh yl zh zl ph pl := (by first | exact B.below hb' | exact B.drew.below hb'); clear F B hb'; have B := B''; clear B''; have F := B.facts) | (go_at_call_of 15 (#[.int .i64 (k : Int), .agg #[.int .u64 (yh : Int), .int .u64 (yl : Int)], .agg #[.int .u64 (zh : Int), .int .u64 (zl : Int)]] : Array Value); refine (M4.go _).mono ?_; rintro e w' ⟨rfl, hb'⟩; have B'' : B4 W w' p7 p8 p9 p10 xh xl yh yl zh zl ph pl := (by first | exact B.below hb' | exact B.drew.below hb'); clear F B hb'; have B := B''; clear B''; have F := B.facts) | (go_at_call_of 15 (#[.int .i64 (k : Int), .agg #[.int .u64 (xh : Int), .int .u64 (xl : Int)], .agg #[.int .u64 (rh : Int), .int .u64 (rl : Int)]] : Array Value); refine (M5.go _).mono ?_; rintro e w' ⟨rfl, hb'⟩; have B'' : B4 W w' p7 p8 p9 p10 xh xl yh yl zh zl ph pl := (by first | exact B.below hb' | exact B.drew.below hb'); clear F B hb'; have B := B''; clear B''; have F := B.facts) | (go_at_call_of 15 (#[.int .i64 (k : Int), .agg #[.int .u64 (xh : Int), .int .u64 (xl : Int)], .agg #[.int .u64 (sh : Int), .int .u64 (sl : Int)]] : Array Value); refine (M6.go _).mono ?_; rintro e w' ⟨rfl, hb'⟩; have B'' : B4 W w' p7 p8 p9 p10 xh xl yh yl zh zl ph pl := (by first | exact B.below hb' | exact B.drew.below hb'); clear F B hb'; have B := B''; clear B''; have F := B.facts) | (go_at_call_of 15 (#[.int .i64 (k : Int), .agg #[.int .u64 (xh : Int), .int .u64 (xl : Int)], .agg #[.int .u64 (zh : Int), .int .u64 (zl : Int)]] : Array Value); refine (M7.go _).mono ?_; rintro e w' ⟨rfl, hb'⟩; have B'' : B4 W w' p7 p8 p9 p10 xh xl yh yl zh zl ph pl := (by first | exact B.below hb' | exact B.drew.below hb'); clear F B hb'; have B := B''; clear B''; have F := B.facts) | (go_at_call_of 12 (#[.agg #[.int .u64 (yh : Int), .int .u64 (yl : Int)], .agg #[.int .u64 (zh : Int), .int .u64 (zl : Int)]] : Array Value); refine (A1.go _).mono ?_; rintro e w' ⟨rfl, hb'⟩; have B'' : B4 W w' p7 p8 p9 p10 xh xl yh yl zh zl ph pl := (by first | exact B.below hb' | exact B.drew.below hb'); clear F B hb'; have B := B''; clear B''; have F := B.facts) | (go_at_call_of 12 (#[.agg #[.int .u64 (ph : Int), .int .u64 (pl : Int)], .agg #[.int .u64 (uh : Int), .int .u64 (ul : Int)]] : Array Value); refine (A2.go _).mono ?_; rintro e w' ⟨rfl, hb'⟩; have B'' : B4 W w' p7 p8 p9 p10 xh xl yh yl zh zl ph pl := (by first | exact B.below hb' | exact B.drew.below hb'); clear F B hb'; have B := B''; clear B''; have F := B.facts))
      all_goals
        go_wp2_with fail
        go_meet
        exact ⟨rfl, B.x, B.y, B.b⟩
    case rest =>
      obtain ⟨rfl, X, Y, hbw⟩ := hcut
      clear F B0 M1 M2 M3 M4 M5 M6 M7 A1 A2
      have B : B2 W wc p7 p8 xh xl yh yl := ⟨X, Y, hbw⟩
      have F := B.facts
      go_wp2_with fail
      clear X Y hbw
      go_region_held3 (fun w => w.cell? ⟨p7, 0, none⟩ = some (.int .u64 (xh : Int)) ∧ w.cell? ⟨p7, 1, none⟩ = some (.int .u64 (xl : Int)) ∧ w.cell? ⟨p8, 0, none⟩ = some (.int .u64 (yh : Int)) ∧ w.cell? ⟨p8, 1, none⟩ = some (.int .u64 (yl : Int))) (go_keep) (first | (go_at_call_of 10 (#[] : Array Value); refine (AW.go _).mono ?_; rintro e w' ⟨rfl, hb'⟩; have B'' : B2 W w' p7 p8 xh xl yh yl := (by first | exact B.below hb' | exact B.drew.below hb' | exact (B.alloc _).below hb'); clear F B hb'; have B := B''; clear B''; have F := B.facts) | (go_at_call_of 35 (#[] : Array Value); refine (O1.go _).mono ?_; rintro e w' ⟨rfl, hb'⟩; have B'' : B2 W w' p7 p8 xh xl yh yl := (by first | exact B.below hb' | exact B.drew.below hb' | exact (B.alloc _).below hb'); clear F B hb'; have B := B''; clear B''; have F := B.facts) | (go_at_call_of 15 (#[.int .i64 (k : Int), .agg #[.int .u64 (xh : Int), .int .u64 (xl : Int)], .agg #[.int .u64 0, .int .u64 1]] : Array Value); refine (M8.go _).mono ?_; rintro e w' ⟨rfl, hb'⟩; have B'' : B2 W w' p7 p8 xh xl yh yl := (by first | exact B.below hb' | exact B.drew.below hb' | exact (B.alloc _).below hb'); clear F B hb'; have B := B''; clear B''; have F := B.facts) | (go_at_call_of 37 (#[.slice none 0 0] : Array Value); refine (S0.go _).mono ?_; rintro e w' ⟨rfl, hb'⟩; have B'' : B2 W w' p7 p8 xh xl yh yl := (by first | exact B.below hb' | exact B.drew.below hb' | exact (B.alloc _).below hb'); clear F B hb'; have B := B''; clear B''; have F := B.facts) | (go_at_call 37; refine Calls.mono (HS.out _ _ _ ?b ?x1 ?y1 ?y2 ?z1 ?z2) ?_; (case b => simp); (case x1 => exact ⟨by simp [go_sem], by simp [go_sem]⟩); (case y1 => simp [go_sem]); (case y2 => simp [go_sem]); (case z1 => simp [go_sem]); (case z2 => simp [go_sem]); rintro e w' ⟨rfl, hb'⟩; have B'' : B2 W w' p7 p8 xh xl yh yl := (by first | exact B.below hb' | exact B.drew.below hb' | exact (B.alloc _).below hb'); clear F B hb'; have B := B''; clear B''; have F := B.facts))
      all_goals
        go_wp2
        go_ret
        exact ⟨rfl, B.b⟩

end Go.Proofs.Ytogecppdeoinhaa
