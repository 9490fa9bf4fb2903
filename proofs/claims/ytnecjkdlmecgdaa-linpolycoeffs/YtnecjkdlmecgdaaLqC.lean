/- The contracts of a space's has, value, Value and Norm, over the seat's translation. -/
import Derived.Test.YtnecjkdlmecgdaaPLqD
import Derived.Test.YtnecjkdlmecgdaaPLpI
import Derived.BigQuiet
namespace Go.Proofs.Ytnecjkdlmecgdaa
open Go.RowKit
open Cb Rg Sq Lq
open Tw (pm)

/-- Has a space so many dimensions, and an element's level? -/
def hsv (k n : Nat) (i : Int) (x : Nat × Nat) : Bool := decide (0 ≤ i) && (decide (i ≤ (n : Int)) && ofB (k : Int) (x.1 : Int) (x.2 : Int))
theorem hsv_yes {k n i : Nat} {x : Nat × Nat} (h : i ≤ n) (ox : ofE k x) : hsv k n (i : Int) x = true := by
  unfold hsv
  rw [show ofB (k : Int) (x.1 : Int) (x.2 : Int) = true from ox, decide_eq_true (by omega), decide_eq_true (by omega)]; rfl
set_option maxHeartbeats 4000000 in
set_option maxRecDepth 100000 in
theorem has_all {W : World} {p k : Nat} {es ts : List (Nat × Nat)} {a aT aB : Option Addr} {c cT cB : Nat} (hS : Spa W p k es ts a aT aB c cT cB) (i : Int) (x : Nat × Nat) (lx : lt2 x) :
    Calls Try.prog 46 #[.pointer (some ⟨p, 0, none⟩), .int .i64 i, .agg #[.int .u64 (x.1 : Int), .int .u64 (x.2 : Int)]] W fun e w' => e = .returned (.bool (hsv k es.length i x)) ∧ Below W.heap.size W w' := by
  have HO := hidT (of_ret (k : Int) x.1 x.2 lx.2)
  have c0 := hS.c0
  have c1 := hS.c1
  clear hS lx
  unfold hsv
  generalize es.length = n at *
  generalize ofB (k : Int) (x.1 : Int) (x.2 : Int) = b at *
  by_cases h0 : 0 ≤ i
  · by_cases h1 : i ≤ (n : Int)
    · rw [decide_eq_true h0, decide_eq_true h1]
      go_enter Try.func46, Try.ntmps46
      go_upto_region 1 with fail
      have D : Below W.heap.size W (W.alloc (Obj.cells #[.int .u64 (x.1 : Int), .int .u64 (x.2 : Int)] 27)) := (Below.refl _ _).alloc (Nat.le_refl _) _
      have F : (W.alloc (Obj.cells #[.int .u64 (x.1 : Int), .int .u64 (x.2 : Int)] 27)).cell? ⟨W.heap.size, 0, none⟩ = some (.int .u64 (x.1 : Int)) ∧ (W.alloc (Obj.cells #[.int .u64 (x.1 : Int), .int .u64 (x.2 : Int)] 27)).cell? ⟨W.heap.size, 1, none⟩ = some (.int .u64 (x.2 : Int)) ∧ (W.alloc (Obj.cells #[.int .u64 (x.1 : Int), .int .u64 (x.2 : Int)] 27)).cell? ⟨p, 0, none⟩ = some (.int .i64 (k : Int)) ∧ (W.alloc (Obj.cells #[.int .u64 (x.1 : Int), .int .u64 (x.2 : Int)] 27)).cell? ⟨p, 1, none⟩ = some (.slice a n c) := ⟨by simp [go_sem], by simp [go_sem], keepc D c0, keepc D c1⟩
      clear c0 c1
      generalize (W.alloc (Obj.cells #[.int .u64 (x.1 : Int), .int .u64 (x.2 : Int)] 27)) = w1 at *
      go_region_held3 (fun w => w.cell? ⟨W.heap.size, 0, none⟩ = some (.int .u64 (x.1 : Int)) ∧ w.cell? ⟨W.heap.size, 1, none⟩ = some (.int .u64 (x.2 : Int)) ∧ w.cell? ⟨p, 0, none⟩ = some (.int .i64 (k : Int)) ∧ w.cell? ⟨p, 1, none⟩ = some (.slice a n c)) (go_keep) (first | (go_at_call 54; refine (HO.out.go _).mono ?_; rintro e w' ⟨rfl, hb'⟩; have F' := And.intro (keepc hb' F.1) (And.intro (keepc hb' F.2.1) (And.intro (keepc hb' F.2.2.1) (keepc hb' F.2.2.2))); have D' : Below W.heap.size W w' := (D.drew).trans (hb'.mono D.size); clear F D hb'; have F := F'; have D := D'; clear F' D'))
      all_goals
        go_wp2
        go_ret
        exact ⟨by simp, D⟩
    · rw [decide_eq_true h0, decide_eq_false h1]
      have hd0 : decide (0 ≤ i) = true := decide_eq_true h0
      have hd1 : decide (i ≤ (n : Int)) = false := decide_eq_false h1
      go_enter Try.func46, Try.ntmps46
      go_upto_region 1 with fail
      have D : Below W.heap.size W (W.alloc (Obj.cells #[.int .u64 (x.1 : Int), .int .u64 (x.2 : Int)] 27)) := (Below.refl _ _).alloc (Nat.le_refl _) _
      have F1 : (W.alloc (Obj.cells #[.int .u64 (x.1 : Int), .int .u64 (x.2 : Int)] 27)).cell? ⟨p, 1, none⟩ = some (.slice a n c) := keepc D c1
      clear c0 c1
      generalize (W.alloc (Obj.cells #[.int .u64 (x.1 : Int), .int .u64 (x.2 : Int)] 27)) = w1 at *
      go_quiet (fail)
      go_wp2
      go_ret
      exact ⟨rfl, below_drewN D _⟩
  · rw [decide_eq_false h0]
    have hd0 : decide (0 ≤ i) = false := decide_eq_false h0
    go_enter Try.func46, Try.ntmps46
    go_wp2
    go_quiet (fail)
    go_wp2
    go_ret
    exact ⟨rfl, below_drewN ((Below.refl _ _).alloc (Nat.le_refl _) _) _⟩
theorem svalue {W : World} {p k : Nat} {es ts : List (Nat × Nat)} {a aT aB : Option Addr} {c cT cB : Nat} (hS : Spa W p k es ts a aT aB c cT cB) (hu : Spu k es ts c cT) (i : Nat) (hi : i ≤ es.length) (x : Nat × Nat) (lx : lt2 x) (ox : ofE k x) :
    Calls Try.prog 50 #[.pointer (some ⟨p, 0, none⟩), .int .i64 (i : Int), .agg #[.int .u64 (x.1 : Int), .int .u64 (x.2 : Int)]] W fun e w' => e = .returned (.agg #[.int .u64 ((vw es i x).1 : Int), .int .u64 ((vw es i x).2 : Int)]) ∧ Below W.heap.size W w' := by
  have h := value_any (k : Int) p i x aT cT ts W (cell_lt hS.c0) hS.c0 (by rw [hu.tl]; exact hS.c2) hS.r2 (by rw [hu.tl]; exact hi) (by have := hu.tl; have := hu.h10; omega) hu.lts lx.1 lx.2
  rw [wv_vw hu.hk hu.of hu.lt hu.tops i (by rw [hu.tl]; exact hi) lx ox] at h
  exact h
set_option maxHeartbeats 2000000 in
set_option maxRecDepth 100000 in
theorem sval_no {W : World} {p k : Nat} {es ts : List (Nat × Nat)} {a aT aB : Option Addr} {c cT cB : Nat} (hS : Spa W p k es ts a aT aB c cT cB) (i : Int) (x : Nat × Nat) (lx : lt2 x) (h : hsv k es.length i x = false) :
    Calls Try.prog 22 #[.pointer (some ⟨p, 0, none⟩), .int .i64 i, .agg #[.int .u64 (x.1 : Int), .int .u64 (x.2 : Int)]] W fun e w' => e = .returned (.agg #[.int .u64 0, .int .u64 0]) ∧ Below W.heap.size W w' := by
  have HH := hidT (fun w (hb : Below W.heap.size W w) => has_all (hS.below hb) i x lx)
  rw [h] at HH
  clear hS lx h
  go_enter Try.func22, Try.ntmps22
  go_wp2_with fail
  have D0 : Below W.heap.size W ((W.alloc (Obj.cells #[.int .u64 (x.1 : Int), .int .u64 (x.2 : Int)] 27)).alloc (Obj.cells #[.int .u64 0, .int .u64 0] 27)) := ((Below.refl _ _).alloc (Nat.le_refl _) _).alloc (by simp) _
  refine (HH.out _ D0).mono ?_
  rintro e w1 ⟨rfl, hb1⟩
  have D1 : Below W.heap.size W w1 := D0.trans (hb1.mono (by simp <;> omega))
  obtain ⟨⟨r1, r0⟩, f1, f0⟩ : Ew w1 (W.heap.size + 1) 0 0 := Ew.below ⟨⟨by simp [go_sem], by simp [go_sem]⟩, by simp [go_sem], by simp [go_sem]⟩ hb1
  have HD1 := hidT D1
  clear hb1 D0 D1 HH
  go_wp2
  refine bodyPost_ret (v := .agg #[.int .u64 0, .int .u64 0]) (by simp [results, Try.results22, go_sem, *]) rfl ⟨rfl, ?_⟩
  exact below2 (p := W.heap.size + 1) HD1.out (by omega) _ _
set_option maxHeartbeats 2000000 in
set_option maxRecDepth 100000 in
theorem sval_ok {W : World} {p k : Nat} {es ts : List (Nat × Nat)} {a aT aB : Option Addr} {c cT cB : Nat} (hS : Spa W p k es ts a aT aB c cT cB) (hu : Spu k es ts c cT) (i : Nat) (hi : i ≤ es.length) (x : Nat × Nat) (lx : lt2 x) (ox : ofE k x) :
    Calls Try.prog 22 #[.pointer (some ⟨p, 0, none⟩), .int .i64 (i : Int), .agg #[.int .u64 (x.1 : Int), .int .u64 (x.2 : Int)]] W fun e w' => e = .returned (.agg #[.int .u64 ((vw es i x).1 : Int), .int .u64 ((vw es i x).2 : Int)]) ∧ Below W.heap.size W w' := by
  have HH := hidT (fun w (hb : Below W.heap.size W w) => has_all (hS.below hb) (i : Int) x lx)
  rw [hsv_yes hi ox] at HH
  have HV := hidT (fun w (hb : Below W.heap.size W w) => svalue (hS.below hb) hu i hi x lx ox)
  clear hS hu lx ox hi
  generalize vw es i x = v at *
  go_enter Try.func22, Try.ntmps22
  go_wp2_with fail
  have D0 : Below W.heap.size W ((W.alloc (Obj.cells #[.int .u64 (x.1 : Int), .int .u64 (x.2 : Int)] 27)).alloc (Obj.cells #[.int .u64 0, .int .u64 0] 27)) := ((Below.refl _ _).alloc (Nat.le_refl _) _).alloc (by simp) _
  refine (HH.out _ D0).mono ?_
  rintro e w1 ⟨rfl, hb1⟩
  have D1 : Below W.heap.size W w1 := D0.trans (hb1.mono (by simp <;> omega))
  have R : Ew w1 (W.heap.size + 1) 0 0 := Ew.below ⟨⟨by simp [go_sem], by simp [go_sem]⟩, by simp [go_sem], by simp [go_sem]⟩ hb1
  obtain ⟨a1, a0⟩ : El w1 W.heap.size x.1 x.2 := El.below ⟨by simp [go_sem], by simp [go_sem]⟩ hb1
  have HR := hidT R
  have HD1 := hidT D1
  clear hb1 D0 R D1 HH
  go_wp2_with fail
  refine (HV.out w1 HD1.out).mono ?_
  rintro e w2 ⟨rfl, hb2⟩
  have HD2 := hidT (HD1.out.trans (hb2.mono HD1.out.size))
  obtain ⟨⟨r1, r0⟩, f1, f0⟩ := HR.out.below hb2
  clear hb2 a1 a0 HR HD1 HV
  go_wp2
  refine bodyPost_ret (v := .agg #[.int .u64 ((v).1 : Int), .int .u64 ((v).2 : Int)]) (by simp [results, Try.results22, go_sem, *]) rfl ⟨rfl, ?_⟩
  exact below2 (p := W.heap.size + 1) HD2.out (by omega) _ _
set_option maxHeartbeats 2000000 in
set_option maxRecDepth 100000 in
theorem snorm_no {W : World} {p k : Nat} {es ts : List (Nat × Nat)} {a aT aB : Option Addr} {c cT cB : Nat} (hS : Spa W p k es ts a aT aB c cT cB) (i : Int) (x : Nat × Nat) (lx : lt2 x) (h : hsv k es.length i x = false ∨ i = (es.length : Int)) :
    Calls Try.prog 23 #[.pointer (some ⟨p, 0, none⟩), .int .i64 i, .agg #[.int .u64 (x.1 : Int), .int .u64 (x.2 : Int)]] W fun e w' => e = .returned (.agg #[.int .u64 0, .int .u64 0]) ∧ Below W.heap.size W w' := by
  have HH := hidT (fun w (hb : Below W.heap.size W w) => has_all (hS.below hb) i x lx)
  have HC1 : Hid (∀ w, Below W.heap.size W w → w.cell? ⟨p, 1, none⟩ = some (.slice a es.length c)) := fun w hb => keepc hb hS.c1
  clear hS lx
  generalize hsv k es.length i x = b at *
  generalize es.length = n at *
  cases b
  · clear h
    go_enter Try.func23, Try.ntmps23
    go_wp2_with fail
    have D0 : Below W.heap.size W ((W.alloc (Obj.cells #[.int .u64 (x.1 : Int), .int .u64 (x.2 : Int)] 27)).alloc (Obj.cells #[.int .u64 0, .int .u64 0] 27)) := ((Below.refl _ _).alloc (Nat.le_refl _) _).alloc (by simp) _
    refine (HH.out _ D0).mono ?_
    rintro e w1 ⟨rfl, hb1⟩
    have D1 : Below W.heap.size W w1 := D0.trans (hb1.mono (by simp <;> omega))
    obtain ⟨⟨r1, r0⟩, f1, f0⟩ : Ew w1 (W.heap.size + 1) 0 0 := Ew.below ⟨⟨by simp [go_sem], by simp [go_sem]⟩, by simp [go_sem], by simp [go_sem]⟩ hb1
    have HD1 := hidT D1
    clear hb1 D0 D1 HH
    go_wp2
    refine bodyPost_ret (v := .agg #[.int .u64 0, .int .u64 0]) (by simp [results, Try.results23, go_sem, *]) rfl ⟨rfl, ?_⟩
    exact below2 (p := W.heap.size + 1) HD1.out (by omega) _ _
  · have hi : i = (n : Int) := h.resolve_left (by decide)
    clear h
    subst hi
    go_enter Try.func23, Try.ntmps23
    go_wp2_with fail
    have D0 : Below W.heap.size W ((W.alloc (Obj.cells #[.int .u64 (x.1 : Int), .int .u64 (x.2 : Int)] 27)).alloc (Obj.cells #[.int .u64 0, .int .u64 0] 27)) := ((Below.refl _ _).alloc (Nat.le_refl _) _).alloc (by simp) _
    refine (HH.out _ D0).mono ?_
    rintro e w1 ⟨rfl, hb1⟩
    have D1 : Below W.heap.size W w1 := D0.trans (hb1.mono (by simp <;> omega))
    obtain ⟨⟨r1, r0⟩, f1, f0⟩ : Ew w1 (W.heap.size + 1) 0 0 := Ew.below ⟨⟨by simp [go_sem], by simp [go_sem]⟩, by simp [go_sem], by simp [go_sem]⟩ hb1
    have C1 := HC1.out w1 D1
    have HD1 := hidT D1
    clear hb1 D0 D1 HH HC1
    go_wp2
    refine bodyPost_ret (v := .agg #[.int .u64 0, .int .u64 0]) (by simp [results, Try.results23, go_sem, *]) rfl ⟨rfl, ?_⟩
    exact below2 (p := W.heap.size + 1) HD1.out (by omega) _ _
/-- What Norm holds. -/
structure Nr (W w : World) (p k n : Nat) (g off cB i : Nat) (x y : Nat × Nat) : Prop where
  c0 : w.cell? ⟨p, 0, none⟩ = some (.int .i64 (k : Int))
  c3 : w.cell? ⟨p, 3, none⟩ = some (.slice (some ⟨g, off, none⟩) n cB)
  y1 : w.cell? ⟨g, off + i * 2, none⟩ = some (.int .u64 (y.1 : Int))
  y0 : w.cell? ⟨g, off + i * 2 + 1, none⟩ = some (.int .u64 (y.2 : Int))
  x : El w W.heap.size x.1 x.2
  r : Ew w (W.heap.size + 1) 0 0
  d : Below W.heap.size W w
theorem Nr.below {W w w' : World} {p k n g off cB i : Nat} {x y : Nat × Nat} (h : Nr W w p k n g off cB i x y) (hb : Below w.heap.size w w') : Nr W w' p k n g off cB i x y :=
  ⟨keepc hb h.c0, keepc hb h.c3, keepc hb h.y1, keepc hb h.y0, h.x.below hb, h.r.below hb, h.d.trans (hb.mono h.d.size)⟩
theorem Nr.drew {W w : World} {p k n g off cB i : Nat} {x y : Nat × Nat} (h : Nr W w p k n g off cB i x y) : Nr W w.drew p k n g off cB i x y := h.below (Below.refl _ _).drew
theorem Nr.facts {W w : World} {p k n g off cB i : Nat} {x y : Nat × Nat} (h : Nr W w p k n g off cB i x y) : w.cell? ⟨p, 0, none⟩ = some (.int .i64 (k : Int)) ∧ w.cell? ⟨p, 3, none⟩ = some (.slice (some ⟨g, off, none⟩) n cB) ∧ w.cell? ⟨g, off + i * 2, none⟩ = some (.int .u64 (y.1 : Int)) ∧ w.cell? ⟨g, off + i * 2 + 1, none⟩ = some (.int .u64 (y.2 : Int)) ∧ w.cell? ⟨W.heap.size, 0, none⟩ = some (.int .u64 (x.1 : Int)) ∧ w.cell? ⟨W.heap.size, 1, none⟩ = some (.int .u64 (x.2 : Int)) := ⟨h.c0, h.c3, h.y1, h.y0, h.x.hi, h.x.lo⟩
set_option maxHeartbeats 4000000 in
set_option maxRecDepth 100000 in
theorem snorm_ok {W : World} {p k : Nat} {es ts : List (Nat × Nat)} {a aT aB : Option Addr} {c cT cB : Nat} (hS : Spa W p k es ts a aT aB c cT cB) (hu : Spu k es ts c cT) (i : Nat) (hi : i < es.length) (x : Nat × Nat) (lx : lt2 x) (ox : ofE k x) :
    Calls Try.prog 23 #[.pointer (some ⟨p, 0, none⟩), .int .i64 (i : Int), .agg #[.int .u64 (x.1 : Int), .int .u64 (x.2 : Int)]] W fun e w' => e = .returned (.agg #[.int .u64 ((mulv (k : Int) (vw es i x) (ivv (k : Int) (vw es i (el es i)))).1 : Int), .int .u64 ((mulv (k : Int) (vw es i x) (ivv (k : Int) (vw es i (el es i)))).2 : Int)]) ∧ Below W.heap.size W w' := by
  have HH := hidT (fun w (hb : Below W.heap.size W w) => has_all (hS.below hb) (i : Int) x lx)
  rw [hsv_yes (by omega) ox] at HH
  have HV := hidT (fun w (hb : Below W.heap.size W w) => svalue (hS.below hb) hu i (by omega) x lx ox)
  have ey : el (ts.map (ivv (k : Int))) i = ivv (k : Int) (vw es i (el es i)) := by
    rw [el_map (by rw [hu.tl]; exact hi), top_vw hu.hk hu.of hu.lt hu.tops (by rw [hu.tl]; exact hi)]
  have ly : lt2 (ivv (k : Int) (vw es i (el es i))) := by
    unfold ivv; split
    · exact ⟨Tw.ivh_lt _ _, Tw.ivl_lt _ _⟩
    · exact lt_zero
  have HM := hidT (mul_any (k : Int) (vw es i x) (ivv (k : Int) (vw es i (el es i))) (lt_vw es i x).1 (lt_vw es i x).2 ly.1 ly.2)
  obtain ⟨g, off, rfl, hg, d1, d0⟩ := hS.r3.cells i (by rw [List.length_map, hu.tl]; exact hi)
  rw [show (ts.map (ivv (k : Int))).getD i (0, 0) = ivv (k : Int) (vw es i (el es i)) from ey] at d1 d0
  have c0 := hS.c0
  have c1 := hS.c1
  have c3 := hS.c3
  have hz : ¬ (i : Int) = (es.length : Int) := by omega
  have i1 : (i : Int) < (es.length : Int) := by omega
  have i0' : (0 : Int) ≤ (i : Int) := by omega
  clear hS hu lx ox ey ly
  generalize vw es i x = v at *
  generalize ivv (k : Int) (vw es i (el es i)) = y at *
  generalize mulv (k : Int) v y = z at *
  generalize es.length = n at *
  go_enter Try.func23, Try.ntmps23
  go_wp2_with fail
  have D0 : Below W.heap.size W ((W.alloc (Obj.cells #[.int .u64 (x.1 : Int), .int .u64 (x.2 : Int)] 27)).alloc (Obj.cells #[.int .u64 0, .int .u64 0] 27)) := ((Below.refl _ _).alloc (Nat.le_refl _) _).alloc (by simp) _
  refine (HH.out _ D0).mono ?_
  rintro e w1 ⟨rfl, hb1⟩
  have D1 : Below W.heap.size W w1 := D0.trans (hb1.mono (by simp <;> omega))
  have C1 : w1.cell? ⟨p, 1, none⟩ = some (.slice a n c) := keepc D1 c1
  have K : Hid (Nr W w1 p k n g off cB i x y) := ⟨keepc D1 c0, keepc D1 c3, keepc D1 d1, keepc D1 d0, El.below ⟨by simp [go_sem], by simp [go_sem]⟩ hb1, Ew.below ⟨⟨by simp [go_sem], by simp [go_sem]⟩, by simp [go_sem], by simp [go_sem]⟩ hb1, D1⟩
  clear hb1 D0 D1 HH c0 c1 c3 d1 d0 hg
  go_upto_region 3 with fail
  clear C1
  refine wp_region_noPanic ?_
  refine wp_region_peel (S := fun w => w.cell? ⟨p, 0, none⟩ = some (.int .i64 (k : Int)) ∧ w.cell? ⟨p, 3, none⟩ = some (.slice (some ⟨g, off, none⟩) n cB) ∧ w.cell? ⟨g, off + i * 2, none⟩ = some (.int .u64 (y.1 : Int)) ∧ w.cell? ⟨g, off + i * 2 + 1, none⟩ = some (.int .u64 (y.2 : Int)) ∧ w.cell? ⟨W.heap.size, 0, none⟩ = some (.int .u64 (x.1 : Int)) ∧ w.cell? ⟨W.heap.size, 1, none⟩ = some (.int .u64 (x.2 : Int))) 16 (by kernel_rfl) rfl (by kernel_rfl) ?_ (fun hHeld => ?_)
  · exact K.out.facts
  refine wpAnyH_take (i := 0) (oi := _) (v := ?_) rfl (by kernel_rfl) (by kernel_rfl) (by kernel_rfl) (fun _ _ _ h => h) (Or.inl ⟨by rfl, ?_⟩) (by assumption) ?_
  rotate_left
  · ((intro w hSw; (try dsimp only at hSw); go_simp) <;> (try with_reducible rfl))
  show wpAnyH _ _ _ _ _ _ _ (Act.put _ (some 22) _) _
  simp only [Act.put, List.setIfInBounds_toArray, List.set_cons_succ, List.set_cons_zero]
  refine wpAnyH_take (i := 1) (oi := _) (v := ?_) rfl (by kernel_rfl) (by kernel_rfl) (by kernel_rfl) (fun _ _ _ h => h) (Or.inl ⟨by rfl, ?_⟩) (by assumption) ?_
  rotate_left
  · ((intro w hSw; (try dsimp only at hSw); go_simp) <;> (try with_reducible rfl))
  show wpAnyH _ _ _ _ _ _ _ (Act.put _ (some 23) _) _
  simp only [Act.put, List.setIfInBounds_toArray, List.set_cons_succ, List.set_cons_zero]
  refine wpAnyH_take (i := 2) (oi := _) (v := ?_) rfl (by kernel_rfl) (by kernel_rfl) (by kernel_rfl) (fun _ _ _ h => h) (Or.inl ⟨by rfl, ?_⟩) (by assumption) ?_
  rotate_left
  · ((intro w hSw; (try dsimp only at hSw); go_simp) <;> (try with_reducible rfl))
  show wpAnyH _ _ _ _ _ _ _ (Act.put _ (some 24) _) _
  simp only [Act.put, List.setIfInBounds_toArray, List.set_cons_succ, List.set_cons_zero]
  refine wpAnyH_take (i := 3) (oi := _) (v := ?_) rfl (by kernel_rfl) (by kernel_rfl) (by kernel_rfl) (fun _ _ _ h => h) (Or.inl ⟨by rfl, ?_⟩) (by assumption) ?_
  rotate_left
  · ((intro w hSw; (try dsimp only at hSw); go_simp) <;> (try with_reducible rfl))
  show wpAnyH _ _ _ _ _ _ _ (Act.put _ (some 25) _) _
  simp only [Act.put, List.setIfInBounds_toArray, List.set_cons_succ, List.set_cons_zero]
  refine wpAnyH_take (i := 4) (oi := _) (v := ?_) rfl (by kernel_rfl) (by kernel_rfl) (by kernel_rfl) (fun _ _ _ h => h) (Or.inl ⟨by rfl, ?_⟩) (by assumption) ?_
  rotate_left
  · ((intro w hSw; (try dsimp only at hSw); go_simp) <;> (try with_reducible rfl))
  show wpAnyH _ _ _ _ _ _ _ (Act.put _ (some 26) _) _
  simp only [Act.put, List.setIfInBounds_toArray, List.set_cons_succ, List.set_cons_zero]
  refine wpAnyH_take (i := 5) (oi := _) (v := ?_) rfl (by kernel_rfl) (by kernel_rfl) (by kernel_rfl) (fun _ _ _ h => h) (Or.inl ⟨by rfl, ?_⟩) (by assumption) ?_
  rotate_left
  · ((intro w hSw; (try dsimp only at hSw); go_simp) <;> (try with_reducible rfl))
  show wpAnyH _ _ _ _ _ _ _ (Act.put _ (some 27) _) _
  simp only [Act.put, List.setIfInBounds_toArray, List.set_cons_succ, List.set_cons_zero]
  refine wpAnyH_take (i := 6) (oi := _) (v := ?_) rfl (by kernel_rfl) (by kernel_rfl) (by kernel_rfl) (fun _ _ _ h => h) (Or.inl ⟨by rfl, ?_⟩) (by assumption) ?_
  rotate_left
  · ((intro w hSw; (try dsimp only at hSw); go_simp) <;> (try with_reducible rfl))
  show wpAnyH _ _ _ _ _ _ _ (Act.put _ (some 28) _) _
  simp only [Act.put, List.setIfInBounds_toArray, List.set_cons_succ, List.set_cons_zero]
  refine wpAnyH_take (i := 8) (oi := _) (v := ?_) rfl (by kernel_rfl) (by kernel_rfl) (by kernel_rfl) (fun _ _ _ h => h) (Or.inl ⟨by rfl, ?_⟩) (by assumption) ?_
  rotate_left
  · ((intro w hSw; (try dsimp only at hSw); go_simp) <;> (try with_reducible rfl))
  show wpAnyH _ _ _ _ _ _ _ (Act.put _ (some 30) _) _
  simp only [Act.put, List.setIfInBounds_toArray, List.set_cons_succ, List.set_cons_zero]
  refine wpAnyH_take (i := 9) (oi := _) (v := ?_) rfl (by kernel_rfl) (by kernel_rfl) (by kernel_rfl) (fun _ _ _ h => h) (Or.inl ⟨by rfl, ?_⟩) (by assumption) ?_
  rotate_left
  · ((intro w hSw; (try dsimp only at hSw); go_simp) <;> (try with_reducible rfl))
  show wpAnyH _ _ _ _ _ _ _ (Act.put _ (some 31) _) _
  simp only [Act.put, List.setIfInBounds_toArray, List.set_cons_succ, List.set_cons_zero]
  refine wpAnyH_take (i := 10) (oi := _) (v := ?_) rfl (by kernel_rfl) (by kernel_rfl) (by kernel_rfl) (fun _ _ _ h => h) (Or.inl ⟨by rfl, ?_⟩) (by assumption) ?_
  rotate_left
  · ((intro w hSw; (try dsimp only at hSw); go_simp) <;> (try with_reducible rfl))
  show wpAnyH _ _ _ _ _ _ _ (Act.put _ (some 32) _) _
  simp only [Act.put, List.setIfInBounds_toArray, List.set_cons_succ, List.set_cons_zero]
  refine wpAnyH_take (i := 11) (oi := _) (v := ?_) rfl (by kernel_rfl) (by kernel_rfl) (by kernel_rfl) (fun _ _ _ h => h) (Or.inl ⟨by rfl, ?_⟩) (by assumption) ?_
  rotate_left
  · ((intro w hSw; (try dsimp only at hSw); go_simp) <;> (try with_reducible rfl))
  show wpAnyH _ _ _ _ _ _ _ (Act.put _ (some 33) _) _
  simp only [Act.put, List.setIfInBounds_toArray, List.set_cons_succ, List.set_cons_zero]
  refine wpAnyH_take (i := 12) (oi := _) (v := ?_) rfl (by kernel_rfl) (by kernel_rfl) (by kernel_rfl) (fun _ _ _ h => h) (Or.inl ⟨by rfl, ?_⟩) (by assumption) ?_
  rotate_left
  · ((intro w hSw; (try dsimp only at hSw); go_simp) <;> (try with_reducible rfl))
  show wpAnyH _ _ _ _ _ _ _ (Act.put _ (some 34) _) _
  simp only [Act.put, List.setIfInBounds_toArray, List.set_cons_succ, List.set_cons_zero]
  refine wpAnyH_take (i := 13) (oi := _) (v := ?_) rfl (by kernel_rfl) (by kernel_rfl) (by kernel_rfl) (fun _ _ _ h => h) (Or.inl ⟨by rfl, ?_⟩) (by assumption) ?_
  rotate_left
  · ((intro w hSw; (try dsimp only at hSw); go_simp) <;> (try with_reducible rfl))
  show wpAnyH _ _ _ _ _ _ _ (Act.put _ (some 35) _) _
  simp only [Act.put, List.setIfInBounds_toArray, List.set_cons_succ, List.set_cons_zero]
  refine wpAnyH_take (i := 14) (oi := _) (v := ?_) rfl (by kernel_rfl) (by kernel_rfl) (by kernel_rfl) (fun _ _ _ h => h) (Or.inl ⟨by rfl, ?_⟩) (by assumption) ?_
  rotate_left
  · ((intro w hSw; (try dsimp only at hSw); go_simp) <;> (try with_reducible rfl))
  show wpAnyH _ _ _ _ _ _ _ (Act.put _ (some 36) _) _
  simp only [Act.put, List.setIfInBounds_toArray, List.set_cons_succ, List.set_cons_zero]
  refine wpAnyH_ready (rs := [7]) (by kernel_rfl) (by simp) ?_
  refine AllReadyH.cons (o := _) rfl (fun KK hKK => ?_) AllReadyH.nil
  go_simp
  (refine (HV.out _ (by first | exact K.out.d | exact K.out.d.drew)).mono ?_; rintro e w' ⟨rfl, hb'⟩)
  have K'' := hidT (Nr.below (w' := w') (by first | exact K.out | exact K.out.drew) hb'); clear K hb'; have K := K''; clear K''
  refine hKK.out _ _ ?_ (fun hHeld => ?_)
  · exact K.out.facts
  clear hKK KK
  try simp only [Act.put]
  refine wpAnyH_ready (rs := [15]) (by kernel_rfl) (by simp) ?_
  refine AllReadyH.cons (o := _) rfl (fun KK hKK => ?_) AllReadyH.nil
  go_simp
  (refine (HM.out.go _).mono ?_; rintro e w' ⟨rfl, hb'⟩)
  have K'' := hidT (Nr.below (w' := w') (by first | exact K.out | exact K.out.drew) hb'); clear K hb'; have K := K''; clear K''
  refine hKK.out _ _ ?_ (fun hHeld => ?_)
  · exact K.out.facts
  clear hKK KK
  try simp only [Act.put]
  refine wpAnyH_done (by kernel_rfl) ?_ _
  refine peel_last rfl (fun KK hKK => ?_)
  clear hHeld
  obtain ⟨⟨r1, r0⟩, f1, f0⟩ := K.out.r
  go_simp
  refine hKK _ _ ?_
  refine NoPanic.normal ?_
  clear hKK KK
  go_wp2
  refine bodyPost_ret (v := .agg #[.int .u64 ((z).1 : Int), .int .u64 ((z).2 : Int)]) (by simp [results, Try.results23, go_sem, *]) rfl ⟨rfl, ?_⟩
  exact below2 (p := W.heap.size + 1) K.out.d (by omega) _ _
end Go.Proofs.Ytnecjkdlmecgdaa
