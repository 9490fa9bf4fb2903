/- The walk of LinpolyZeros where all is as it should, over the seat's translation. -/
import Derived.Test.YtnecjkdlmecgdaaLzA
namespace Go.Proofs.Ytnecjkdlmecgdaa
open Go.RowKit
open Cb Rg Sq Lq
open Tw (pm)

theorem sp_ptv (es : List (Nat × Nat)) (j : Nat) : ∀ m, m ≤ es.length → Sp (es.take m) (ptv es j m)
  | 0, _ => by rw [List.take_zero]; rfl
  | m + 1, h => by
    have ih := sp_ptv es j m (by omega)
    rw [take_el (by omega), sp_snoc]
    show Sp _ (if (j / 2 ^ m % 2 == 1) = true then xa (ptv es j m) (el es m) else ptv es j m) ∨ Sp _ (xa (if (j / 2 ^ m % 2 == 1) = true then xa (ptv es j m) (el es m) else ptv es j m) (el es m))
    split
    · right
      rw [xa_assoc, xa_self, xa_zero]; exact ih
    · exact .inl ih
/-- Along the points of a space W stays as it is. -/
theorem vw_pts {es : List (Nat × Nat)} (hes : ltE es) (i : Nat) (hi : i ≤ es.length) {x : Nat × Nat} (lx : lt2 x) {j : Nat} (hj : j < 2 ^ i) : vw es i (el (pts es x i) j) = vw es i x := by
  rw [pts_at es x i j hj, vw_add hes i (ptv_lt hes j i) lx, (vw_none hes i hi (ptv_lt hes j i)).2 (sp_ptv es j i hi), zero_xa]
theorem of_ptsL {k : Nat} (hk : k < 8) {es : List (Nat × Nat)} (ob : ofT k es) {s : Nat × Nat} (os : ofE k s) : ∀ (i : Nat) {j : Nat}, j < (pts es s i).length → ofE k (el (pts es s i) j) := fun i j hj => by
  have all : ∀ i, ofT k (pts es s i) := fun i => by
    induction i with
    | zero => exact fun e he => by rw [List.mem_singleton.1 he]; exact os
    | succ i ih =>
      intro e he
      rcases List.mem_append.1 he with h | h
      · exact ih e h
      · obtain ⟨p, hp, rfl⟩ := List.mem_map.1 h
        exact of_xor hk (ih p hp) (ob.el hk i)
  exact (all i).el hk j
/-- What the loop goes on with. -/
structure Zl (W w : World) (k : Nat) (es ts : List (Nat × Nat)) (p : Nat) (a' aT aB : Option Addr) (c cT cB : Nat) (q : Nat) (A : Nat × Nat) : Prop where
  s : Spa w p k es ts a' aT aB c cT cB
  e : El w q A.1 A.2
  d : Below W.heap.size W w
theorem Zl.below {W w w' : World} {k : Nat} {es ts : List (Nat × Nat)} {p : Nat} {a' aT aB : Option Addr} {c cT cB q : Nat} {A : Nat × Nat} (h : Zl W w k es ts p a' aT aB c cT cB q A) (hb : Below w.heap.size w w') : Zl W w' k es ts p a' aT aB c cT cB q A := ⟨h.s.below hb, h.e.below hb, h.d.trans (hb.mono h.d.size)⟩
structure Zr (W w : World) (k : Nat) (es ts : List (Nat × Nat)) (p : Nat) (a' aT aB : Option Addr) (c cT cB : Nat) (q : Nat) (A : Nat × Nat) (g : Nat) (P : List (Nat × Nat)) : Prop where
  l : Zl W w k es ts p a' aT aB c cT cB q A
  r : ERow w (some ⟨g, 0, none⟩) P
theorem Zr.below {W w w' : World} {k : Nat} {es ts : List (Nat × Nat)} {p : Nat} {a' aT aB : Option Addr} {c cT cB q : Nat} {A : Nat × Nat} {g : Nat} {P : List (Nat × Nat)} (h : Zr W w k es ts p a' aT aB c cT cB q A g P) (hb : Below w.heap.size w w') : Zr W w' k es ts p a' aT aB c cT cB q A g P := ⟨h.l.below hb, h.r.below hb⟩
set_option linter.unusedSimpArgs false in
set_option maxHeartbeats 16000000 in
set_option maxRecDepth 100000 in
theorem lz_main (k : Nat) (hk : k < 8) (a : Option Addr) (cap : Nat) (es : List (Nat × Nat)) (hes : ltE es) (ha : a = none → es.length = 0 ∧ cap = 0) (i : Nat) (x y : Nat × Nat) (lx : lt2 x) (ly : lt2 y) (h : Ok5 (k : Int) es) (ot : ofT k es) (hcap : es.length ≤ cap) (h1 : i ≤ es.length) (ox : ofE k x) (oy : ofE k y) (W : World) (hr : ERow W a es) :
    Calls Try.prog 6 #[.agg #[.int .i64 (k : Int), .slice a es.length cap], .int .i64 (i : Int), .agg #[.int .u64 (x.1 : Int), .int .u64 (x.2 : Int), .int .u64 (y.1 : Int), .int .u64 (y.2 : Int)]] W fun e w' => e = .returned (.bool true) ∧ Below W.heap.size W w' := by
  have HA := hidT awake5
  have HM := hidT (fun w (hb : Below W.heap.size W w) => made_ok (k : Int) k hk rfl a cap es hes ha h ot w (hr.below hb))
  have HX := hidT (rof_any (k : Int) x.1 x.2 lx.1 lx.2)
  have HY := hidT (rof_any (k : Int) y.1 y.2 ly.1 ly.2)
  rw [show ofB (k : Int) (x.1 : Int) (x.2 : Int) = true from ox] at HX
  rw [show ofB (k : Int) (y.1 : Int) (y.2 : Int) = true from oy] at HY
  have i0 : ¬ (i : Int) < 0 := by omega
  have i1 : ¬ (es.length : Int) < (i : Int) := by omega
  have hd0 : decide ((i : Int) < 0) = false := decide_eq_false i0
  have hd1 : decide (es.length < i) = false := decide_eq_false (by omega)
  have h6 := h.2.1
  have HA1 := hidT (show Ret 20 #[.agg #[.int .u64 (x.1 : Int), .int .u64 (x.2 : Int)], .agg #[.int .u64 (y.1 : Int), .int .u64 (y.2 : Int)]] (.agg #[.int .u64 ((xa x y).1 : Int), .int .u64 ((xa x y).2 : Int)]) from add_any _ _ _ _ lx.1 lx.2 ly.1 ly.2)
  obtain ⟨A, hAA⟩ : ∃ A, A = vw es i x := ⟨_, rfl⟩
  obtain ⟨B, hBB⟩ : ∃ B, B = vw es i y := ⟨_, rfl⟩
  obtain ⟨C, hCC⟩ : ∃ C, C = xa A B := ⟨_, rfl⟩
  have lA : lt2 A := hAA ▸ lt_vw _ _ _
  have lB : lt2 B := hBB ▸ lt_vw _ _ _
  have HA2 : Hid (Ret 20 #[.agg #[.int .u64 (A.1 : Int), .int .u64 (A.2 : Int)], .agg #[.int .u64 (B.1 : Int), .int .u64 (B.2 : Int)]] (.agg #[.int .u64 (C.1 : Int), .int .u64 (C.2 : Int)])) := by
    rw [hCC]; exact add_any _ _ _ _ lA.1 lA.2 lB.1 lB.2
  have HVx0 : Hid (∀ p ts a' aT aB c cT cB w, Spu k es ts c cT → Spa w p k es ts a' aT aB c cT cB → Calls Try.prog 22 #[.pointer (some ⟨p, 0, none⟩), .int .i64 (i : Int), .agg #[.int .u64 (x.1 : Int), .int .u64 (x.2 : Int)]] w fun e w' => e = .returned (.agg #[.int .u64 (A.1 : Int), .int .u64 (A.2 : Int)]) ∧ Below w.heap.size w w') := fun p ts a' aT aB c cT cB w hU hS => by
    rw [hAA]; exact sval_ok hS hU i h1 x lx ox
  have HVy0 : Hid (∀ p ts a' aT aB c cT cB w, Spu k es ts c cT → Spa w p k es ts a' aT aB c cT cB → Calls Try.prog 22 #[.pointer (some ⟨p, 0, none⟩), .int .i64 (i : Int), .agg #[.int .u64 (y.1 : Int), .int .u64 (y.2 : Int)]] w fun e w' => e = .returned (.agg #[.int .u64 (B.1 : Int), .int .u64 (B.2 : Int)]) ∧ Below w.heap.size w w') := fun p ts a' aT aB c cT cB w hU hS => by
    rw [hBB]; exact sval_ok hS hU i h1 y ly oy
  have HVs0 : Hid (∀ p ts a' aT aB c cT cB w, Spu k es ts c cT → Spa w p k es ts a' aT aB c cT cB → Calls Try.prog 22 #[.pointer (some ⟨p, 0, none⟩), .int .i64 (i : Int), .agg #[.int .u64 ((xa x y).1 : Int), .int .u64 ((xa x y).2 : Int)]] w fun e w' => e = .returned (.agg #[.int .u64 (C.1 : Int), .int .u64 (C.2 : Int)]) ∧ Below w.heap.size w w') := fun p ts a' aT aB c cT cB w hU hS => by
    have := sval_ok hS hU i h1 (xa x y) (lt_xa lx ly) (of_xor hk ox oy)
    rw [vw_add hes i lx ly, ← hAA, ← hBB, ← hCC] at this
    exact this
  have HInn : Hid (∀ b : Bool, decide ((rb (es.take i ++ [x])).length = (rb (es.take i)).length) = b → ∀ w, Below W.heap.size W w → Calls Try.prog 30 #[.slice a i cap, .agg #[.int .u64 (x.1 : Int), .int .u64 (x.2 : Int)]] w fun e w' => e = .returned (.bool b) ∧ Below w.heap.size w w') := fun b hb w hbw => by
    have hl : (es.take i).length = i := by rw [List.length_take]; omega
    have := In_any a cap (es.take i) (fun e he => hes e (List.mem_of_mem_take he)) (by omega) x lx w (hr.below hbw).take
    rw [hl, hb] at this
    exact this
  have HA0 : Hid ((¬ A = (0, 0) → decide ((rb (es.take i ++ [x])).length = (rb (es.take i)).length) = false) ∧ (A = (0, 0) → decide ((rb (es.take i ++ [x])).length = (rb (es.take i)).length) = true)) := by
    have e1 := rb_in (l := es.take i) (fun e he => hes e (List.mem_of_mem_take he)) lx
    have e2 := vw_none hes i h1 lx
    rw [← hAA] at e2
    exact ⟨fun hn => decide_eq_false fun e => hn (e2.2 (e1.2 e)), fun h0 => decide_eq_true (e1.1 (e2.1 h0))⟩
  have HVA := hidT hAA.symm
  obtain ⟨M, hM'⟩ : ∃ M, M = 2 ^ i := ⟨_, rfl⟩
  have hM := hidT hM'
  have Mb : (M : Int) ≤ 64 := by have : 2 ^ i ≤ 2 ^ 6 := Nat.pow_le_pow_right (by decide) (by omega); rw [← hM'] at this; omega
  generalize hxy : xa x y = s at *
  have ic : (i : Int) ≤ (cap : Int) := by have := hcap; omega
  clear h hr ha ot lA lB hAA hBB hCC hM' oy ly hxy hes hcap
  go_enter Try.func6, Try.ntmps6
  go_upto_region 4 with (first
    | (go_at_call 21; refine (HM.out _ (Zb.new W (k : Int) a es.length cap x y).d).mono ?_; rintro e w1 ⟨p, ts, a', aT, aB, c, cT, cB, rfl, hS, hU, hb1⟩; have K1 : Hid (Zm W w1 k es ts p a' aT aB c cT cB (.slice a es.length cap) x y) := ⟨(Zb.new W (k : Int) a es.length cap x y).below hb1, hS⟩; have U1 := hidT hU; obtain ⟨s0, s1, x1, x0, y1, y0, _⟩ := K1.out.b; clear hb1 hS hU)
    | (go_at_call_of 16 (#[.int .i64 (k : Int), .agg #[.int .u64 (x.1 : Int), .int .u64 (x.2 : Int)]] : Array Value); refine (HX.out.go _).mono ?_; rintro e w2 ⟨rfl, hb2⟩; have K2 := hidT (K1.out.below hb2); clear s0 s1 x1 x0 y1 y0 hb2 K1; obtain ⟨s0, s1, x1, x0, y1, y0, _⟩ := K2.out.b)
    | (go_at_call_of 16 (#[.int .i64 (k : Int), .agg #[.int .u64 (y.1 : Int), .int .u64 (y.2 : Int)]] : Array Value); refine (HY.out.go _).mono ?_; rintro e w3 ⟨rfl, hb3⟩; have K3 := hidT (K2.out.below hb3); clear s0 s1 x1 x0 y1 y0 hb3 K2; obtain ⟨s0, s1, x1, x0, y1, y0, _⟩ := K3.out.b))
  have EE4 : ∀ w, Below w3.heap.size w3 w → w.cell? ⟨W.heap.size + 1, 0, none⟩ = some (.int .u64 (x.1 : Int)) ∧ w.cell? ⟨W.heap.size + 1, 1, none⟩ = some (.int .u64 (x.2 : Int)) ∧ w.cell? ⟨W.heap.size + 1, 2, none⟩ = some (.int .u64 (y.1 : Int)) ∧ w.cell? ⟨W.heap.size + 1, 3, none⟩ = some (.int .u64 (y.2 : Int)) := fun w hb => ⟨keepc hb K3.out.b.x1, keepc hb K3.out.b.x0, keepc hb K3.out.b.y1, keepc hb K3.out.b.y0⟩
  have HVx := hidT (fun w (hb : Below w3.heap.size w3 w) => HVx0.out p ts a' aT aB c cT cB w U1.out (K3.out.s.below hb))
  have HVy := hidT (fun w (hb : Below w3.heap.size w3 w) => HVy0.out p ts a' aT aB c cT cB w U1.out (K3.out.s.below hb))
  clear HVx0 HVy0 HM HX HY s0 s1 x1 x0 y1 y0
  obtain ⟨N0, hN⟩ : ∃ N0, N0 = w3.heap.size := ⟨_, rfl⟩
  refine wp_region_noPanic ?_
  refine wp_region_held_drew (S := fun w => w.cell? ⟨W.heap.size + 1, 0, none⟩ = some (.int .u64 (x.1 : Int)) ∧ w.cell? ⟨W.heap.size + 1, 1, none⟩ = some (.int .u64 (x.2 : Int)) ∧ w.cell? ⟨W.heap.size + 1, 2, none⟩ = some (.int .u64 (y.1 : Int)) ∧ w.cell? ⟨W.heap.size + 1, 3, none⟩ = some (.int .u64 (y.2 : Int))) (by kernel_rfl) (EE4 _ (Below.refl _ _).drew) (fun hHeld => ?_)
  refine wpAnyH_take (i := 0) (oi := _) (v := ?_) rfl (by kernel_rfl) (by kernel_rfl) (by kernel_rfl) (fun _ _ _ h => h) (Or.inl ⟨by rfl, ?_⟩) (by assumption) ?_
  rotate_left
  · ((intro w hSw; (try dsimp only at hSw); go_simp) <;> (try with_reducible rfl))
  show wpAnyH _ _ _ _ _ _ _ (Act.put _ (some 44) _) _
  simp only [Act.put, List.setIfInBounds_toArray, List.set_cons_succ, List.set_cons_zero]
  refine wpAnyH_take (i := 1) (oi := _) (v := ?_) rfl (by kernel_rfl) (by kernel_rfl) (by kernel_rfl) (fun _ _ _ h => h) (Or.inl ⟨by rfl, ?_⟩) (by assumption) ?_
  rotate_left
  · ((intro w hSw; (try dsimp only at hSw); go_simp) <;> (try with_reducible rfl))
  show wpAnyH _ _ _ _ _ _ _ (Act.put _ (some 45) _) _
  simp only [Act.put, List.setIfInBounds_toArray, List.set_cons_succ, List.set_cons_zero]
  refine wpAnyH_take (i := 2) (oi := _) (v := ?_) rfl (by kernel_rfl) (by kernel_rfl) (by kernel_rfl) (fun _ _ _ h => h) (Or.inl ⟨by rfl, ?_⟩) (by assumption) ?_
  rotate_left
  · ((intro w hSw; (try dsimp only at hSw); go_simp) <;> (try with_reducible rfl))
  show wpAnyH _ _ _ _ _ _ _ (Act.put _ (some 46) _) _
  simp only [Act.put, List.setIfInBounds_toArray, List.set_cons_succ, List.set_cons_zero]
  refine wpAnyH_take (i := 3) (oi := _) (v := ?_) rfl (by kernel_rfl) (by kernel_rfl) (by kernel_rfl) (fun _ _ _ h => h) (Or.inl ⟨by rfl, ?_⟩) (by assumption) ?_
  rotate_left
  · ((intro w hSw; (try dsimp only at hSw); go_simp) <;> (try with_reducible rfl))
  show wpAnyH _ _ _ _ _ _ _ (Act.put _ (some 47) _) _
  simp only [Act.put, List.setIfInBounds_toArray, List.set_cons_succ, List.set_cons_zero]
  refine wpAnyH_take (i := 5) (oi := _) (v := ?_) rfl (by kernel_rfl) (by kernel_rfl) (by kernel_rfl) (fun _ _ _ h => h) (Or.inl ⟨by rfl, ?_⟩) (by assumption) ?_
  rotate_left
  · ((intro w hSw; (try dsimp only at hSw); go_simp) <;> (try with_reducible rfl))
  show wpAnyH _ _ _ _ _ _ _ (Act.put _ (some 49) _) _
  simp only [Act.put, List.setIfInBounds_toArray, List.set_cons_succ, List.set_cons_zero]
  refine wpAnyH_take (i := 6) (oi := _) (v := ?_) rfl (by kernel_rfl) (by kernel_rfl) (by kernel_rfl) (fun _ _ _ h => h) (Or.inl ⟨by rfl, ?_⟩) (by assumption) ?_
  rotate_left
  · ((intro w hSw; (try dsimp only at hSw); go_simp) <;> (try with_reducible rfl))
  show wpAnyH _ _ _ _ _ _ _ (Act.put _ (some 50) _) _
  simp only [Act.put, List.setIfInBounds_toArray, List.set_cons_succ, List.set_cons_zero]
  refine wpAnyH_take (i := 7) (oi := _) (v := ?_) rfl (by kernel_rfl) (by kernel_rfl) (by kernel_rfl) (fun _ _ _ h => h) (Or.inl ⟨by rfl, ?_⟩) (by assumption) ?_
  rotate_left
  · ((intro w hSw; (try dsimp only at hSw); go_simp) <;> (try with_reducible rfl))
  show wpAnyH _ _ _ _ _ _ _ (Act.put _ (some 51) _) _
  simp only [Act.put, List.setIfInBounds_toArray, List.set_cons_succ, List.set_cons_zero]
  refine wpAnyH_take (i := 8) (oi := _) (v := ?_) rfl (by kernel_rfl) (by kernel_rfl) (by kernel_rfl) (fun _ _ _ h => h) (Or.inl ⟨by rfl, ?_⟩) (by assumption) ?_
  rotate_left
  · ((intro w hSw; (try dsimp only at hSw); go_simp) <;> (try with_reducible rfl))
  show wpAnyH _ _ _ _ _ _ _ (Act.put _ (some 52) _) _
  simp only [Act.put, List.setIfInBounds_toArray, List.set_cons_succ, List.set_cons_zero]
  refine wpAnyH_inv (fun L ac w => ∃ (p8 p9 v48 v53 : Value) (q8 q9 : Nat), ac = { tmps := #[.agg #[.int .i64 (k : Int), .slice a es.length cap], .int .i64 (i : Int), .agg #[.int .u64 (x.1 : Int), .int .u64 (x.2 : Int), .int .u64 (y.1 : Int), .int .u64 (y.2 : Int)], .pointer (some ⟨W.heap.size, 0, none⟩), undef, .pointer (some ⟨W.heap.size + 1, 0, none⟩), .bool false, .pointer (some ⟨p, 0, none⟩), p8, p9, undef, undef, .agg #[.int .i64 (k : Int), .slice a es.length cap], .pointer (some ⟨p, 0, none⟩), .pointer (some ⟨p, 0, none⟩), .bool false, .bool false, .int .i64 (i : Int), .bool false, .bool false, .bool false, .int .i64 (i : Int), .pointer (some ⟨W.heap.size, 1, none⟩), .slice a es.length cap, .int .i64 (es.length : Int), .bool false, .bool false, .bool false, .pointer (some ⟨W.heap.size, 0, none⟩), .int .i64 (k : Int), .pointer (some ⟨W.heap.size + 1, 0, none⟩), .agg #[.int .u64 (x.1 : Int), .int .u64 (x.2 : Int)], .bool true, .bool false, .bool false, .bool false, .pointer (some ⟨W.heap.size, 0, none⟩), .int .i64 (k : Int), .pointer (some ⟨W.heap.size + 1, 2, none⟩), .agg #[.int .u64 (y.1 : Int), .int .u64 (y.2 : Int)], .bool true, .bool false, .bool false, undef, .pointer (some ⟨p, 0, none⟩), .int .i64 (i : Int), .pointer (some ⟨W.heap.size + 1, 0, none⟩), .agg #[.int .u64 (x.1 : Int), .int .u64 (x.2 : Int)], v48, .pointer (some ⟨p, 0, none⟩), .int .i64 (i : Int), .pointer (some ⟨W.heap.size + 1, 2, none⟩), .agg #[.int .u64 (y.1 : Int), .int .u64 (y.2 : Int)], v53, undef, undef, undef, undef, undef, undef, undef, undef, undef, undef, undef, undef, undef, undef, undef, undef, undef, undef, undef, undef, undef, undef, undef, undef, undef, undef, undef, undef, undef, undef, undef, undef, undef, undef, undef, undef, undef, undef, undef, undef, undef, undef, undef, undef, undef, undef], defers := [] } ∧ Hid (([0, 1, 2, 3, 5, 6, 7, 8].all fun i => L i) = true ∧ (L 4 = true → v48 = .agg #[.int .u64 (A.1 : Int), .int .u64 (A.2 : Int)]) ∧ (L 9 = true → v53 = .agg #[.int .u64 (B.1 : Int), .int .u64 (B.2 : Int)]) ∧ (Vas N0 w L [⟨10, 12, q8, p8, A⟩, ⟨11, 13, q9, p9, B⟩]) ∧ (Below N0 w3 w))) (by kernel_rfl) ?hIS ?step ?done _ _ _ _ (by rfl) (by decide) ?init
  case hIS =>
    rintro L ac w ⟨_, _, _, _, _, _, rfl, hI⟩
    obtain ⟨hP, h4, h9, hV, hB⟩ := hI.out
    exact EE4 _ (hN ▸ hB)
  case init =>
    exact ⟨undef, undef, undef, undef, 0, 0, rfl, by rfl, fun h => absurd h (by decide), fun h => absurd h (by decide), Vas.start (by simp), hN ▸ (Below.refl w3.heap.size w3).drew⟩
  case step =>
    rintro L ac w ⟨p8, p9, v48, v53, q8, q9, rfl, hI⟩
    refine (EachAt.cons (fun h _ => absurd (all_at hI.out.1 0 (by decide)) (by rw [show L 0 = false from h]; decide)) (EachAt.cons (fun h _ => absurd (all_at hI.out.1 1 (by decide)) (by rw [show L 1 = false from h]; decide)) (EachAt.cons (fun h _ => absurd (all_at hI.out.1 2 (by decide)) (by rw [show L 2 = false from h]; decide)) (EachAt.cons (fun h _ => absurd (all_at hI.out.1 3 (by decide)) (by rw [show L 3 = false from h]; decide)) (EachAt.cons ?s4 (EachAt.cons (fun h _ => absurd (all_at hI.out.1 5 (by decide)) (by rw [show L 5 = false from h]; decide)) (EachAt.cons (fun h _ => absurd (all_at hI.out.1 6 (by decide)) (by rw [show L 6 = false from h]; decide)) (EachAt.cons (fun h _ => absurd (all_at hI.out.1 7 (by decide)) (by rw [show L 7 = false from h]; decide)) (EachAt.cons (fun h _ => absurd (all_at hI.out.1 8 (by decide)) (by rw [show L 8 = false from h]; decide)) (EachAt.cons ?s9 (EachAt.cons ?s10 (EachAt.cons ?s11 (EachAt.cons ?s12 (EachAt.cons ?s13 EachAt.nil))))))))))))))
    case s4 =>
      intro hl hw
      have D := waits hw
      replace hl : L 4 = false := hl
      clear hw
      refine wpOp_shut (o := _) rfl (fun KK hKK => ?_)
      obtain ⟨hP, h4, h9, hV, hB⟩ := hI.out
      have hz : N0 ≤ w.heap.size := hN ▸ hB.size
      clear D hl
      go_simp
      (go_at_call_of 22 (#[.pointer (some ⟨p, 0, none⟩), .int .i64 (i : Int), .agg #[.int .u64 (x.1 : Int), .int .u64 (x.2 : Int)]] : Array Value); refine (HVx.out _ (hN ▸ hB)).mono ?_; rintro e w9 ⟨rfl, hb⟩)
      exact hKK.out _ _ ⟨p8, p9, _, v53, q8, q9, rfl, all_setL 4 hP, fun _ => rfl, setL_un (show 9 ≠ 4 by decide) h9, (hV.below hb).step (by simp [nums]), hB.trans (hb.mono hz)⟩
    case s9 =>
      intro hl hw
      have D := waits hw
      replace hl : L 9 = false := hl
      clear hw
      refine wpOp_shut (o := _) rfl (fun KK hKK => ?_)
      obtain ⟨hP, h4, h9, hV, hB⟩ := hI.out
      have hz : N0 ≤ w.heap.size := hN ▸ hB.size
      clear D hl
      go_simp
      (go_at_call_of 22 (#[.pointer (some ⟨p, 0, none⟩), .int .i64 (i : Int), .agg #[.int .u64 (y.1 : Int), .int .u64 (y.2 : Int)]] : Array Value); refine (HVy.out _ (hN ▸ hB)).mono ?_; rintro e w9 ⟨rfl, hb⟩)
      exact hKK.out _ _ ⟨p8, p9, v48, _, q8, q9, rfl, all_setL 9 hP, setL_un (show 4 ≠ 9 by decide) h4, fun _ => rfl, (hV.below hb).step (by simp [nums]), hB.trans (hb.mono hz)⟩
    case s10 =>
      intro hl hw
      have D := waits hw
      replace hl : L 10 = false := hl
      clear hw
      refine wpOp_shut (o := _) rfl (fun KK hKK => ?_)
      obtain ⟨hP, h4, h9, hV, hB⟩ := hI.out
      have hz : N0 ≤ w.heap.size := hN ▸ hB.size
      clear D
      go_simp
      exact hKK.out _ _ ⟨_, p9, v48, v53, _, q9, rfl, all_setL 10 hP, setL_un (show 4 ≠ 10 by decide) h4, setL_un (show 9 ≠ 10 by decide) h9, Vas.laid (l1 := []) (l2 := [⟨11, 13, q9, p9, B⟩]) hV hl hz (by simp [nums]), hB.alloc hz _⟩
    case s11 =>
      intro hl hw
      have D := waits hw
      replace hl : L 11 = false := hl
      clear hw
      refine wpOp_shut (o := _) rfl (fun KK hKK => ?_)
      obtain ⟨hP, h4, h9, hV, hB⟩ := hI.out
      have hz : N0 ≤ w.heap.size := hN ▸ hB.size
      clear D
      go_simp
      exact hKK.out _ _ ⟨p8, _, v48, v53, q8, _, rfl, all_setL 11 hP, setL_un (show 4 ≠ 11 by decide) h4, setL_un (show 9 ≠ 11 by decide) h9, Vas.laid (l1 := [⟨10, 12, q8, p8, A⟩]) (l2 := []) hV hl hz (by simp [nums]), hB.alloc hz _⟩
    case s12 =>
      intro hl hw
      have D := waits hw
      replace hl : L 12 = false := hl
      clear hw
      refine wpOp_shut (o := _) rfl (fun KK hKK => ?_)
      obtain ⟨hP, h4, h9, hV, hB⟩ := hI.out
      have hz : N0 ≤ w.heap.size := hN ▸ hB.size
      have e9 : p8 = .pointer (some ⟨q8, 0, none⟩) := (hV.ok ⟨10, 12, q8, p8, A⟩ (by simp)).ptr (D 10 (by decide))
      obtain rfl := h4 (D 4 (by decide))
      subst e9
      obtain ⟨c, hE, _⟩ := (hV.ok ⟨10, 12, q8, .pointer (some ⟨q8, 0, none⟩), A⟩ (by simp)).room (D 10 (by decide))
      have hlow : N0 ≤ q8 := (hV.ok ⟨10, 12, q8, .pointer (some ⟨q8, 0, none⟩), A⟩ (by simp)).low (D 10 (by decide))
      obtain ⟨⟨e1, e0⟩, f1, f0⟩ := hE
      dsimp only at e1 e0 f1 f0
      have D10 := D 10 (by decide)
      have D11 := D 11 (by decide)
      clear D hl
      go_simp
      exact hKK.out _ _ ⟨_, p9, _, v53, q8, q9, rfl, all_setL 12 hP, setL_un (show 4 ≠ 12 by decide) h4, setL_un (show 9 ≠ 12 by decide) h9, Vas.fill (l1 := []) (l2 := [⟨11, 13, q9, p9, B⟩]) (x := ⟨10, 12, q8, .pointer (some ⟨q8, 0, none⟩), A⟩) hV D10 (fun y hy => by simp at hy; subst hy; assumption) (by simp [nums]), (hB.setCell hlow _).setCell hlow _⟩
    case s13 =>
      intro hl hw
      have D := waits hw
      replace hl : L 13 = false := hl
      clear hw
      refine wpOp_shut (o := _) rfl (fun KK hKK => ?_)
      obtain ⟨hP, h4, h9, hV, hB⟩ := hI.out
      have hz : N0 ≤ w.heap.size := hN ▸ hB.size
      have e9 : p9 = .pointer (some ⟨q9, 0, none⟩) := (hV.ok ⟨11, 13, q9, p9, B⟩ (by simp)).ptr (D 11 (by decide))
      obtain rfl := h9 (D 9 (by decide))
      subst e9
      obtain ⟨c, hE, _⟩ := (hV.ok ⟨11, 13, q9, .pointer (some ⟨q9, 0, none⟩), B⟩ (by simp)).room (D 11 (by decide))
      have hlow : N0 ≤ q9 := (hV.ok ⟨11, 13, q9, .pointer (some ⟨q9, 0, none⟩), B⟩ (by simp)).low (D 11 (by decide))
      obtain ⟨⟨e1, e0⟩, f1, f0⟩ := hE
      dsimp only at e1 e0 f1 f0
      have D10 := D 10 (by decide)
      have D11 := D 11 (by decide)
      clear D hl
      go_simp
      exact hKK.out _ _ ⟨p8, _, v48, _, q8, q9, rfl, all_setL 13 hP, setL_un (show 4 ≠ 13 by decide) h4, setL_un (show 9 ≠ 13 by decide) h9, Vas.fill (l1 := [⟨10, 12, q8, p8, A⟩]) (l2 := []) (x := ⟨11, 13, q9, .pointer (some ⟨q9, 0, none⟩), B⟩) hV D11 (fun y hy => by simp at hy; subst hy; assumption) (by simp [nums]), (hB.setCell hlow _).setCell hlow _⟩
  case done =>
    rintro L ac w ⟨p8, p9, v48, v53, q8, q9, rfl, hI⟩ hAll
    obtain ⟨hP, h4, h9, hV, hB⟩ := hI.out
    clear hI hP
    have ep8 : p8 = .pointer (some ⟨q8, 0, none⟩) := (hV.ok ⟨10, 12, q8, p8, A⟩ (by simp)).ptr (hAll 10 (by decide))
    have Eq8 : El w q8 A.1 A.2 := (hV.ok ⟨10, 12, q8, p8, A⟩ (by simp)).el (hAll 12 (by decide))
    have ep9 : p9 = .pointer (some ⟨q9, 0, none⟩) := (hV.ok ⟨11, 13, q9, p9, B⟩ (by simp)).ptr (hAll 11 (by decide))
    have Eq9 : El w q9 B.1 B.2 := (hV.ok ⟨11, 13, q9, p9, B⟩ (by simp)).el (hAll 13 (by decide))
    obtain rfl := h4 (hAll 4 (by decide))
    obtain rfl := h9 (hAll 9 (by decide))
    subst ep8
    subst ep9
    clear h4 h9 hV hAll hHeld
    refine NoPanic.normal ?_
    have K4 : Hid (Zm W w k es ts p a' aT aB c cT cB (.slice a es.length cap) x y ∧ El w q8 A.1 A.2 ∧ El w q9 B.1 B.2) := ⟨K3.out.below (hN ▸ hB), Eq8, Eq9⟩
    obtain ⟨wm, hwm⟩ : ∃ wm, wm = w := ⟨_, rfl⟩
    subst hwm
    have HVs : Hid (∀ w, Below wm.heap.size wm w → Calls Try.prog 22 #[.pointer (some ⟨p, 0, none⟩), .int .i64 (i : Int), .agg #[.int .u64 (s.1 : Int), .int .u64 (s.2 : Int)]] w fun e w' => e = .returned (.agg #[.int .u64 (C.1 : Int), .int .u64 (C.2 : Int)]) ∧ Below w.heap.size w w') := fun w hb => HVs0.out p ts a' aT aB c cT cB w U1.out (K4.out.1.s.below hb)
    clear EE4 Eq8 Eq9 hB HVx HVy K3 HVs0
    by_cases hA : A = (0, 0)
    · have HIn : Hid (∀ w, Below wm.heap.size wm w → Calls Try.prog 30 #[.slice a i cap, .agg #[.int .u64 (x.1 : Int), .int .u64 (x.2 : Int)]] w fun e w' => e = .returned (.bool true) ∧ Below w.heap.size w w') := fun w hb => HInn.out true (HA0.out.2 hA) w (K4.out.1.b.d.trans (hb.mono K4.out.1.b.d.size))
      subst hA
      clear HInn HA0
      have EE : ∀ w, Below wm.heap.size wm w → w.cell? ⟨W.heap.size + 1, 0, none⟩ = some (.int .u64 (x.1 : Int)) ∧ w.cell? ⟨W.heap.size + 1, 1, none⟩ = some (.int .u64 (x.2 : Int)) ∧ w.cell? ⟨W.heap.size + 1, 2, none⟩ = some (.int .u64 (y.1 : Int)) ∧ w.cell? ⟨W.heap.size + 1, 3, none⟩ = some (.int .u64 (y.2 : Int)) ∧ w.cell? ⟨W.heap.size, 1, none⟩ = some (.slice a es.length cap) ∧ w.cell? ⟨q8, 0, none⟩ = some (.int .u64 0) ∧ w.cell? ⟨q8, 1, none⟩ = some (.int .u64 0) ∧ w.cell? ⟨q9, 0, none⟩ = some (.int .u64 (B.1 : Int)) ∧ w.cell? ⟨q9, 1, none⟩ = some (.int .u64 (B.2 : Int)) := fun w hb => ⟨keepc hb K4.out.1.b.x1, keepc hb K4.out.1.b.x0, keepc hb K4.out.1.b.y1, keepc hb K4.out.1.b.y0, keepc hb K4.out.1.b.s1, keepc hb K4.out.2.1.hi, keepc hb K4.out.2.1.lo, keepc hb K4.out.2.2.hi, keepc hb K4.out.2.2.lo⟩
      obtain ⟨x1, x0, y1, y0, s1, u1, u0, t1, t0⟩ := EE _ (Below.refl _ _)
      have K : Hid (Below wm.heap.size wm wm) := Below.refl _ _
      go_upto_region 5 with fail
      refine wp_region_noPanic ?_
      refine wp_region_held_drew (S := fun w => w.cell? ⟨W.heap.size + 1, 0, none⟩ = some (.int .u64 (x.1 : Int)) ∧ w.cell? ⟨W.heap.size + 1, 1, none⟩ = some (.int .u64 (x.2 : Int)) ∧ w.cell? ⟨W.heap.size + 1, 2, none⟩ = some (.int .u64 (y.1 : Int)) ∧ w.cell? ⟨W.heap.size + 1, 3, none⟩ = some (.int .u64 (y.2 : Int)) ∧ w.cell? ⟨W.heap.size, 1, none⟩ = some (.slice a es.length cap) ∧ w.cell? ⟨q8, 0, none⟩ = some (.int .u64 0) ∧ w.cell? ⟨q8, 1, none⟩ = some (.int .u64 0) ∧ w.cell? ⟨q9, 0, none⟩ = some (.int .u64 (B.1 : Int)) ∧ w.cell? ⟨q9, 1, none⟩ = some (.int .u64 (B.2 : Int))) (by kernel_rfl) (EE _ (Below.refl _ _).drew) (fun hHeld => ?_)
      refine wpAnyH_take (i := 0) (oi := _) (v := ?_) rfl (by kernel_rfl) (by kernel_rfl) (by kernel_rfl) (fun _ _ _ h => h) (Or.inl ⟨by rfl, ?_⟩) (by assumption) ?_
      rotate_left
      · ((intro w hSw; (try dsimp only at hSw); go_simp) <;> (try with_reducible rfl))
      show wpAnyH _ _ _ _ _ _ _ (Act.put _ (some 54) _) _
      simp only [Act.put, List.setIfInBounds_toArray, List.set_cons_succ, List.set_cons_zero]
      refine wpAnyH_take (i := 1) (oi := _) (v := ?_) rfl (by kernel_rfl) (by kernel_rfl) (by kernel_rfl) (fun _ _ _ h => h) (Or.inl ⟨by rfl, ?_⟩) (by assumption) ?_
      rotate_left
      · ((intro w hSw; (try dsimp only at hSw); go_simp) <;> (try with_reducible rfl))
      show wpAnyH _ _ _ _ _ _ _ (Act.put _ (some 55) _) _
      simp only [Act.put, List.setIfInBounds_toArray, List.set_cons_succ, List.set_cons_zero]
      refine wpAnyH_take (i := 2) (oi := _) (v := ?_) rfl (by kernel_rfl) (by kernel_rfl) (by kernel_rfl) (fun _ _ _ h => h) (Or.inl ⟨by rfl, ?_⟩) (by assumption) ?_
      rotate_left
      · ((intro w hSw; (try dsimp only at hSw); go_simp) <;> (try with_reducible rfl))
      show wpAnyH _ _ _ _ _ _ _ (Act.put _ (some 56) _) _
      simp only [Act.put, List.setIfInBounds_toArray, List.set_cons_succ, List.set_cons_zero]
      refine wpAnyH_take (i := 3) (oi := _) (v := ?_) rfl (by kernel_rfl) (by kernel_rfl) (by kernel_rfl) (fun _ _ _ h => h) (Or.inl ⟨by rfl, ?_⟩) (by assumption) ?_
      rotate_left
      · ((intro w hSw; (try dsimp only at hSw); go_simp) <;> (try with_reducible rfl))
      show wpAnyH _ _ _ _ _ _ _ (Act.put _ (some 57) _) _
      simp only [Act.put, List.setIfInBounds_toArray, List.set_cons_succ, List.set_cons_zero]
      refine wpAnyH_take (i := 4) (oi := _) (v := ?_) rfl (by kernel_rfl) (by kernel_rfl) (by kernel_rfl) (fun _ _ _ h => h) (Or.inl ⟨by rfl, ?_⟩) (by assumption) ?_
      rotate_left
      · ((intro w hSw; (try dsimp only at hSw); go_simp) <;> (try with_reducible rfl))
      show wpAnyH _ _ _ _ _ _ _ (Act.put _ (some 58) _) _
      simp only [Act.put, List.setIfInBounds_toArray, List.set_cons_succ, List.set_cons_zero]
      refine wpAnyH_take (i := 5) (oi := _) (v := ?_) rfl (by kernel_rfl) (by kernel_rfl) (by kernel_rfl) (fun _ _ _ h => h) (Or.inl ⟨by rfl, ?_⟩) (by assumption) ?_
      rotate_left
      · ((intro w hSw; (try dsimp only at hSw); go_simp) <;> (try with_reducible rfl))
      show wpAnyH _ _ _ _ _ _ _ (Act.put _ (some 59) _) _
      simp only [Act.put, List.setIfInBounds_toArray, List.set_cons_succ, List.set_cons_zero]
      refine wpAnyH_take (i := 8) (oi := _) (v := ?_) rfl (by kernel_rfl) (by kernel_rfl) (by kernel_rfl) (fun _ _ _ h => h) (Or.inl ⟨by rfl, ?_⟩) (by assumption) ?_
      rotate_left
      · ((intro w hSw; (try dsimp only at hSw); go_simp) <;> (try with_reducible rfl))
      show wpAnyH _ _ _ _ _ _ _ (Act.put _ (some 62) _) _
      simp only [Act.put, List.setIfInBounds_toArray, List.set_cons_succ, List.set_cons_zero]
      refine wpAnyH_take (i := 9) (oi := _) (v := ?_) rfl (by kernel_rfl) (by kernel_rfl) (by kernel_rfl) (fun _ _ _ h => h) (Or.inl ⟨by rfl, ?_⟩) (by assumption) ?_
      rotate_left
      · ((intro w hSw; (try dsimp only at hSw); go_simp) <;> (try with_reducible rfl))
      show wpAnyH _ _ _ _ _ _ _ (Act.put _ (some 63) _) _
      simp only [Act.put, List.setIfInBounds_toArray, List.set_cons_succ, List.set_cons_zero]
      refine wpAnyH_ready (rs := [6]) (by kernel_rfl) (by simp) ?_
      refine AllReadyH.cons (o := _) rfl (fun KK hKK => ?_) AllReadyH.nil
      go_simp
      (go_at_call_of 20 (#[.agg #[.int .u64 (x.1 : Int), .int .u64 (x.2 : Int)], .agg #[.int .u64 (y.1 : Int), .int .u64 (y.2 : Int)]] : Array Value); refine (HA1.out.go _).mono ?_; rintro e w9 ⟨rfl, hb⟩)
      have K'' : Hid (Below wm.heap.size wm w9) := (by first | exact K.out.trans (hb.mono K.out.size) | exact K.out.drew.trans (hb.mono K.out.drew.size))
      clear K hb
      have K := K''
      clear K''
      refine hKK.out _ _ ?_ (fun hHeld => ?_)
      · exact EE _ K.out
      clear hKK KK
      try simp only [Act.put]
      refine wpAnyH_ready (rs := [7]) (by kernel_rfl) (by simp) ?_
      refine AllReadyH.cons (o := _) rfl (fun KK hKK => ?_) AllReadyH.nil
      go_simp
      (go_at_call 22; refine (HVs.out _ (by first | exact K.out | exact K.out.drew)).mono ?_; rintro e w9 ⟨rfl, hb⟩)
      have K'' : Hid (Below wm.heap.size wm w9) := (by first | exact K.out.trans (hb.mono K.out.size) | exact K.out.drew.trans (hb.mono K.out.drew.size))
      clear K hb
      have K := K''
      clear K''
      refine hKK.out _ _ ?_ (fun hHeld => ?_)
      · exact EE _ K.out
      clear hKK KK
      try simp only [Act.put]
      refine wpAnyH_ready (rs := [10]) (by kernel_rfl) (by simp) ?_
      refine AllReadyH.cons (o := _) rfl (fun KK hKK => ?_) AllReadyH.nil
      go_simp
      (go_at_call 20; refine (HA2.out.go _).mono ?_; rintro e w9 ⟨rfl, hb⟩)
      have K'' : Hid (Below wm.heap.size wm w9) := (by first | exact K.out.trans (hb.mono K.out.size) | exact K.out.drew.trans (hb.mono K.out.drew.size))
      clear K hb
      have K := K''
      clear K''
      refine hKK.out _ _ ?_ (fun hHeld => ?_)
      · exact EE _ K.out
      clear hKK KK
      try simp only [Act.put]
      refine wpAnyH_take (i := 11) (oi := _) (v := ?_) rfl (by kernel_rfl) (by kernel_rfl) (by kernel_rfl) (fun _ _ _ h => h) (Or.inl ⟨by rfl, ?_⟩) (by assumption) ?_
      rotate_left
      · ((intro w hSw; (try dsimp only at hSw); go_simp) <;> (try with_reducible rfl))
      show wpAnyH _ _ _ _ _ _ _ (Act.put _ (some 65) _) _
      simp only [Act.put, List.setIfInBounds_toArray, List.set_cons_succ, List.set_cons_zero]
      refine wpAnyH_take (i := 12) (oi := _) (v := ?_) rfl (by kernel_rfl) (by kernel_rfl) (by kernel_rfl) (fun _ _ _ h => h) (Or.inl ⟨by rfl, ?_⟩) (by assumption) ?_
      rotate_left
      · ((intro w hSw; (try dsimp only at hSw); go_simp) <;> (try with_reducible rfl))
      show wpAnyH _ _ _ _ _ _ _ (Act.put _ (some 66) _) _
      simp only [Act.put, List.setIfInBounds_toArray, List.set_cons_succ, List.set_cons_zero]
      refine wpAnyH_take (i := 13) (oi := _) (v := ?_) rfl (by kernel_rfl) (by kernel_rfl) (by kernel_rfl) (fun _ _ _ h => h) (Or.inl ⟨by rfl, ?_⟩) (by assumption) ?_
      rotate_left
      · ((intro w hSw; (try dsimp only at hSw); go_simp) <;> (try with_reducible rfl))
      show wpAnyH _ _ _ _ _ _ _ (Act.put _ (some 67) _) _
      simp only [Act.put, List.setIfInBounds_toArray, List.set_cons_succ, List.set_cons_zero]
      refine wpAnyH_take (i := 14) (oi := _) (v := ?_) rfl (by kernel_rfl) (by kernel_rfl) (by kernel_rfl) (fun _ _ _ h => h) (Or.inl ⟨by rfl, ?_⟩) (by assumption) ?_
      rotate_left
      · ((intro w hSw; (try dsimp only at hSw); go_simp) <;> (try with_reducible rfl))
      show wpAnyH _ _ _ _ _ _ _ (Act.put _ (some 68) _) _
      simp only [Act.put, List.setIfInBounds_toArray, List.set_cons_succ, List.set_cons_zero]
      refine wpAnyH_take (i := 15) (oi := _) (v := ?_) rfl (by kernel_rfl) (by kernel_rfl) (by kernel_rfl) (fun _ _ _ h => h) (Or.inl ⟨by rfl, ?_⟩) (by assumption) ?_
      rotate_left
      · ((intro w hSw; (try dsimp only at hSw); go_simp) <;> (try with_reducible rfl))
      show wpAnyH _ _ _ _ _ _ _ (Act.put _ (some 69) _) _
      simp only [Act.put, List.setIfInBounds_toArray, List.set_cons_succ, List.set_cons_zero]
      refine wpAnyH_take (i := 16) (oi := _) (v := ?_) rfl (by kernel_rfl) (by kernel_rfl) (by kernel_rfl) (fun _ _ _ h => h) (Or.inl ⟨by rfl, ?_⟩) (by assumption) ?_
      rotate_left
      · ((intro w hSw; (try dsimp only at hSw); go_simp) <;> (try with_reducible rfl))
      show wpAnyH _ _ _ _ _ _ _ (Act.put _ (some 70) _) _
      simp only [Act.put, List.setIfInBounds_toArray, List.set_cons_succ, List.set_cons_zero]
      refine wpAnyH_take (i := 17) (oi := _) (v := ?_) rfl (by kernel_rfl) (by kernel_rfl) (by kernel_rfl) (fun _ _ _ h => h) (Or.inl ⟨by rfl, ?_⟩) (by assumption) ?_
      rotate_left
      · ((intro w hSw; (try dsimp only at hSw); go_simp) <;> (try with_reducible rfl))
      show wpAnyH _ _ _ _ _ _ _ (Act.put _ (some 71) _) _
      simp only [Act.put, List.setIfInBounds_toArray, List.set_cons_succ, List.set_cons_zero]
      refine wpAnyH_take (i := 18) (oi := _) (v := ?_) rfl (by kernel_rfl) (by kernel_rfl) (by kernel_rfl) (fun _ _ _ h => h) (Or.inl ⟨by rfl, ?_⟩) (by assumption) ?_
      rotate_left
      · ((intro w hSw; (try dsimp only at hSw); go_simp) <;> (try with_reducible rfl))
      show wpAnyH _ _ _ _ _ _ _ (Act.put _ (some 72) _) _
      simp only [Act.put, List.setIfInBounds_toArray, List.set_cons_succ, List.set_cons_zero]
      refine wpAnyH_take (i := 19) (oi := _) (v := ?_) rfl (by kernel_rfl) (by kernel_rfl) (by kernel_rfl) (fun _ _ _ h => h) (Or.inl ⟨by rfl, ?_⟩) (by assumption) ?_
      rotate_left
      · ((intro w hSw; (try dsimp only at hSw); go_simp) <;> (try with_reducible rfl))
      show wpAnyH _ _ _ _ _ _ _ (Act.put _ (some 73) _) _
      simp only [Act.put, List.setIfInBounds_toArray, List.set_cons_succ, List.set_cons_zero]
      refine wpAnyH_take (i := 20) (oi := _) (v := ?_) rfl (by kernel_rfl) (by kernel_rfl) (by kernel_rfl) (fun _ _ _ h => h) (Or.inl ⟨by rfl, ?_⟩) (by assumption) ?_
      rotate_left
      · ((intro w hSw; (try dsimp only at hSw); go_simp) <;> (try with_reducible rfl))
      show wpAnyH _ _ _ _ _ _ _ (Act.put _ (some 74) _) _
      simp only [Act.put, List.setIfInBounds_toArray, List.set_cons_succ, List.set_cons_zero]
      refine wpAnyH_take (i := 21) (oi := _) (v := ?_) rfl (by kernel_rfl) (by kernel_rfl) (by kernel_rfl) (fun _ _ _ h => h) (Or.inl ⟨by rfl, ?_⟩) (by assumption) ?_
      rotate_left
      · ((intro w hSw; (try dsimp only at hSw); go_simp) <;> (try with_reducible rfl))
      show wpAnyH _ _ _ _ _ _ _ (Act.put _ (some 75) _) _
      simp only [Act.put, List.setIfInBounds_toArray, List.set_cons_succ, List.set_cons_zero]
      refine wpAnyH_ready (rs := [22]) (by kernel_rfl) (by simp) ?_
      refine AllReadyH.cons (o := _) rfl (fun KK hKK => ?_) AllReadyH.nil
      go_simp
      (go_at_call 30; refine (HIn.out _ (by first | exact K.out | exact K.out.drew)).mono ?_; rintro e w9 ⟨rfl, hb⟩)
      have K'' : Hid (Below wm.heap.size wm w9) := (by first | exact K.out.trans (hb.mono K.out.size) | exact K.out.drew.trans (hb.mono K.out.drew.size))
      clear K hb
      have K := K''
      clear K''
      refine hKK.out _ _ ?_ (fun hHeld => ?_)
      · exact EE _ K.out
      clear hKK KK
      try simp only [Act.put]
      refine wpAnyH_take (i := 23) (oi := _) (v := ?_) rfl (by kernel_rfl) (by kernel_rfl) (by kernel_rfl) (fun _ _ _ h => h) (Or.inl ⟨by rfl, ?_⟩) (by assumption) ?_
      rotate_left
      · ((intro w hSw; (try dsimp only at hSw); go_simp) <;> (try with_reducible rfl))
      show wpAnyH _ _ _ _ _ _ _ (Act.put _ (some 77) _) _
      simp only [Act.put, List.setIfInBounds_toArray, List.set_cons_succ, List.set_cons_zero]
      refine wpAnyH_take (i := 24) (oi := _) (v := ?_) rfl (by kernel_rfl) (by kernel_rfl) (by kernel_rfl) (fun _ _ _ h => h) (Or.inl ⟨by rfl, ?_⟩) (by assumption) ?_
      rotate_left
      · ((intro w hSw; (try dsimp only at hSw); go_simp) <;> (try with_reducible rfl))
      show wpAnyH _ _ _ _ _ _ _ (Act.put _ (some 78) _) _
      simp only [Act.put, List.setIfInBounds_toArray, List.set_cons_succ, List.set_cons_zero]
      refine wpAnyH_done (by kernel_rfl) ?_ _
      refine NoPanic.normal ?_
      have K6 : Hid (Zl W _ k es ts p a' aT aB c cT cB q8 (0, 0)) := ⟨K4.out.1.s.below K.out, K4.out.2.1.below K.out, K4.out.1.b.d.trans (K.out.mono K4.out.1.b.d.size)⟩
      obtain ⟨x1, x0, _, _, _⟩ := EE _ K.out
      clear K EE HA1 HA2 HVs HIn K4
      go_wp2_with (go_at_call 15; refine (spts_ok K6.out.s U1.out i h1 x lx ox).mono ?_; rintro e w7 ⟨g, rfl, _, hrow, hb7⟩; have K7 : Hid (Zr W w7 k es ts p a' aT aB c cT cB q8 (0, 0) g (pts es x i)) := ⟨K6.out.below hb7, hrow⟩; clear hb7 hrow K6 x1 x0)
      rw [← hM.out]
      go_loopw [11] (fun u wr => ∃ j : Nat, j ≤ M ∧ u = .int .i64 j ∧ Hid (Zr W wr k es ts p a' aT aB c cT cB q8 (0, 0) g (pts es x i))) (fun u _ => M - (intOf u).toNat)
      case atStart => exact ⟨0, Nat.zero_le _, rfl, K7⟩
      case round =>
        clear K7
        obtain ⟨j, hj, rfl, K0⟩ := hrel
        by_cases hjl : j < M
        · have j1 : (j : Int) < (M : Int) := by omega
          have j0 : (0 : Int) ≤ (j : Int) := by omega
          have hjp : j < (pts es x i).length := by rw [pts_len, ← hM.out]; exact hjl
          have HVz : Hid (∀ w, Below wr.heap.size wr w → Calls Try.prog 22 #[.pointer (some ⟨p, 0, none⟩), .int .i64 (i : Int), .agg #[.int .u64 ((el (pts es x i) j).1 : Int), .int .u64 ((el (pts es x i) j).2 : Int)]] w fun e w' => e = .returned (.agg #[.int .u64 0, .int .u64 0]) ∧ Below w.heap.size w w') := fun w hb => by
            have := sval_ok (K0.out.l.s.below hb) U1.out i h1 (el (pts es x i) j) (ltE_el (lt_pts U1.out.lt lx i) j) (of_ptsL hk U1.out.of ox i hjp)
            rw [vw_pts U1.out.lt i h1 lx (hM.out ▸ hjl), HVA.out] at this
            exact this
          have EL : ∀ w, Below wr.heap.size wr w → w.cell? ⟨q8, 0, none⟩ = some (.int .u64 0) ∧ w.cell? ⟨q8, 1, none⟩ = some (.int .u64 0) ∧ w.cell? ⟨g, j * 2, none⟩ = some (.int .u64 ((el (pts es x i) j).1 : Int)) ∧ w.cell? ⟨g, j * 2 + 1, none⟩ = some (.int .u64 ((el (pts es x i) j).2 : Int)) := fun w hb => by
            obtain ⟨g', o', e, _, z1, z0⟩ := (K0.out.r.below hb).cells j hjp
            injection e with e; injection e with e1 e2; subst e1 e2
            rw [Nat.zero_add] at z1 z0
            exact ⟨keepc hb K0.out.l.e.hi, keepc hb K0.out.l.e.lo, z1, z0⟩
          clear hjp
          generalize el (pts es x i) j = z at *
          obtain ⟨u1, u0, z1, z0⟩ := EL _ (Below.refl _ _)
          have K : Hid (Below wr.heap.size wr wr) := Below.refl _ _
          go_upto_region 11 with fail
          refine wp_region_noPanic ?_
          refine wp_region_held_drew (S := fun w => w.cell? ⟨q8, 0, none⟩ = some (.int .u64 0) ∧ w.cell? ⟨q8, 1, none⟩ = some (.int .u64 0) ∧ w.cell? ⟨g, j * 2, none⟩ = some (.int .u64 (z.1 : Int)) ∧ w.cell? ⟨g, j * 2 + 1, none⟩ = some (.int .u64 (z.2 : Int))) (by kernel_rfl) (EL _ (Below.refl _ _).drew) (fun hHeld => ?_)
          refine wpAnyH_take (i := 0) (oi := _) (v := ?_) rfl (by kernel_rfl) (by kernel_rfl) (by kernel_rfl) (fun _ _ _ h => h) (Or.inl ⟨by rfl, ?_⟩) (by assumption) ?_
          rotate_left
          · ((intro w hSw; (try dsimp only at hSw); go_simp) <;> (try with_reducible rfl))
          show wpAnyH _ _ _ _ _ _ _ (Act.put _ (some 90) _) _
          simp only [Act.put, List.setIfInBounds_toArray, List.set_cons_succ, List.set_cons_zero]
          refine wpAnyH_take (i := 1) (oi := _) (v := ?_) rfl (by kernel_rfl) (by kernel_rfl) (by kernel_rfl) (fun _ _ _ h => h) (Or.inl ⟨by rfl, ?_⟩) (by assumption) ?_
          rotate_left
          · ((intro w hSw; (try dsimp only at hSw); go_simp) <;> (try with_reducible rfl))
          show wpAnyH _ _ _ _ _ _ _ (Act.put _ (some 91) _) _
          simp only [Act.put, List.setIfInBounds_toArray, List.set_cons_succ, List.set_cons_zero]
          refine wpAnyH_take (i := 2) (oi := _) (v := ?_) rfl (by kernel_rfl) (by kernel_rfl) (by kernel_rfl) (fun _ _ _ h => h) (Or.inl ⟨by rfl, ?_⟩) (by assumption) ?_
          rotate_left
          · ((intro w hSw; (try dsimp only at hSw); go_simp) <;> (try with_reducible rfl))
          show wpAnyH _ _ _ _ _ _ _ (Act.put _ (some 92) _) _
          simp only [Act.put, List.setIfInBounds_toArray, List.set_cons_succ, List.set_cons_zero]
          refine wpAnyH_take (i := 3) (oi := _) (v := ?_) rfl (by kernel_rfl) (by kernel_rfl) (by kernel_rfl) (fun _ _ _ h => h) (Or.inl ⟨by rfl, ?_⟩) (by assumption) ?_
          rotate_left
          · ((intro w hSw; (try dsimp only at hSw); go_simp) <;> (try with_reducible rfl))
          show wpAnyH _ _ _ _ _ _ _ (Act.put _ (some 93) _) _
          simp only [Act.put, List.setIfInBounds_toArray, List.set_cons_succ, List.set_cons_zero]
          refine wpAnyH_take (i := 4) (oi := _) (v := ?_) rfl (by kernel_rfl) (by kernel_rfl) (by kernel_rfl) (fun _ _ _ h => h) (Or.inl ⟨by rfl, ?_⟩) (by assumption) ?_
          rotate_left
          · ((intro w hSw; (try dsimp only at hSw); go_simp) <;> (try with_reducible rfl))
          show wpAnyH _ _ _ _ _ _ _ (Act.put _ (some 94) _) _
          simp only [Act.put, List.setIfInBounds_toArray, List.set_cons_succ, List.set_cons_zero]
          refine wpAnyH_take (i := 5) (oi := _) (v := ?_) rfl (by kernel_rfl) (by kernel_rfl) (by kernel_rfl) (fun _ _ _ h => h) (Or.inl ⟨by rfl, ?_⟩) (by assumption) ?_
          rotate_left
          · ((intro w hSw; (try dsimp only at hSw); go_simp) <;> (try with_reducible rfl))
          show wpAnyH _ _ _ _ _ _ _ (Act.put _ (some 95) _) _
          simp only [Act.put, List.setIfInBounds_toArray, List.set_cons_succ, List.set_cons_zero]
          refine wpAnyH_take (i := 7) (oi := _) (v := ?_) rfl (by kernel_rfl) (by kernel_rfl) (by kernel_rfl) (fun _ _ _ h => h) (Or.inl ⟨by rfl, ?_⟩) (by assumption) ?_
          rotate_left
          · ((intro w hSw; (try dsimp only at hSw); go_simp) <;> (try with_reducible rfl))
          show wpAnyH _ _ _ _ _ _ _ (Act.put _ (some 97) _) _
          simp only [Act.put, List.setIfInBounds_toArray, List.set_cons_succ, List.set_cons_zero]
          refine wpAnyH_ready (rs := [6]) (by kernel_rfl) (by simp) ?_
          refine AllReadyH.cons (o := _) rfl (fun KK hKK => ?_) AllReadyH.nil
          go_simp
          (go_at_call 22; refine (HVz.out _ (by first | exact K.out | exact K.out.drew)).mono ?_; rintro e w9 ⟨rfl, hb⟩)
          have K'' : Hid (Below wr.heap.size wr w9) := (by first | exact K.out.trans (hb.mono K.out.size) | exact K.out.drew.trans (hb.mono K.out.drew.size))
          clear K hb
          have K := K''
          clear K''
          refine hKK.out _ _ ?_ (fun hHeld => ?_)
          · exact EL _ K.out
          clear hKK KK
          try simp only [Act.put]
          refine wpAnyH_take (i := 8) (oi := _) (v := ?_) rfl (by kernel_rfl) (by kernel_rfl) (by kernel_rfl) (fun _ _ _ h => h) (Or.inl ⟨by rfl, ?_⟩) (by assumption) ?_
          rotate_left
          · ((intro w hSw; (try dsimp only at hSw); go_simp) <;> (try with_reducible rfl))
          show wpAnyH _ _ _ _ _ _ _ (Act.put _ (some 98) _) _
          simp only [Act.put, List.setIfInBounds_toArray, List.set_cons_succ, List.set_cons_zero]
          refine wpAnyH_done (by kernel_rfl) ?_ _
          refine NoPanic.normal ?_
          have KN := hidT (K0.out.below K.out)
          clear K EL HVz K0
          go_wp2
          exact ⟨⟨j + 1, hjl, by simp, KN⟩, by simp [intOf]; omega⟩
        · obtain rfl : M = j := by omega
          have K8 := hidT K0.out.l.d
          clear K0
          go_wp2_with (go_at_call 9; refine (HA.out.go _).mono ?_; rintro e w8 ⟨rfl, hb8⟩; have K9 := hidT (K8.out.trans (hb8.mono K8.out.size)))
          go_ret
          exact ⟨rfl, K9.out⟩
    · have HIn : Hid (∀ w, Below wm.heap.size wm w → Calls Try.prog 30 #[.slice a i cap, .agg #[.int .u64 (x.1 : Int), .int .u64 (x.2 : Int)]] w fun e w' => e = .returned (.bool false) ∧ Below w.heap.size w w') := fun w hb => HInn.out false (HA0.out.1 hA) w (K4.out.1.b.d.trans (hb.mono K4.out.1.b.d.size))
      clear HInn HA0
      by_cases hA1 : A.1 = 0
      · have hA2 : ¬ A.2 = 0 := fun e => hA (Prod.ext hA1 e)
        clear hA
        obtain ⟨A1, l⟩ := A
        obtain rfl : A1 = 0 := hA1
        replace hA2 : ¬ l = 0 := hA2
        have EE : ∀ w, Below wm.heap.size wm w → w.cell? ⟨W.heap.size + 1, 0, none⟩ = some (.int .u64 (x.1 : Int)) ∧ w.cell? ⟨W.heap.size + 1, 1, none⟩ = some (.int .u64 (x.2 : Int)) ∧ w.cell? ⟨W.heap.size + 1, 2, none⟩ = some (.int .u64 (y.1 : Int)) ∧ w.cell? ⟨W.heap.size + 1, 3, none⟩ = some (.int .u64 (y.2 : Int)) ∧ w.cell? ⟨W.heap.size, 1, none⟩ = some (.slice a es.length cap) ∧ w.cell? ⟨q8, 0, none⟩ = some (.int .u64 0) ∧ w.cell? ⟨q8, 1, none⟩ = some (.int .u64 (l : Int)) ∧ w.cell? ⟨q9, 0, none⟩ = some (.int .u64 (B.1 : Int)) ∧ w.cell? ⟨q9, 1, none⟩ = some (.int .u64 (B.2 : Int)) := fun w hb => ⟨keepc hb K4.out.1.b.x1, keepc hb K4.out.1.b.x0, keepc hb K4.out.1.b.y1, keepc hb K4.out.1.b.y0, keepc hb K4.out.1.b.s1, keepc hb K4.out.2.1.hi, keepc hb K4.out.2.1.lo, keepc hb K4.out.2.2.hi, keepc hb K4.out.2.2.lo⟩
        obtain ⟨x1, x0, y1, y0, s1, u1, u0, t1, t0⟩ := EE _ (Below.refl _ _)
        have K : Hid (Below wm.heap.size wm wm) := Below.refl _ _
        go_upto_region 5 with fail
        refine wp_region_noPanic ?_
        refine wp_region_held_drew (S := fun w => w.cell? ⟨W.heap.size + 1, 0, none⟩ = some (.int .u64 (x.1 : Int)) ∧ w.cell? ⟨W.heap.size + 1, 1, none⟩ = some (.int .u64 (x.2 : Int)) ∧ w.cell? ⟨W.heap.size + 1, 2, none⟩ = some (.int .u64 (y.1 : Int)) ∧ w.cell? ⟨W.heap.size + 1, 3, none⟩ = some (.int .u64 (y.2 : Int)) ∧ w.cell? ⟨W.heap.size, 1, none⟩ = some (.slice a es.length cap) ∧ w.cell? ⟨q8, 0, none⟩ = some (.int .u64 0) ∧ w.cell? ⟨q8, 1, none⟩ = some (.int .u64 (l : Int)) ∧ w.cell? ⟨q9, 0, none⟩ = some (.int .u64 (B.1 : Int)) ∧ w.cell? ⟨q9, 1, none⟩ = some (.int .u64 (B.2 : Int))) (by kernel_rfl) (EE _ (Below.refl _ _).drew) (fun hHeld => ?_)
        refine wpAnyH_take (i := 0) (oi := _) (v := ?_) rfl (by kernel_rfl) (by kernel_rfl) (by kernel_rfl) (fun _ _ _ h => h) (Or.inl ⟨by rfl, ?_⟩) (by assumption) ?_
        rotate_left
        · ((intro w hSw; (try dsimp only at hSw); go_simp) <;> (try with_reducible rfl))
        show wpAnyH _ _ _ _ _ _ _ (Act.put _ (some 54) _) _
        simp only [Act.put, List.setIfInBounds_toArray, List.set_cons_succ, List.set_cons_zero]
        refine wpAnyH_take (i := 1) (oi := _) (v := ?_) rfl (by kernel_rfl) (by kernel_rfl) (by kernel_rfl) (fun _ _ _ h => h) (Or.inl ⟨by rfl, ?_⟩) (by assumption) ?_
        rotate_left
        · ((intro w hSw; (try dsimp only at hSw); go_simp) <;> (try with_reducible rfl))
        show wpAnyH _ _ _ _ _ _ _ (Act.put _ (some 55) _) _
        simp only [Act.put, List.setIfInBounds_toArray, List.set_cons_succ, List.set_cons_zero]
        refine wpAnyH_take (i := 2) (oi := _) (v := ?_) rfl (by kernel_rfl) (by kernel_rfl) (by kernel_rfl) (fun _ _ _ h => h) (Or.inl ⟨by rfl, ?_⟩) (by assumption) ?_
        rotate_left
        · ((intro w hSw; (try dsimp only at hSw); go_simp) <;> (try with_reducible rfl))
        show wpAnyH _ _ _ _ _ _ _ (Act.put _ (some 56) _) _
        simp only [Act.put, List.setIfInBounds_toArray, List.set_cons_succ, List.set_cons_zero]
        refine wpAnyH_take (i := 3) (oi := _) (v := ?_) rfl (by kernel_rfl) (by kernel_rfl) (by kernel_rfl) (fun _ _ _ h => h) (Or.inl ⟨by rfl, ?_⟩) (by assumption) ?_
        rotate_left
        · ((intro w hSw; (try dsimp only at hSw); go_simp) <;> (try with_reducible rfl))
        show wpAnyH _ _ _ _ _ _ _ (Act.put _ (some 57) _) _
        simp only [Act.put, List.setIfInBounds_toArray, List.set_cons_succ, List.set_cons_zero]
        refine wpAnyH_take (i := 4) (oi := _) (v := ?_) rfl (by kernel_rfl) (by kernel_rfl) (by kernel_rfl) (fun _ _ _ h => h) (Or.inl ⟨by rfl, ?_⟩) (by assumption) ?_
        rotate_left
        · ((intro w hSw; (try dsimp only at hSw); go_simp) <;> (try with_reducible rfl))
        show wpAnyH _ _ _ _ _ _ _ (Act.put _ (some 58) _) _
        simp only [Act.put, List.setIfInBounds_toArray, List.set_cons_succ, List.set_cons_zero]
        refine wpAnyH_take (i := 5) (oi := _) (v := ?_) rfl (by kernel_rfl) (by kernel_rfl) (by kernel_rfl) (fun _ _ _ h => h) (Or.inl ⟨by rfl, ?_⟩) (by assumption) ?_
        rotate_left
        · ((intro w hSw; (try dsimp only at hSw); go_simp) <;> (try with_reducible rfl))
        show wpAnyH _ _ _ _ _ _ _ (Act.put _ (some 59) _) _
        simp only [Act.put, List.setIfInBounds_toArray, List.set_cons_succ, List.set_cons_zero]
        refine wpAnyH_take (i := 8) (oi := _) (v := ?_) rfl (by kernel_rfl) (by kernel_rfl) (by kernel_rfl) (fun _ _ _ h => h) (Or.inl ⟨by rfl, ?_⟩) (by assumption) ?_
        rotate_left
        · ((intro w hSw; (try dsimp only at hSw); go_simp) <;> (try with_reducible rfl))
        show wpAnyH _ _ _ _ _ _ _ (Act.put _ (some 62) _) _
        simp only [Act.put, List.setIfInBounds_toArray, List.set_cons_succ, List.set_cons_zero]
        refine wpAnyH_take (i := 9) (oi := _) (v := ?_) rfl (by kernel_rfl) (by kernel_rfl) (by kernel_rfl) (fun _ _ _ h => h) (Or.inl ⟨by rfl, ?_⟩) (by assumption) ?_
        rotate_left
        · ((intro w hSw; (try dsimp only at hSw); go_simp) <;> (try with_reducible rfl))
        show wpAnyH _ _ _ _ _ _ _ (Act.put _ (some 63) _) _
        simp only [Act.put, List.setIfInBounds_toArray, List.set_cons_succ, List.set_cons_zero]
        refine wpAnyH_ready (rs := [6]) (by kernel_rfl) (by simp) ?_
        refine AllReadyH.cons (o := _) rfl (fun KK hKK => ?_) AllReadyH.nil
        go_simp
        (go_at_call_of 20 (#[.agg #[.int .u64 (x.1 : Int), .int .u64 (x.2 : Int)], .agg #[.int .u64 (y.1 : Int), .int .u64 (y.2 : Int)]] : Array Value); refine (HA1.out.go _).mono ?_; rintro e w9 ⟨rfl, hb⟩)
        have K'' : Hid (Below wm.heap.size wm w9) := (by first | exact K.out.trans (hb.mono K.out.size) | exact K.out.drew.trans (hb.mono K.out.drew.size))
        clear K hb
        have K := K''
        clear K''
        refine hKK.out _ _ ?_ (fun hHeld => ?_)
        · exact EE _ K.out
        clear hKK KK
        try simp only [Act.put]
        refine wpAnyH_ready (rs := [7]) (by kernel_rfl) (by simp) ?_
        refine AllReadyH.cons (o := _) rfl (fun KK hKK => ?_) AllReadyH.nil
        go_simp
        (go_at_call 22; refine (HVs.out _ (by first | exact K.out | exact K.out.drew)).mono ?_; rintro e w9 ⟨rfl, hb⟩)
        have K'' : Hid (Below wm.heap.size wm w9) := (by first | exact K.out.trans (hb.mono K.out.size) | exact K.out.drew.trans (hb.mono K.out.drew.size))
        clear K hb
        have K := K''
        clear K''
        refine hKK.out _ _ ?_ (fun hHeld => ?_)
        · exact EE _ K.out
        clear hKK KK
        try simp only [Act.put]
        refine wpAnyH_ready (rs := [10]) (by kernel_rfl) (by simp) ?_
        refine AllReadyH.cons (o := _) rfl (fun KK hKK => ?_) AllReadyH.nil
        go_simp
        (go_at_call 20; refine (HA2.out.go _).mono ?_; rintro e w9 ⟨rfl, hb⟩)
        have K'' : Hid (Below wm.heap.size wm w9) := (by first | exact K.out.trans (hb.mono K.out.size) | exact K.out.drew.trans (hb.mono K.out.drew.size))
        clear K hb
        have K := K''
        clear K''
        refine hKK.out _ _ ?_ (fun hHeld => ?_)
        · exact EE _ K.out
        clear hKK KK
        try simp only [Act.put]
        refine wpAnyH_take (i := 11) (oi := _) (v := ?_) rfl (by kernel_rfl) (by kernel_rfl) (by kernel_rfl) (fun _ _ _ h => h) (Or.inl ⟨by rfl, ?_⟩) (by assumption) ?_
        rotate_left
        · ((intro w hSw; (try dsimp only at hSw); go_simp) <;> (try with_reducible rfl))
        show wpAnyH _ _ _ _ _ _ _ (Act.put _ (some 65) _) _
        simp only [Act.put, List.setIfInBounds_toArray, List.set_cons_succ, List.set_cons_zero]
        refine wpAnyH_take (i := 12) (oi := _) (v := ?_) rfl (by kernel_rfl) (by kernel_rfl) (by kernel_rfl) (fun _ _ _ h => h) (Or.inl ⟨by rfl, ?_⟩) (by assumption) ?_
        rotate_left
        · ((intro w hSw; (try dsimp only at hSw); go_simp) <;> (try with_reducible rfl))
        show wpAnyH _ _ _ _ _ _ _ (Act.put _ (some 66) _) _
        simp only [Act.put, List.setIfInBounds_toArray, List.set_cons_succ, List.set_cons_zero]
        refine wpAnyH_take (i := 13) (oi := _) (v := ?_) rfl (by kernel_rfl) (by kernel_rfl) (by kernel_rfl) (fun _ _ _ h => h) (Or.inl ⟨by rfl, ?_⟩) (by assumption) ?_
        rotate_left
        · ((intro w hSw; (try dsimp only at hSw); go_simp) <;> (try with_reducible rfl))
        show wpAnyH _ _ _ _ _ _ _ (Act.put _ (some 67) _) _
        simp only [Act.put, List.setIfInBounds_toArray, List.set_cons_succ, List.set_cons_zero]
        refine wpAnyH_take (i := 14) (oi := _) (v := ?_) rfl (by kernel_rfl) (by kernel_rfl) (by kernel_rfl) (fun _ _ _ h => h) (Or.inl ⟨by rfl, ?_⟩) (by assumption) ?_
        rotate_left
        · ((intro w hSw; (try dsimp only at hSw); go_simp) <;> (try with_reducible rfl))
        show wpAnyH _ _ _ _ _ _ _ (Act.put _ (some 68) _) _
        simp only [Act.put, List.setIfInBounds_toArray, List.set_cons_succ, List.set_cons_zero]
        refine wpAnyH_take (i := 15) (oi := _) (v := ?_) rfl (by kernel_rfl) (by kernel_rfl) (by kernel_rfl) (fun _ _ _ h => h) (Or.inl ⟨by rfl, ?_⟩) (by assumption) ?_
        rotate_left
        · ((intro w hSw; (try dsimp only at hSw); go_simp) <;> (try with_reducible rfl))
        show wpAnyH _ _ _ _ _ _ _ (Act.put _ (some 69) _) _
        simp only [Act.put, List.setIfInBounds_toArray, List.set_cons_succ, List.set_cons_zero]
        refine wpAnyH_take (i := 16) (oi := _) (v := ?_) rfl (by kernel_rfl) (by kernel_rfl) (by kernel_rfl) (fun _ _ _ h => h) (Or.inl ⟨by rfl, ?_⟩) (by assumption) ?_
        rotate_left
        · ((intro w hSw; (try dsimp only at hSw); go_simp) <;> (try with_reducible rfl))
        show wpAnyH _ _ _ _ _ _ _ (Act.put _ (some 70) _) _
        simp only [Act.put, List.setIfInBounds_toArray, List.set_cons_succ, List.set_cons_zero]
        refine wpAnyH_take (i := 17) (oi := _) (v := ?_) rfl (by kernel_rfl) (by kernel_rfl) (by kernel_rfl) (fun _ _ _ h => h) (Or.inl ⟨by rfl, ?_⟩) (by assumption) ?_
        rotate_left
        · ((intro w hSw; (try dsimp only at hSw); go_simp) <;> (try with_reducible rfl))
        show wpAnyH _ _ _ _ _ _ _ (Act.put _ (some 71) _) _
        simp only [Act.put, List.setIfInBounds_toArray, List.set_cons_succ, List.set_cons_zero]
        refine wpAnyH_take (i := 18) (oi := _) (v := ?_) rfl (by kernel_rfl) (by kernel_rfl) (by kernel_rfl) (fun _ _ _ h => h) (Or.inl ⟨by rfl, ?_⟩) (by assumption) ?_
        rotate_left
        · ((intro w hSw; (try dsimp only at hSw); go_simp) <;> (try with_reducible rfl))
        show wpAnyH _ _ _ _ _ _ _ (Act.put _ (some 72) _) _
        simp only [Act.put, List.setIfInBounds_toArray, List.set_cons_succ, List.set_cons_zero]
        refine wpAnyH_take (i := 19) (oi := _) (v := ?_) rfl (by kernel_rfl) (by kernel_rfl) (by kernel_rfl) (fun _ _ _ h => h) (Or.inl ⟨by rfl, ?_⟩) (by assumption) ?_
        rotate_left
        · ((intro w hSw; (try dsimp only at hSw); go_simp) <;> (try with_reducible rfl))
        show wpAnyH _ _ _ _ _ _ _ (Act.put _ (some 73) _) _
        simp only [Act.put, List.setIfInBounds_toArray, List.set_cons_succ, List.set_cons_zero]
        refine wpAnyH_take (i := 20) (oi := _) (v := ?_) rfl (by kernel_rfl) (by kernel_rfl) (by kernel_rfl) (fun _ _ _ h => h) (Or.inl ⟨by rfl, ?_⟩) (by assumption) ?_
        rotate_left
        · ((intro w hSw; (try dsimp only at hSw); go_simp) <;> (try with_reducible rfl))
        show wpAnyH _ _ _ _ _ _ _ (Act.put _ (some 74) _) _
        simp only [Act.put, List.setIfInBounds_toArray, List.set_cons_succ, List.set_cons_zero]
        refine wpAnyH_take (i := 21) (oi := _) (v := ?_) rfl (by kernel_rfl) (by kernel_rfl) (by kernel_rfl) (fun _ _ _ h => h) (Or.inl ⟨by rfl, ?_⟩) (by assumption) ?_
        rotate_left
        · ((intro w hSw; (try dsimp only at hSw); go_simp) <;> (try with_reducible rfl))
        show wpAnyH _ _ _ _ _ _ _ (Act.put _ (some 75) _) _
        simp only [Act.put, List.setIfInBounds_toArray, List.set_cons_succ, List.set_cons_zero]
        refine wpAnyH_ready (rs := [22]) (by kernel_rfl) (by simp) ?_
        refine AllReadyH.cons (o := _) rfl (fun KK hKK => ?_) AllReadyH.nil
        go_simp
        (go_at_call 30; refine (HIn.out _ (by first | exact K.out | exact K.out.drew)).mono ?_; rintro e w9 ⟨rfl, hb⟩)
        have K'' : Hid (Below wm.heap.size wm w9) := (by first | exact K.out.trans (hb.mono K.out.size) | exact K.out.drew.trans (hb.mono K.out.drew.size))
        clear K hb
        have K := K''
        clear K''
        refine hKK.out _ _ ?_ (fun hHeld => ?_)
        · exact EE _ K.out
        clear hKK KK
        try simp only [Act.put]
        refine wpAnyH_take (i := 23) (oi := _) (v := ?_) rfl (by kernel_rfl) (by kernel_rfl) (by kernel_rfl) (fun _ _ _ h => h) (Or.inl ⟨by rfl, ?_⟩) (by assumption) ?_
        rotate_left
        · ((intro w hSw; (try dsimp only at hSw); go_simp) <;> (try with_reducible rfl))
        show wpAnyH _ _ _ _ _ _ _ (Act.put _ (some 77) _) _
        simp only [Act.put, List.setIfInBounds_toArray, List.set_cons_succ, List.set_cons_zero]
        refine wpAnyH_take (i := 24) (oi := _) (v := ?_) rfl (by kernel_rfl) (by kernel_rfl) (by kernel_rfl) (fun _ _ _ h => h) (Or.inl ⟨by rfl, ?_⟩) (by assumption) ?_
        rotate_left
        · ((intro w hSw; (try dsimp only at hSw); go_simp) <;> (try with_reducible rfl))
        show wpAnyH _ _ _ _ _ _ _ (Act.put _ (some 78) _) _
        simp only [Act.put, List.setIfInBounds_toArray, List.set_cons_succ, List.set_cons_zero]
        refine wpAnyH_done (by kernel_rfl) ?_ _
        refine NoPanic.normal ?_
        have K6 : Hid (Zl W _ k es ts p a' aT aB c cT cB q8 (0, l)) := ⟨K4.out.1.s.below K.out, K4.out.2.1.below K.out, K4.out.1.b.d.trans (K.out.mono K4.out.1.b.d.size)⟩
        obtain ⟨x1, x0, _, _, _⟩ := EE _ K.out
        clear K EE HA1 HA2 HVs HIn K4
        go_wp2_with (go_at_call 15; refine (spts_ok K6.out.s U1.out i h1 x lx ox).mono ?_; rintro e w7 ⟨g, rfl, _, hrow, hb7⟩; have K7 : Hid (Zr W w7 k es ts p a' aT aB c cT cB q8 (0, l) g (pts es x i)) := ⟨K6.out.below hb7, hrow⟩; clear hb7 hrow K6 x1 x0)
        rw [← hM.out]
        go_loopw [11] (fun u wr => ∃ j : Nat, j ≤ M ∧ u = .int .i64 j ∧ Hid (Zr W wr k es ts p a' aT aB c cT cB q8 (0, l) g (pts es x i))) (fun u _ => M - (intOf u).toNat)
        case atStart => exact ⟨0, Nat.zero_le _, rfl, K7⟩
        case round =>
          clear K7
          obtain ⟨j, hj, rfl, K0⟩ := hrel
          by_cases hjl : j < M
          · have j1 : (j : Int) < (M : Int) := by omega
            have j0 : (0 : Int) ≤ (j : Int) := by omega
            have hjp : j < (pts es x i).length := by rw [pts_len, ← hM.out]; exact hjl
            have HVz : Hid (∀ w, Below wr.heap.size wr w → Calls Try.prog 22 #[.pointer (some ⟨p, 0, none⟩), .int .i64 (i : Int), .agg #[.int .u64 ((el (pts es x i) j).1 : Int), .int .u64 ((el (pts es x i) j).2 : Int)]] w fun e w' => e = .returned (.agg #[.int .u64 0, .int .u64 (l : Int)]) ∧ Below w.heap.size w w') := fun w hb => by
              have := sval_ok (K0.out.l.s.below hb) U1.out i h1 (el (pts es x i) j) (ltE_el (lt_pts U1.out.lt lx i) j) (of_ptsL hk U1.out.of ox i hjp)
              rw [vw_pts U1.out.lt i h1 lx (hM.out ▸ hjl), HVA.out] at this
              exact this
            have EL : ∀ w, Below wr.heap.size wr w → w.cell? ⟨q8, 0, none⟩ = some (.int .u64 0) ∧ w.cell? ⟨q8, 1, none⟩ = some (.int .u64 (l : Int)) ∧ w.cell? ⟨g, j * 2, none⟩ = some (.int .u64 ((el (pts es x i) j).1 : Int)) ∧ w.cell? ⟨g, j * 2 + 1, none⟩ = some (.int .u64 ((el (pts es x i) j).2 : Int)) := fun w hb => by
              obtain ⟨g', o', e, _, z1, z0⟩ := (K0.out.r.below hb).cells j hjp
              injection e with e; injection e with e1 e2; subst e1 e2
              rw [Nat.zero_add] at z1 z0
              exact ⟨keepc hb K0.out.l.e.hi, keepc hb K0.out.l.e.lo, z1, z0⟩
            clear hjp
            generalize el (pts es x i) j = z at *
            obtain ⟨u1, u0, z1, z0⟩ := EL _ (Below.refl _ _)
            have K : Hid (Below wr.heap.size wr wr) := Below.refl _ _
            go_upto_region 11 with fail
            refine wp_region_noPanic ?_
            refine wp_region_held_drew (S := fun w => w.cell? ⟨q8, 0, none⟩ = some (.int .u64 0) ∧ w.cell? ⟨q8, 1, none⟩ = some (.int .u64 (l : Int)) ∧ w.cell? ⟨g, j * 2, none⟩ = some (.int .u64 (z.1 : Int)) ∧ w.cell? ⟨g, j * 2 + 1, none⟩ = some (.int .u64 (z.2 : Int))) (by kernel_rfl) (EL _ (Below.refl _ _).drew) (fun hHeld => ?_)
            refine wpAnyH_take (i := 0) (oi := _) (v := ?_) rfl (by kernel_rfl) (by kernel_rfl) (by kernel_rfl) (fun _ _ _ h => h) (Or.inl ⟨by rfl, ?_⟩) (by assumption) ?_
            rotate_left
            · ((intro w hSw; (try dsimp only at hSw); go_simp) <;> (try with_reducible rfl))
            show wpAnyH _ _ _ _ _ _ _ (Act.put _ (some 90) _) _
            simp only [Act.put, List.setIfInBounds_toArray, List.set_cons_succ, List.set_cons_zero]
            refine wpAnyH_take (i := 1) (oi := _) (v := ?_) rfl (by kernel_rfl) (by kernel_rfl) (by kernel_rfl) (fun _ _ _ h => h) (Or.inl ⟨by rfl, ?_⟩) (by assumption) ?_
            rotate_left
            · ((intro w hSw; (try dsimp only at hSw); go_simp) <;> (try with_reducible rfl))
            show wpAnyH _ _ _ _ _ _ _ (Act.put _ (some 91) _) _
            simp only [Act.put, List.setIfInBounds_toArray, List.set_cons_succ, List.set_cons_zero]
            refine wpAnyH_take (i := 2) (oi := _) (v := ?_) rfl (by kernel_rfl) (by kernel_rfl) (by kernel_rfl) (fun _ _ _ h => h) (Or.inl ⟨by rfl, ?_⟩) (by assumption) ?_
            rotate_left
            · ((intro w hSw; (try dsimp only at hSw); go_simp) <;> (try with_reducible rfl))
            show wpAnyH _ _ _ _ _ _ _ (Act.put _ (some 92) _) _
            simp only [Act.put, List.setIfInBounds_toArray, List.set_cons_succ, List.set_cons_zero]
            refine wpAnyH_take (i := 3) (oi := _) (v := ?_) rfl (by kernel_rfl) (by kernel_rfl) (by kernel_rfl) (fun _ _ _ h => h) (Or.inl ⟨by rfl, ?_⟩) (by assumption) ?_
            rotate_left
            · ((intro w hSw; (try dsimp only at hSw); go_simp) <;> (try with_reducible rfl))
            show wpAnyH _ _ _ _ _ _ _ (Act.put _ (some 93) _) _
            simp only [Act.put, List.setIfInBounds_toArray, List.set_cons_succ, List.set_cons_zero]
            refine wpAnyH_take (i := 4) (oi := _) (v := ?_) rfl (by kernel_rfl) (by kernel_rfl) (by kernel_rfl) (fun _ _ _ h => h) (Or.inl ⟨by rfl, ?_⟩) (by assumption) ?_
            rotate_left
            · ((intro w hSw; (try dsimp only at hSw); go_simp) <;> (try with_reducible rfl))
            show wpAnyH _ _ _ _ _ _ _ (Act.put _ (some 94) _) _
            simp only [Act.put, List.setIfInBounds_toArray, List.set_cons_succ, List.set_cons_zero]
            refine wpAnyH_take (i := 5) (oi := _) (v := ?_) rfl (by kernel_rfl) (by kernel_rfl) (by kernel_rfl) (fun _ _ _ h => h) (Or.inl ⟨by rfl, ?_⟩) (by assumption) ?_
            rotate_left
            · ((intro w hSw; (try dsimp only at hSw); go_simp) <;> (try with_reducible rfl))
            show wpAnyH _ _ _ _ _ _ _ (Act.put _ (some 95) _) _
            simp only [Act.put, List.setIfInBounds_toArray, List.set_cons_succ, List.set_cons_zero]
            refine wpAnyH_take (i := 7) (oi := _) (v := ?_) rfl (by kernel_rfl) (by kernel_rfl) (by kernel_rfl) (fun _ _ _ h => h) (Or.inl ⟨by rfl, ?_⟩) (by assumption) ?_
            rotate_left
            · ((intro w hSw; (try dsimp only at hSw); go_simp) <;> (try with_reducible rfl))
            show wpAnyH _ _ _ _ _ _ _ (Act.put _ (some 97) _) _
            simp only [Act.put, List.setIfInBounds_toArray, List.set_cons_succ, List.set_cons_zero]
            refine wpAnyH_ready (rs := [6]) (by kernel_rfl) (by simp) ?_
            refine AllReadyH.cons (o := _) rfl (fun KK hKK => ?_) AllReadyH.nil
            go_simp
            (go_at_call 22; refine (HVz.out _ (by first | exact K.out | exact K.out.drew)).mono ?_; rintro e w9 ⟨rfl, hb⟩)
            have K'' : Hid (Below wr.heap.size wr w9) := (by first | exact K.out.trans (hb.mono K.out.size) | exact K.out.drew.trans (hb.mono K.out.drew.size))
            clear K hb
            have K := K''
            clear K''
            refine hKK.out _ _ ?_ (fun hHeld => ?_)
            · exact EL _ K.out
            clear hKK KK
            try simp only [Act.put]
            refine wpAnyH_take (i := 8) (oi := _) (v := ?_) rfl (by kernel_rfl) (by kernel_rfl) (by kernel_rfl) (fun _ _ _ h => h) (Or.inl ⟨by rfl, ?_⟩) (by assumption) ?_
            rotate_left
            · ((intro w hSw; (try dsimp only at hSw); go_simp) <;> (try with_reducible rfl))
            show wpAnyH _ _ _ _ _ _ _ (Act.put _ (some 98) _) _
            simp only [Act.put, List.setIfInBounds_toArray, List.set_cons_succ, List.set_cons_zero]
            refine wpAnyH_done (by kernel_rfl) ?_ _
            refine NoPanic.normal ?_
            have KN := hidT (K0.out.below K.out)
            clear K EL HVz K0
            go_wp2
            exact ⟨⟨j + 1, hjl, by simp, KN⟩, by simp [intOf]; omega⟩
          · obtain rfl : M = j := by omega
            have K8 := hidT K0.out.l.d
            clear K0
            go_wp2_with (go_at_call 9; refine (HA.out.go _).mono ?_; rintro e w8 ⟨rfl, hb8⟩; have K9 := hidT (K8.out.trans (hb8.mono K8.out.size)))
            go_ret
            exact ⟨rfl, K9.out⟩
      · clear hA
        have EE : ∀ w, Below wm.heap.size wm w → w.cell? ⟨W.heap.size + 1, 0, none⟩ = some (.int .u64 (x.1 : Int)) ∧ w.cell? ⟨W.heap.size + 1, 1, none⟩ = some (.int .u64 (x.2 : Int)) ∧ w.cell? ⟨W.heap.size + 1, 2, none⟩ = some (.int .u64 (y.1 : Int)) ∧ w.cell? ⟨W.heap.size + 1, 3, none⟩ = some (.int .u64 (y.2 : Int)) ∧ w.cell? ⟨W.heap.size, 1, none⟩ = some (.slice a es.length cap) ∧ w.cell? ⟨q8, 0, none⟩ = some (.int .u64 (A.1 : Int)) ∧ w.cell? ⟨q8, 1, none⟩ = some (.int .u64 (A.2 : Int)) ∧ w.cell? ⟨q9, 0, none⟩ = some (.int .u64 (B.1 : Int)) ∧ w.cell? ⟨q9, 1, none⟩ = some (.int .u64 (B.2 : Int)) := fun w hb => ⟨keepc hb K4.out.1.b.x1, keepc hb K4.out.1.b.x0, keepc hb K4.out.1.b.y1, keepc hb K4.out.1.b.y0, keepc hb K4.out.1.b.s1, keepc hb K4.out.2.1.hi, keepc hb K4.out.2.1.lo, keepc hb K4.out.2.2.hi, keepc hb K4.out.2.2.lo⟩
        obtain ⟨x1, x0, y1, y0, s1, u1, u0, t1, t0⟩ := EE _ (Below.refl _ _)
        have K : Hid (Below wm.heap.size wm wm) := Below.refl _ _
        go_upto_region 5 with fail
        refine wp_region_noPanic ?_
        refine wp_region_held_drew (S := fun w => w.cell? ⟨W.heap.size + 1, 0, none⟩ = some (.int .u64 (x.1 : Int)) ∧ w.cell? ⟨W.heap.size + 1, 1, none⟩ = some (.int .u64 (x.2 : Int)) ∧ w.cell? ⟨W.heap.size + 1, 2, none⟩ = some (.int .u64 (y.1 : Int)) ∧ w.cell? ⟨W.heap.size + 1, 3, none⟩ = some (.int .u64 (y.2 : Int)) ∧ w.cell? ⟨W.heap.size, 1, none⟩ = some (.slice a es.length cap) ∧ w.cell? ⟨q8, 0, none⟩ = some (.int .u64 (A.1 : Int)) ∧ w.cell? ⟨q8, 1, none⟩ = some (.int .u64 (A.2 : Int)) ∧ w.cell? ⟨q9, 0, none⟩ = some (.int .u64 (B.1 : Int)) ∧ w.cell? ⟨q9, 1, none⟩ = some (.int .u64 (B.2 : Int))) (by kernel_rfl) (EE _ (Below.refl _ _).drew) (fun hHeld => ?_)
        refine wpAnyH_take (i := 0) (oi := _) (v := ?_) rfl (by kernel_rfl) (by kernel_rfl) (by kernel_rfl) (fun _ _ _ h => h) (Or.inl ⟨by rfl, ?_⟩) (by assumption) ?_
        rotate_left
        · ((intro w hSw; (try dsimp only at hSw); go_simp) <;> (try with_reducible rfl))
        show wpAnyH _ _ _ _ _ _ _ (Act.put _ (some 54) _) _
        simp only [Act.put, List.setIfInBounds_toArray, List.set_cons_succ, List.set_cons_zero]
        refine wpAnyH_take (i := 1) (oi := _) (v := ?_) rfl (by kernel_rfl) (by kernel_rfl) (by kernel_rfl) (fun _ _ _ h => h) (Or.inl ⟨by rfl, ?_⟩) (by assumption) ?_
        rotate_left
        · ((intro w hSw; (try dsimp only at hSw); go_simp) <;> (try with_reducible rfl))
        show wpAnyH _ _ _ _ _ _ _ (Act.put _ (some 55) _) _
        simp only [Act.put, List.setIfInBounds_toArray, List.set_cons_succ, List.set_cons_zero]
        refine wpAnyH_take (i := 2) (oi := _) (v := ?_) rfl (by kernel_rfl) (by kernel_rfl) (by kernel_rfl) (fun _ _ _ h => h) (Or.inl ⟨by rfl, ?_⟩) (by assumption) ?_
        rotate_left
        · ((intro w hSw; (try dsimp only at hSw); go_simp) <;> (try with_reducible rfl))
        show wpAnyH _ _ _ _ _ _ _ (Act.put _ (some 56) _) _
        simp only [Act.put, List.setIfInBounds_toArray, List.set_cons_succ, List.set_cons_zero]
        refine wpAnyH_take (i := 3) (oi := _) (v := ?_) rfl (by kernel_rfl) (by kernel_rfl) (by kernel_rfl) (fun _ _ _ h => h) (Or.inl ⟨by rfl, ?_⟩) (by assumption) ?_
        rotate_left
        · ((intro w hSw; (try dsimp only at hSw); go_simp) <;> (try with_reducible rfl))
        show wpAnyH _ _ _ _ _ _ _ (Act.put _ (some 57) _) _
        simp only [Act.put, List.setIfInBounds_toArray, List.set_cons_succ, List.set_cons_zero]
        refine wpAnyH_take (i := 4) (oi := _) (v := ?_) rfl (by kernel_rfl) (by kernel_rfl) (by kernel_rfl) (fun _ _ _ h => h) (Or.inl ⟨by rfl, ?_⟩) (by assumption) ?_
        rotate_left
        · ((intro w hSw; (try dsimp only at hSw); go_simp) <;> (try with_reducible rfl))
        show wpAnyH _ _ _ _ _ _ _ (Act.put _ (some 58) _) _
        simp only [Act.put, List.setIfInBounds_toArray, List.set_cons_succ, List.set_cons_zero]
        refine wpAnyH_take (i := 5) (oi := _) (v := ?_) rfl (by kernel_rfl) (by kernel_rfl) (by kernel_rfl) (fun _ _ _ h => h) (Or.inl ⟨by rfl, ?_⟩) (by assumption) ?_
        rotate_left
        · ((intro w hSw; (try dsimp only at hSw); go_simp) <;> (try with_reducible rfl))
        show wpAnyH _ _ _ _ _ _ _ (Act.put _ (some 59) _) _
        simp only [Act.put, List.setIfInBounds_toArray, List.set_cons_succ, List.set_cons_zero]
        refine wpAnyH_take (i := 8) (oi := _) (v := ?_) rfl (by kernel_rfl) (by kernel_rfl) (by kernel_rfl) (fun _ _ _ h => h) (Or.inl ⟨by rfl, ?_⟩) (by assumption) ?_
        rotate_left
        · ((intro w hSw; (try dsimp only at hSw); go_simp) <;> (try with_reducible rfl))
        show wpAnyH _ _ _ _ _ _ _ (Act.put _ (some 62) _) _
        simp only [Act.put, List.setIfInBounds_toArray, List.set_cons_succ, List.set_cons_zero]
        refine wpAnyH_take (i := 9) (oi := _) (v := ?_) rfl (by kernel_rfl) (by kernel_rfl) (by kernel_rfl) (fun _ _ _ h => h) (Or.inl ⟨by rfl, ?_⟩) (by assumption) ?_
        rotate_left
        · ((intro w hSw; (try dsimp only at hSw); go_simp) <;> (try with_reducible rfl))
        show wpAnyH _ _ _ _ _ _ _ (Act.put _ (some 63) _) _
        simp only [Act.put, List.setIfInBounds_toArray, List.set_cons_succ, List.set_cons_zero]
        refine wpAnyH_ready (rs := [6]) (by kernel_rfl) (by simp) ?_
        refine AllReadyH.cons (o := _) rfl (fun KK hKK => ?_) AllReadyH.nil
        go_simp
        (go_at_call_of 20 (#[.agg #[.int .u64 (x.1 : Int), .int .u64 (x.2 : Int)], .agg #[.int .u64 (y.1 : Int), .int .u64 (y.2 : Int)]] : Array Value); refine (HA1.out.go _).mono ?_; rintro e w9 ⟨rfl, hb⟩)
        have K'' : Hid (Below wm.heap.size wm w9) := (by first | exact K.out.trans (hb.mono K.out.size) | exact K.out.drew.trans (hb.mono K.out.drew.size))
        clear K hb
        have K := K''
        clear K''
        refine hKK.out _ _ ?_ (fun hHeld => ?_)
        · exact EE _ K.out
        clear hKK KK
        try simp only [Act.put]
        refine wpAnyH_ready (rs := [7]) (by kernel_rfl) (by simp) ?_
        refine AllReadyH.cons (o := _) rfl (fun KK hKK => ?_) AllReadyH.nil
        go_simp
        (go_at_call 22; refine (HVs.out _ (by first | exact K.out | exact K.out.drew)).mono ?_; rintro e w9 ⟨rfl, hb⟩)
        have K'' : Hid (Below wm.heap.size wm w9) := (by first | exact K.out.trans (hb.mono K.out.size) | exact K.out.drew.trans (hb.mono K.out.drew.size))
        clear K hb
        have K := K''
        clear K''
        refine hKK.out _ _ ?_ (fun hHeld => ?_)
        · exact EE _ K.out
        clear hKK KK
        try simp only [Act.put]
        refine wpAnyH_ready (rs := [10]) (by kernel_rfl) (by simp) ?_
        refine AllReadyH.cons (o := _) rfl (fun KK hKK => ?_) AllReadyH.nil
        go_simp
        (go_at_call 20; refine (HA2.out.go _).mono ?_; rintro e w9 ⟨rfl, hb⟩)
        have K'' : Hid (Below wm.heap.size wm w9) := (by first | exact K.out.trans (hb.mono K.out.size) | exact K.out.drew.trans (hb.mono K.out.drew.size))
        clear K hb
        have K := K''
        clear K''
        refine hKK.out _ _ ?_ (fun hHeld => ?_)
        · exact EE _ K.out
        clear hKK KK
        try simp only [Act.put]
        refine wpAnyH_take (i := 11) (oi := _) (v := ?_) rfl (by kernel_rfl) (by kernel_rfl) (by kernel_rfl) (fun _ _ _ h => h) (Or.inl ⟨by rfl, ?_⟩) (by assumption) ?_
        rotate_left
        · ((intro w hSw; (try dsimp only at hSw); go_simp) <;> (try with_reducible rfl))
        show wpAnyH _ _ _ _ _ _ _ (Act.put _ (some 65) _) _
        simp only [Act.put, List.setIfInBounds_toArray, List.set_cons_succ, List.set_cons_zero]
        refine wpAnyH_take (i := 12) (oi := _) (v := ?_) rfl (by kernel_rfl) (by kernel_rfl) (by kernel_rfl) (fun _ _ _ h => h) (Or.inl ⟨by rfl, ?_⟩) (by assumption) ?_
        rotate_left
        · ((intro w hSw; (try dsimp only at hSw); go_simp) <;> (try with_reducible rfl))
        show wpAnyH _ _ _ _ _ _ _ (Act.put _ (some 66) _) _
        simp only [Act.put, List.setIfInBounds_toArray, List.set_cons_succ, List.set_cons_zero]
        refine wpAnyH_take (i := 13) (oi := _) (v := ?_) rfl (by kernel_rfl) (by kernel_rfl) (by kernel_rfl) (fun _ _ _ h => h) (Or.inl ⟨by rfl, ?_⟩) (by assumption) ?_
        rotate_left
        · ((intro w hSw; (try dsimp only at hSw); go_simp) <;> (try with_reducible rfl))
        show wpAnyH _ _ _ _ _ _ _ (Act.put _ (some 67) _) _
        simp only [Act.put, List.setIfInBounds_toArray, List.set_cons_succ, List.set_cons_zero]
        refine wpAnyH_take (i := 14) (oi := _) (v := ?_) rfl (by kernel_rfl) (by kernel_rfl) (by kernel_rfl) (fun _ _ _ h => h) (Or.inl ⟨by rfl, ?_⟩) (by assumption) ?_
        rotate_left
        · ((intro w hSw; (try dsimp only at hSw); go_simp) <;> (try with_reducible rfl))
        show wpAnyH _ _ _ _ _ _ _ (Act.put _ (some 68) _) _
        simp only [Act.put, List.setIfInBounds_toArray, List.set_cons_succ, List.set_cons_zero]
        refine wpAnyH_take (i := 15) (oi := _) (v := ?_) rfl (by kernel_rfl) (by kernel_rfl) (by kernel_rfl) (fun _ _ _ h => h) (Or.inl ⟨by rfl, ?_⟩) (by assumption) ?_
        rotate_left
        · ((intro w hSw; (try dsimp only at hSw); go_simp) <;> (try with_reducible rfl))
        show wpAnyH _ _ _ _ _ _ _ (Act.put _ (some 69) _) _
        simp only [Act.put, List.setIfInBounds_toArray, List.set_cons_succ, List.set_cons_zero]
        refine wpAnyH_take (i := 16) (oi := _) (v := ?_) rfl (by kernel_rfl) (by kernel_rfl) (by kernel_rfl) (fun _ _ _ h => h) (Or.inl ⟨by rfl, ?_⟩) (by assumption) ?_
        rotate_left
        · ((intro w hSw; (try dsimp only at hSw); go_simp) <;> (try with_reducible rfl))
        show wpAnyH _ _ _ _ _ _ _ (Act.put _ (some 70) _) _
        simp only [Act.put, List.setIfInBounds_toArray, List.set_cons_succ, List.set_cons_zero]
        refine wpAnyH_take (i := 17) (oi := _) (v := ?_) rfl (by kernel_rfl) (by kernel_rfl) (by kernel_rfl) (fun _ _ _ h => h) (Or.inl ⟨by rfl, ?_⟩) (by assumption) ?_
        rotate_left
        · ((intro w hSw; (try dsimp only at hSw); go_simp) <;> (try with_reducible rfl))
        show wpAnyH _ _ _ _ _ _ _ (Act.put _ (some 71) _) _
        simp only [Act.put, List.setIfInBounds_toArray, List.set_cons_succ, List.set_cons_zero]
        refine wpAnyH_take (i := 18) (oi := _) (v := ?_) rfl (by kernel_rfl) (by kernel_rfl) (by kernel_rfl) (fun _ _ _ h => h) (Or.inl ⟨by rfl, ?_⟩) (by assumption) ?_
        rotate_left
        · ((intro w hSw; (try dsimp only at hSw); go_simp) <;> (try with_reducible rfl))
        show wpAnyH _ _ _ _ _ _ _ (Act.put _ (some 72) _) _
        simp only [Act.put, List.setIfInBounds_toArray, List.set_cons_succ, List.set_cons_zero]
        refine wpAnyH_take (i := 19) (oi := _) (v := ?_) rfl (by kernel_rfl) (by kernel_rfl) (by kernel_rfl) (fun _ _ _ h => h) (Or.inl ⟨by rfl, ?_⟩) (by assumption) ?_
        rotate_left
        · ((intro w hSw; (try dsimp only at hSw); go_simp) <;> (try with_reducible rfl))
        show wpAnyH _ _ _ _ _ _ _ (Act.put _ (some 73) _) _
        simp only [Act.put, List.setIfInBounds_toArray, List.set_cons_succ, List.set_cons_zero]
        refine wpAnyH_take (i := 20) (oi := _) (v := ?_) rfl (by kernel_rfl) (by kernel_rfl) (by kernel_rfl) (fun _ _ _ h => h) (Or.inl ⟨by rfl, ?_⟩) (by assumption) ?_
        rotate_left
        · ((intro w hSw; (try dsimp only at hSw); go_simp) <;> (try with_reducible rfl))
        show wpAnyH _ _ _ _ _ _ _ (Act.put _ (some 74) _) _
        simp only [Act.put, List.setIfInBounds_toArray, List.set_cons_succ, List.set_cons_zero]
        refine wpAnyH_take (i := 21) (oi := _) (v := ?_) rfl (by kernel_rfl) (by kernel_rfl) (by kernel_rfl) (fun _ _ _ h => h) (Or.inl ⟨by rfl, ?_⟩) (by assumption) ?_
        rotate_left
        · ((intro w hSw; (try dsimp only at hSw); go_simp) <;> (try with_reducible rfl))
        show wpAnyH _ _ _ _ _ _ _ (Act.put _ (some 75) _) _
        simp only [Act.put, List.setIfInBounds_toArray, List.set_cons_succ, List.set_cons_zero]
        refine wpAnyH_ready (rs := [22]) (by kernel_rfl) (by simp) ?_
        refine AllReadyH.cons (o := _) rfl (fun KK hKK => ?_) AllReadyH.nil
        go_simp
        (go_at_call 30; refine (HIn.out _ (by first | exact K.out | exact K.out.drew)).mono ?_; rintro e w9 ⟨rfl, hb⟩)
        have K'' : Hid (Below wm.heap.size wm w9) := (by first | exact K.out.trans (hb.mono K.out.size) | exact K.out.drew.trans (hb.mono K.out.drew.size))
        clear K hb
        have K := K''
        clear K''
        refine hKK.out _ _ ?_ (fun hHeld => ?_)
        · exact EE _ K.out
        clear hKK KK
        try simp only [Act.put]
        refine wpAnyH_take (i := 23) (oi := _) (v := ?_) rfl (by kernel_rfl) (by kernel_rfl) (by kernel_rfl) (fun _ _ _ h => h) (Or.inl ⟨by rfl, ?_⟩) (by assumption) ?_
        rotate_left
        · ((intro w hSw; (try dsimp only at hSw); go_simp) <;> (try with_reducible rfl))
        show wpAnyH _ _ _ _ _ _ _ (Act.put _ (some 77) _) _
        simp only [Act.put, List.setIfInBounds_toArray, List.set_cons_succ, List.set_cons_zero]
        refine wpAnyH_take (i := 24) (oi := _) (v := ?_) rfl (by kernel_rfl) (by kernel_rfl) (by kernel_rfl) (fun _ _ _ h => h) (Or.inl ⟨by rfl, ?_⟩) (by assumption) ?_
        rotate_left
        · ((intro w hSw; (try dsimp only at hSw); go_simp) <;> (try with_reducible rfl))
        show wpAnyH _ _ _ _ _ _ _ (Act.put _ (some 78) _) _
        simp only [Act.put, List.setIfInBounds_toArray, List.set_cons_succ, List.set_cons_zero]
        refine wpAnyH_done (by kernel_rfl) ?_ _
        refine NoPanic.normal ?_
        have K6 : Hid (Zl W _ k es ts p a' aT aB c cT cB q8 A) := ⟨K4.out.1.s.below K.out, K4.out.2.1.below K.out, K4.out.1.b.d.trans (K.out.mono K4.out.1.b.d.size)⟩
        obtain ⟨x1, x0, _, _, _⟩ := EE _ K.out
        clear K EE HA1 HA2 HVs HIn K4
        go_wp2_with (go_at_call 15; refine (spts_ok K6.out.s U1.out i h1 x lx ox).mono ?_; rintro e w7 ⟨g, rfl, _, hrow, hb7⟩; have K7 : Hid (Zr W w7 k es ts p a' aT aB c cT cB q8 A g (pts es x i)) := ⟨K6.out.below hb7, hrow⟩; clear hb7 hrow K6 x1 x0)
        rw [← hM.out]
        go_loopw [11] (fun u wr => ∃ j : Nat, j ≤ M ∧ u = .int .i64 j ∧ Hid (Zr W wr k es ts p a' aT aB c cT cB q8 A g (pts es x i))) (fun u _ => M - (intOf u).toNat)
        case atStart => exact ⟨0, Nat.zero_le _, rfl, K7⟩
        case round =>
          clear K7
          obtain ⟨j, hj, rfl, K0⟩ := hrel
          by_cases hjl : j < M
          · have j1 : (j : Int) < (M : Int) := by omega
            have j0 : (0 : Int) ≤ (j : Int) := by omega
            have hjp : j < (pts es x i).length := by rw [pts_len, ← hM.out]; exact hjl
            have HVz : Hid (∀ w, Below wr.heap.size wr w → Calls Try.prog 22 #[.pointer (some ⟨p, 0, none⟩), .int .i64 (i : Int), .agg #[.int .u64 ((el (pts es x i) j).1 : Int), .int .u64 ((el (pts es x i) j).2 : Int)]] w fun e w' => e = .returned (.agg #[.int .u64 (A.1 : Int), .int .u64 (A.2 : Int)]) ∧ Below w.heap.size w w') := fun w hb => by
              have := sval_ok (K0.out.l.s.below hb) U1.out i h1 (el (pts es x i) j) (ltE_el (lt_pts U1.out.lt lx i) j) (of_ptsL hk U1.out.of ox i hjp)
              rw [vw_pts U1.out.lt i h1 lx (hM.out ▸ hjl), HVA.out] at this
              exact this
            have EL : ∀ w, Below wr.heap.size wr w → w.cell? ⟨q8, 0, none⟩ = some (.int .u64 (A.1 : Int)) ∧ w.cell? ⟨q8, 1, none⟩ = some (.int .u64 (A.2 : Int)) ∧ w.cell? ⟨g, j * 2, none⟩ = some (.int .u64 ((el (pts es x i) j).1 : Int)) ∧ w.cell? ⟨g, j * 2 + 1, none⟩ = some (.int .u64 ((el (pts es x i) j).2 : Int)) := fun w hb => by
              obtain ⟨g', o', e, _, z1, z0⟩ := (K0.out.r.below hb).cells j hjp
              injection e with e; injection e with e1 e2; subst e1 e2
              rw [Nat.zero_add] at z1 z0
              exact ⟨keepc hb K0.out.l.e.hi, keepc hb K0.out.l.e.lo, z1, z0⟩
            clear hjp
            generalize el (pts es x i) j = z at *
            obtain ⟨u1, u0, z1, z0⟩ := EL _ (Below.refl _ _)
            have K : Hid (Below wr.heap.size wr wr) := Below.refl _ _
            go_upto_region 11 with fail
            refine wp_region_noPanic ?_
            refine wp_region_held_drew (S := fun w => w.cell? ⟨q8, 0, none⟩ = some (.int .u64 (A.1 : Int)) ∧ w.cell? ⟨q8, 1, none⟩ = some (.int .u64 (A.2 : Int)) ∧ w.cell? ⟨g, j * 2, none⟩ = some (.int .u64 (z.1 : Int)) ∧ w.cell? ⟨g, j * 2 + 1, none⟩ = some (.int .u64 (z.2 : Int))) (by kernel_rfl) (EL _ (Below.refl _ _).drew) (fun hHeld => ?_)
            refine wpAnyH_take (i := 0) (oi := _) (v := ?_) rfl (by kernel_rfl) (by kernel_rfl) (by kernel_rfl) (fun _ _ _ h => h) (Or.inl ⟨by rfl, ?_⟩) (by assumption) ?_
            rotate_left
            · ((intro w hSw; (try dsimp only at hSw); go_simp) <;> (try with_reducible rfl))
            show wpAnyH _ _ _ _ _ _ _ (Act.put _ (some 90) _) _
            simp only [Act.put, List.setIfInBounds_toArray, List.set_cons_succ, List.set_cons_zero]
            refine wpAnyH_take (i := 1) (oi := _) (v := ?_) rfl (by kernel_rfl) (by kernel_rfl) (by kernel_rfl) (fun _ _ _ h => h) (Or.inl ⟨by rfl, ?_⟩) (by assumption) ?_
            rotate_left
            · ((intro w hSw; (try dsimp only at hSw); go_simp) <;> (try with_reducible rfl))
            show wpAnyH _ _ _ _ _ _ _ (Act.put _ (some 91) _) _
            simp only [Act.put, List.setIfInBounds_toArray, List.set_cons_succ, List.set_cons_zero]
            refine wpAnyH_take (i := 2) (oi := _) (v := ?_) rfl (by kernel_rfl) (by kernel_rfl) (by kernel_rfl) (fun _ _ _ h => h) (Or.inl ⟨by rfl, ?_⟩) (by assumption) ?_
            rotate_left
            · ((intro w hSw; (try dsimp only at hSw); go_simp) <;> (try with_reducible rfl))
            show wpAnyH _ _ _ _ _ _ _ (Act.put _ (some 92) _) _
            simp only [Act.put, List.setIfInBounds_toArray, List.set_cons_succ, List.set_cons_zero]
            refine wpAnyH_take (i := 3) (oi := _) (v := ?_) rfl (by kernel_rfl) (by kernel_rfl) (by kernel_rfl) (fun _ _ _ h => h) (Or.inl ⟨by rfl, ?_⟩) (by assumption) ?_
            rotate_left
            · ((intro w hSw; (try dsimp only at hSw); go_simp) <;> (try with_reducible rfl))
            show wpAnyH _ _ _ _ _ _ _ (Act.put _ (some 93) _) _
            simp only [Act.put, List.setIfInBounds_toArray, List.set_cons_succ, List.set_cons_zero]
            refine wpAnyH_take (i := 4) (oi := _) (v := ?_) rfl (by kernel_rfl) (by kernel_rfl) (by kernel_rfl) (fun _ _ _ h => h) (Or.inl ⟨by rfl, ?_⟩) (by assumption) ?_
            rotate_left
            · ((intro w hSw; (try dsimp only at hSw); go_simp) <;> (try with_reducible rfl))
            show wpAnyH _ _ _ _ _ _ _ (Act.put _ (some 94) _) _
            simp only [Act.put, List.setIfInBounds_toArray, List.set_cons_succ, List.set_cons_zero]
            refine wpAnyH_take (i := 5) (oi := _) (v := ?_) rfl (by kernel_rfl) (by kernel_rfl) (by kernel_rfl) (fun _ _ _ h => h) (Or.inl ⟨by rfl, ?_⟩) (by assumption) ?_
            rotate_left
            · ((intro w hSw; (try dsimp only at hSw); go_simp) <;> (try with_reducible rfl))
            show wpAnyH _ _ _ _ _ _ _ (Act.put _ (some 95) _) _
            simp only [Act.put, List.setIfInBounds_toArray, List.set_cons_succ, List.set_cons_zero]
            refine wpAnyH_take (i := 7) (oi := _) (v := ?_) rfl (by kernel_rfl) (by kernel_rfl) (by kernel_rfl) (fun _ _ _ h => h) (Or.inl ⟨by rfl, ?_⟩) (by assumption) ?_
            rotate_left
            · ((intro w hSw; (try dsimp only at hSw); go_simp) <;> (try with_reducible rfl))
            show wpAnyH _ _ _ _ _ _ _ (Act.put _ (some 97) _) _
            simp only [Act.put, List.setIfInBounds_toArray, List.set_cons_succ, List.set_cons_zero]
            refine wpAnyH_ready (rs := [6]) (by kernel_rfl) (by simp) ?_
            refine AllReadyH.cons (o := _) rfl (fun KK hKK => ?_) AllReadyH.nil
            go_simp
            (go_at_call 22; refine (HVz.out _ (by first | exact K.out | exact K.out.drew)).mono ?_; rintro e w9 ⟨rfl, hb⟩)
            have K'' : Hid (Below wr.heap.size wr w9) := (by first | exact K.out.trans (hb.mono K.out.size) | exact K.out.drew.trans (hb.mono K.out.drew.size))
            clear K hb
            have K := K''
            clear K''
            refine hKK.out _ _ ?_ (fun hHeld => ?_)
            · exact EL _ K.out
            clear hKK KK
            try simp only [Act.put]
            refine wpAnyH_take (i := 8) (oi := _) (v := ?_) rfl (by kernel_rfl) (by kernel_rfl) (by kernel_rfl) (fun _ _ _ h => h) (Or.inl ⟨by rfl, ?_⟩) (by assumption) ?_
            rotate_left
            · ((intro w hSw; (try dsimp only at hSw); go_simp) <;> (try with_reducible rfl))
            show wpAnyH _ _ _ _ _ _ _ (Act.put _ (some 98) _) _
            simp only [Act.put, List.setIfInBounds_toArray, List.set_cons_succ, List.set_cons_zero]
            refine wpAnyH_done (by kernel_rfl) ?_ _
            refine NoPanic.normal ?_
            have KN := hidT (K0.out.below K.out)
            clear K EL HVz K0
            go_wp2
            exact ⟨⟨j + 1, hjl, by simp, KN⟩, by simp [intOf]; omega⟩
          · obtain rfl : M = j := by omega
            have K8 := hidT K0.out.l.d
            clear K0
            go_wp2_with (go_at_call 9; refine (HA.out.go _).mono ?_; rintro e w8 ⟨rfl, hb8⟩; have K9 := hidT (K8.out.trans (hb8.mono K8.out.size)))
            go_ret
            exact ⟨rfl, K9.out⟩
theorem lz_any (l : Int) (a : Option Addr) (cap : Nat) (es : List (Nat × Nat)) (hes : ltE es) (ha : a = none → es.length = 0 ∧ cap = 0) (hcap : es.length ≤ cap) (i : Int) (x y : Nat × Nat) (lx : lt2 x) (ly : lt2 y) (W : World) (hr : ERow W a es) :
    Calls Try.prog 6 #[.agg #[.int .i64 l, .slice a es.length cap], .int .i64 i, .agg #[.int .u64 (x.1 : Int), .int .u64 (x.2 : Int), .int .u64 (y.1 : Int), .int .u64 (y.2 : Int)]] W fun e w' => e = .returned (.bool true) ∧ Below W.heap.size W w' := by
  by_cases h : Ok5 l es
  · obtain ⟨k, hk, rfl, ot⟩ := h.lvl
    by_cases h0 : i < 0
    · exact lz_neg k hk a cap es hes ha i x y lx ly h ot h0 W hr
    · by_cases h1 : (es.length : Int) < i
      · exact lz_big k hk a cap es hes ha i x y lx ly h ot h0 h1 W hr
      · cases ox : ofB (k : Int) (x.1 : Int) (x.2 : Int)
        · exact lz_x k hk a cap es hes ha i x y lx ly h ot h0 h1 ox W hr
        · cases oy : ofB (k : Int) (y.1 : Int) (y.2 : Int)
          · exact lz_y k hk a cap es hes ha i x y lx ly h ot h0 h1 ox oy W hr
          · obtain ⟨j, rfl⟩ : ∃ j : Nat, i = (j : Int) := ⟨i.toNat, by omega⟩
            exact lz_main k hk a cap es hes ha j x y lx ly h ot hcap (by omega) ox oy W hr
  · exact lz_none l a cap es hes i x y h W hr
end Go.Proofs.Ytnecjkdlmecgdaa
