/- The document's side of signs over the seat's translation: steepleref06.All, steepleref18.May, SignAt, Sign. -/
import Derived.Test.YthfebbmmhjkglaaTuK
namespace Go.Proofs.Ythfebbmmhjkglaa
open Go.RowKit
open Cb
open Tw (pm)

set_option maxHeartbeats 2000000 in
theorem trall (l : Int) (a : Option Addr) (cap : Nat) (es : List (Nat × Nat)) (hes : ltE es) (W : World) (hr : ERow W a es) (h10 : es.length ≤ 100000) :
    Calls Try.prog 48 #[.int .i64 l, .slice a es.length cap] W fun e w' => e = .returned (.bool (es.all fun e => ofB l (e.1 : Int) (e.2 : Int))) ∧ Below W.heap.size W w' := by
  have HR : Hid (ERow W a es) := hr
  have HO : Hid (∀ j : Nat, Ret 32 #[.int .i64 l, .agg #[.int .u64 ((es.getD j (0, 0)).1 : Int), .int .u64 ((es.getD j (0, 0)).2 : Int)]] (.bool (ofB l ((es.getD j (0, 0)).1 : Int) ((es.getD j (0, 0)).2 : Int)))) := fun j => rof_any l _ _ (hes.at j).1 (hes.at j).2
  clear hr hes
  go_enter Try.func48, Try.ntmps48
  go_wp2_with fail
  go_loopw [5] (fun u wr => ∃ j : Nat, j ≤ es.length ∧ u = .int .i64 j ∧ Hid ((es.take j).all (fun e => ofB l (e.1 : Int) (e.2 : Int)) = true) ∧ Below W.heap.size W wr) (fun u _ => es.length - (intOf u).toNat)
  case atStart => exact ⟨0, Nat.zero_le _, rfl, (by rfl), Below.refl _ _⟩
  case round =>
    obtain ⟨j, hj, rfl, HT, hD⟩ := hrel
    by_cases hlt : j < es.length
    · obtain ⟨b, off, rfl, hb, c1, c0⟩ := HR.out.cells j hlt
      have d1 : wr.cell? ⟨b, off + j * 2, none⟩ = some (.int .u64 ((es.getD j (0, 0)).1 : Nat)) := by rw [hD.cell (p := ⟨b, off + j * 2, none⟩) hb]; exact c1
      have d0 : wr.cell? ⟨b, off + j * 2 + 1, none⟩ = some (.int .u64 ((es.getD j (0, 0)).2 : Nat)) := by rw [hD.cell (p := ⟨b, off + j * 2 + 1, none⟩) hb]; exact c0
      have H1 := HO.out j
      have HD : Hid (Below W.heap.size W wr) := hD
      have HS : Hid (es.take (j + 1) = es.take j ++ [es.getD j (0, 0)]) := take_sn es j hlt
      have HM : Hid (es.getD j (0, 0) ∈ es) := by show _ ∈ _; rw [show es.getD j (0, 0) = es[j] by simp [hlt]]; exact List.getElem_mem hlt
      clear hD c1 c0 HR HO
      generalize es.getD j (0, 0) = x at *
      rcases hB : ofB l (x.1 : Int) (x.2 : Int) with _ | _
      · rw [hB] at H1
        go_wp2_with fail
        refine (H1.go _).mono ?_
        rintro e w4 ⟨rfl, hb4⟩
        have HD4 : Hid (Below W.heap.size W w4) := HD.out.trans (hb4.mono HD.out.size)
        clear hb4 d1 d0 HD
        go_wp2
        go_ret
        refine ⟨?_, HD4.out⟩
        rw [show (es.all fun e => ofB l (e.1 : Int) (e.2 : Int)) = false from by
          rw [List.all_eq_false]; exact ⟨x, HM.out, by rw [hB]; decide⟩]
        rfl
      · rw [hB] at H1
        go_wp2_with fail
        refine (H1.go _).mono ?_
        rintro e w4 ⟨rfl, hb4⟩
        have HD4 : Hid (Below W.heap.size W w4) := HD.out.trans (hb4.mono HD.out.size)
        clear hb4 d1 d0 HD
        go_wp2
        exact ⟨⟨j + 1, hlt, by simp, (by show _ = _; rw [HS.out, List.all_append, HT.out]; simp [hB]), HD4.out⟩, by simp [intOf]; omega⟩
    · have HD : Hid (Below W.heap.size W wr) := hD
      obtain rfl : j = es.length := by omega
      clear hD
      go_wp2
      go_ret
      refine ⟨?_, HD.out⟩
      have := HT.out
      rw [List.take_of_length_le (Nat.le_refl _)] at this
      rw [this]
      rfl
/-- The error of a turn and a point. -/
def my18 (l k v s : Int) (p : List (Nat × Nat)) : Int := if (0 ≤ l ∧ l ≤ 7) ∧ ftB k v s = true then (if (p.length : Int) = v then (if (p.all fun e => ofB l (e.1 : Int) (e.2 : Int)) = true then 0 else 5) else 6) else 1
set_option maxHeartbeats 2000000 in
theorem rmay18 (l k v s : Int) (a : Option Addr) (cap : Nat) (p : List (Nat × Nat)) (hp : ltE p) (h10 : p.length ≤ 1000) (W : World) (hr : ERow W a p) :
    Calls Try.prog 20 #[.int .i64 l, .int .i64 k, .int .i64 v, .int .i64 s, .slice a p.length cap] W fun e w' => e = .returned (.int .i64 (my18 l k v s p)) ∧ Below W.heap.size W w' := by
  have HF := Hid.mkT (rfits18 k v s)
  have HA : Hid (∀ w, Below W.heap.size W w → Calls Try.prog 48 #[.int .i64 l, .slice a p.length cap] w fun e w' => e = .returned (.bool (p.all fun e => ofB l (e.1 : Int) (e.2 : Int))) ∧ Below w.heap.size w w') := fun w hb => trall l a cap p hp w (hr.below hb) (by omega)
  obtain ⟨z, hz⟩ : ∃ z, z = my18 l k v s p := ⟨_, rfl⟩
  rw [← hz]
  unfold my18 at hz
  generalize (p.all fun e => ofB l (e.1 : Int) (e.2 : Int)) = x at *
  generalize ftB k v s = f at *
  clear hp hr
  by_cases hl : 0 ≤ l ∧ l ≤ 7
  · cases f
    · rw [if_neg (by rintro ⟨_, h⟩; cases h)] at hz
      subst hz
      obtain ⟨h1, h2⟩ := hl
      go_enter Try.func20, Try.ntmps20
      go_wp2_with (go_at_call 12; refine (HF.out.go _).mono ?_; rintro e w1 ⟨rfl, hb1⟩)
      go_ret
      exact ⟨rfl, hb1⟩
    · rw [if_pos ⟨hl, rfl⟩] at hz
      obtain ⟨h1, h2⟩ := hl
      by_cases hv : (p.length : Int) = v
      · rw [if_pos hv] at hz
        have hv2 : ((p.length : Int) != v) = false := by simp [hv]
        clear hv
        cases x
        · rw [if_neg (by decide)] at hz
          subst hz
          go_enter Try.func20, Try.ntmps20
          go_wp2_with (first | (go_at_call 12; refine (HF.out.go _).mono ?_; rintro e w1 ⟨rfl, hb1⟩; have D1 : Hid (Below W.heap.size W w1) := hb1; clear hb1) | (go_at_call 48; refine (HA.out _ D1.out).mono ?_; rintro e w2 ⟨rfl, hb2⟩))
          go_ret
          exact ⟨rfl, D1.out.trans (hb2.mono D1.out.size)⟩
        · rw [if_pos rfl] at hz
          subst hz
          go_enter Try.func20, Try.ntmps20
          go_wp2_with (first | (go_at_call 12; refine (HF.out.go _).mono ?_; rintro e w1 ⟨rfl, hb1⟩; have D1 : Hid (Below W.heap.size W w1) := hb1; clear hb1) | (go_at_call 48; refine (HA.out _ D1.out).mono ?_; rintro e w2 ⟨rfl, hb2⟩))
          go_ret
          exact ⟨rfl, D1.out.trans (hb2.mono D1.out.size)⟩
      · rw [if_neg hv] at hz
        subst hz
        have hv2 : ((p.length : Int) != v) = true := by simp [hv]
        go_enter Try.func20, Try.ntmps20
        go_wp2_with (go_at_call 12; refine (HF.out.go _).mono ?_; rintro e w1 ⟨rfl, hb1⟩)
        go_ret
        exact ⟨rfl, hb1⟩
  · rw [if_neg (fun h => hl h.1)] at hz
    subst hz
    rcases Int.lt_or_le l 0 with h1 | h1
    · clear hl
      go_enter Try.func20, Try.ntmps20
      go_wp2
      go_ret
      exact ⟨rfl, Below.refl _ _⟩
    · have h2 : 7 < l := by omega
      clear hl
      go_enter Try.func20, Try.ntmps20
      go_wp2
      go_ret
      exact ⟨rfl, Below.refl _ _⟩
/-- The answer's box and the sum so far. -/
structure Sg (W w : World) (o : Nat × Nat) : Prop where
  r : Ew w W.heap.size 0 0
  o : Ew w (W.heap.size + 1) o.1 o.2
  d : Below W.heap.size W w
theorem Sg.below {W w w' : World} {o : Nat × Nat} (h : Sg W w o) (hb : Below w.heap.size w w') : Sg W w' o := ⟨h.r.below hb, h.o.below hb, h.d.trans (hb.mono h.d.size)⟩
theorem Sg.drew {W w : World} {o : Nat × Nat} (h : Sg W w o) : Sg W w.drew o := h.below (Below.refl _ _).drew
theorem Sg.put {W w : World} {o : Nat × Nat} (h : Sg W w o) (v : Nat × Nat) : Sg W ((w.setCell ⟨W.heap.size + 1, 0, none⟩ (.int .u64 (v.1 : Int))).setCell ⟨W.heap.size + 1, 1, none⟩ (.int .u64 (v.2 : Int))) v := by
  obtain ⟨⟨h1, h2⟩, h3, h4⟩ := h.o
  exact ⟨h.r.offT (by omega) _ _ _ _, ⟨⟨by simp [go_sem, *], by simp [go_sem, *]⟩, by simp [go_sem, *], by simp [go_sem, *]⟩, (h.d.setCell (by show _ ≤ W.heap.size + 1; omega) _).setCell (by show _ ≤ W.heap.size + 1; omega) _⟩
theorem Sg.new (W : World) (T : TypeId) : Sg W ((W.alloc (Obj.cells #[.int .u64 0, .int .u64 0] T)).alloc (Obj.cells #[.int .u64 0, .int .u64 0] T)) (0, 0) := ⟨⟨⟨by simp [go_sem], by simp [go_sem]⟩, by simp [go_sem], by simp [go_sem]⟩, ⟨⟨by simp [go_sem], by simp [go_sem]⟩, by simp [go_sem], by simp [go_sem]⟩, by go_grown⟩
set_option maxHeartbeats 8000000 in
set_option maxRecDepth 100000 in
theorem rsignat (k : Int) (q t n y : Nat) (hq : q ≤ 6) (hn : pw (q : Int) = n) (ht : t < n) (hy : y < n) (a : Option Addr) (cap : Nat) (p : List (Nat × Nat)) (hp : ltE p) (h10 : p.length ≤ 1000) (W : World) (hr : ERow W a p) :
    Calls Try.prog 21 #[.int .i64 k, .int .i64 (q : Int), .int .i64 (t : Int), .slice a p.length cap, .int .i64 (y : Int)] W fun e w' => e = .returned (.agg #[.int .u64 ((xs n fun x => if wsB k n t x y = true then wt p x else (0, 0)).1 : Int), .int .u64 ((xs n fun x => if wsB k n t x y = true then wt p x else (0, 0)).2 : Int)]) ∧ Below W.heap.size W w' := by
  have hn1 := pw_le (w := (q : Int)) (by omega)
  rw [hn] at hn1
  have H2 := Hid.mkT (rtwoP q n hq hn)
  have HW : Hid (∀ x, x < n → Ret 14 #[.int .i64 k, .int .i64 (q : Int), .int .i64 (t : Int), .int .i64 (x : Int), .int .i64 (y : Int)] (.bool (wsB k n t x y))) := fun x hx => rwas k q n t x y hq hn (by omega) (by omega) (by omega)
  have HWt0 : Hid (∀ c, c < n → ∀ w, Below W.heap.size W w → Calls Try.prog 50 #[.slice a p.length cap, .int .i64 (c : Int)] w fun e w' => e = .returned (.agg #[.int .u64 ((wt p c).1 : Int), .int .u64 ((wt p c).2 : Int)]) ∧ Below w.heap.size w w') := fun c hc w hb => rweight_any a cap c p hp h10 (by omega) w (hr.below hb)
  obtain ⟨zz, hzz⟩ : ∃ z, z = xs n fun x => if wsB k n t x y = true then wt p x else (0, 0) := ⟨_, rfl⟩
  rw [← hzz]
  have HZZ := Hid.mkT hzz
  have K0 := Hid.mkT (Sg.new W 49)
  clear hzz hr hp hn
  go_enter Try.func21, Try.ntmps21
  go_wp2_with fail
  go_loopw [12] (fun u wr => ∃ (i : Nat) (o : Nat × Nat), i ≤ n ∧ u = .int .i64 i ∧ Hid (o = xs i fun x => if wsB k n t x y = true then wt p x else (0, 0)) ∧ Hid (Sg W wr o)) (fun u _ => n - (intOf u).toNat)
  case atStart => exact ⟨0, (0, 0), Nat.zero_le _, rfl, rfl, K0⟩
  case round =>
    obtain ⟨i, o, hi, rfl, HO, K⟩ := hrel
    clear K0
    by_cases hlt : i < n
    · have i1 : (i : Int) < (n : Int) := by omega
      have H3 := Hid.mkT (HW.out i hlt)
      have HS : Hid (xs (i + 1) (fun x => if wsB k n t x y = true then wt p x else (0, 0)) = xa o (if wsB k n t i y = true then wt p i else (0, 0))) := by show _ = _; rw [HO.out]; rfl
      have hlo : lt2 o := by rw [HO.out]; exact lt_xs (fun x => by split; exact lt_wt _ _; exact lt_zero) _
      have HWt := Hid.mkT (HWt0.out i hlt)
      have hlw := lt_wt p i
      generalize wt p i = v at *
      cases hws : wsB k n t i y
      · rw [hws] at H3 HS
        rw [if_neg (by decide), xa_zero] at HS
        clear hws
        go_wp2_with (first | (go_at_call 41; refine (H2.out.go _).mono ?_; rintro e w1 ⟨rfl, hb1⟩; have K1 := Hid.mkT (K.out.below hb1); clear hb1) | (go_at_call 14; refine (H3.out.go _).mono ?_; rintro e w2 ⟨rfl, hb2⟩; have K2 := Hid.mkT (K1.out.below hb2); clear hb2))
        exact ⟨⟨i + 1, o, hlt, by simp, HS.out.symm, K2⟩, by simp [intOf]; omega⟩
      · rw [hws] at H3 HS
        rw [if_pos rfl] at HS
        have HAd : Hid (Ret 49 #[.agg #[.int .u64 (o.1 : Int), .int .u64 (o.2 : Int)], .agg #[.int .u64 (v.1 : Int), .int .u64 (v.2 : Int)]] (.agg #[.int .u64 ((xa o v).1 : Int), .int .u64 ((xa o v).2 : Int)])) := rsum o v hlo hlw
        generalize xa o v = z at *
        clear hws hlo hlw HO
        go_wp2_with (first | (go_at_call 41; refine (H2.out.go _).mono ?_; rintro e w1 ⟨rfl, hb1⟩; have K1 := Hid.mkT (K.out.below hb1); clear hb1) | (go_at_call 14; refine (H3.out.go _).mono ?_; rintro e w2 ⟨rfl, hb2⟩; have K2 := Hid.mkT (K1.out.below hb2); clear hb2))
        clear K K1
        have K := K2
        clear K2
        refine wp_region_noPanic ?_
        refine wp_region_peel (S := fun w => w.cell? ⟨W.heap.size + 1, 0, none⟩ = some (.int .u64 (o.1 : Int)) ∧ w.cell? ⟨W.heap.size + 1, 1, none⟩ = some (.int .u64 (o.2 : Int))) 5 (by kernel_rfl) rfl (by kernel_rfl) ?_ (fun hHeld => ?_)
        · exact ⟨K.out.o.hi, K.out.o.lo⟩
        refine wpAnyH_take (i := 0) (oi := _) (v := ?_) rfl (by kernel_rfl) (by kernel_rfl) (by kernel_rfl) (fun _ _ _ h => h) (Or.inl ⟨by rfl, ?_⟩) (by assumption) ?_
        rotate_left
        · ((intro w hSw; (try dsimp only at hSw); go_simp) <;> (try with_reducible rfl))
        try simp only [Act.put]
        refine wpAnyH_take (i := 1) (oi := _) (v := ?_) rfl (by kernel_rfl) (by kernel_rfl) (by kernel_rfl) (fun _ _ _ h => h) (Or.inl ⟨by rfl, ?_⟩) (by assumption) ?_
        rotate_left
        · ((intro w hSw; (try dsimp only at hSw); go_simp) <;> (try with_reducible rfl))
        try simp only [Act.put]
        refine wpAnyH_take (i := 2) (oi := _) (v := ?_) rfl (by kernel_rfl) (by kernel_rfl) (by kernel_rfl) (fun _ _ _ h => h) (Or.inl ⟨by rfl, ?_⟩) (by assumption) ?_
        rotate_left
        · ((intro w hSw; (try dsimp only at hSw); go_simp) <;> (try with_reducible rfl))
        try simp only [Act.put]
        refine wpAnyH_ready (rs := [3]) (by kernel_rfl) (by simp) ?_
        refine AllReadyH.cons (o := _) rfl (fun KK hKK => ?_) AllReadyH.nil
        go_simp
        ((go_at_call 50; refine (HWt.out _ (by first | exact K.out.d | exact K.out.drew.d)).mono ?_; rintro e w' ⟨rfl, hb'⟩))
        have K'' : Hid (Sg W w' o) := (by first | exact K.out.below hb' | exact K.out.drew.below hb')
        clear K hb'
        have K := K''
        clear K''
        refine hKK.out _ _ ?_ (fun hHeld => ?_)
        · exact ⟨K.out.o.hi, K.out.o.lo⟩
        clear hKK KK
        try simp only [Act.put]
        refine wpAnyH_ready (rs := [4]) (by kernel_rfl) (by simp) ?_
        refine AllReadyH.cons (o := _) rfl (fun KK hKK => ?_) AllReadyH.nil
        go_simp
        ((go_at_call 49; refine (HAd.out.go _).mono ?_; rintro e w' ⟨rfl, hb'⟩))
        have K'' : Hid (Sg W w' o) := (by first | exact K.out.below hb' | exact K.out.drew.below hb')
        clear K hb'
        have K := K''
        clear K''
        refine hKK.out _ _ ?_ (fun hHeld => ?_)
        · exact ⟨K.out.o.hi, K.out.o.lo⟩
        clear hKK KK
        try simp only [Act.put]
        refine wpAnyH_done (by kernel_rfl) ?_ _
        refine peel_last rfl (fun KK hKK => ?_)
        clear hHeld
        obtain ⟨⟨k1, k2⟩, k3, k4⟩ := K.out.o
        go_simp
        refine hKK _ _ ?_
        refine NoPanic.normal ?_
        clear hKK KK
        clear k1 k2 k3 k4
        have K9 := Hid.mkT (K.out.put z)
        clear K
        go_wp2_with fail
        exact ⟨⟨i + 1, z, hlt, by simp, HS.out.symm, K9⟩, by simp [intOf]; omega⟩
    · obtain rfl : i = n := by omega
      have hoz : o = zz := by rw [HO.out, HZZ.out]
      subst hoz
      clear HO HZZ HWt0 HW
      go_wp2_with (go_at_call 41; refine (H2.out.go _).mono ?_; rintro e w1 ⟨rfl, hb1⟩; have K1 := Hid.mkT (K.out.below hb1); clear hb1; obtain ⟨⟨k1, k2⟩, k3, k4⟩ := K1.out.o; obtain ⟨⟨r1, r2⟩, r3, r4⟩ := K1.out.r)
      refine bodyPost_ret (v := .agg #[.int .u64 (o.1 : Int), .int .u64 (o.2 : Int)]) (by simp [results, Try.results21, go_sem, *]) rfl ⟨rfl, ?_⟩
      exact (K1.out.d.setCell (by simp) _).setCell (by simp) _
set_option maxHeartbeats 8000000 in
set_option maxRecDepth 100000 in
theorem rsign (k : Int) (q t n : Nat) (hq : q ≤ 6) (hn : pw (q : Int) = n) (ht : t < n) (a c : Option Addr) (cap cap2 : Nat) (p r : List (Nat × Nat)) (hp : ltE p) (hr2 : ltE r) (h10 : p.length ≤ 1000) (h11 : r.length ≤ 1000) (W : World) (hr : ERow W a p) (hc : ERow W c r) :
    Calls Try.prog 22 #[.int .i64 k, .int .i64 (q : Int), .int .i64 (t : Int), .slice a p.length cap, .slice c r.length cap2] W fun e w' => e = .returned (.agg #[.int .u64 ((xs n fun i => xs n fun y => if wsB k n t i y = true then pm (wt p i) (wt r y) else (0, 0)).1 : Int), .int .u64 ((xs n fun i => xs n fun y => if wsB k n t i y = true then pm (wt p i) (wt r y) else (0, 0)).2 : Int)]) ∧ Below W.heap.size W w' := by
  have hn1 := pw_le (w := (q : Int)) (by omega)
  rw [hn] at hn1
  have H2 := Hid.mkT (rtwoP q n hq hn)
  have HW : Hid (∀ x y, x < n → y < n → Ret 14 #[.int .i64 k, .int .i64 (q : Int), .int .i64 (t : Int), .int .i64 (x : Int), .int .i64 (y : Int)] (.bool (wsB k n t x y))) := fun x y hx hy => rwas k q n t x y hq hn (by omega) (by omega) (by omega)
  have HWx0 : Hid (∀ c, c < n → ∀ w, Below W.heap.size W w → Calls Try.prog 50 #[.slice a p.length cap, .int .i64 (c : Int)] w fun e w' => e = .returned (.agg #[.int .u64 ((wt p c).1 : Int), .int .u64 ((wt p c).2 : Int)]) ∧ Below w.heap.size w w') := fun c hc w hb => rweight_any a cap c p hp h10 (by omega) w (hr.below hb)
  have HWy0 : Hid (∀ d, d < n → ∀ w, Below W.heap.size W w → Calls Try.prog 50 #[.slice c r.length cap2, .int .i64 (d : Int)] w fun e w' => e = .returned (.agg #[.int .u64 ((wt r d).1 : Int), .int .u64 ((wt r d).2 : Int)]) ∧ Below w.heap.size w w') := fun d hd w hb => rweight_any c cap2 d r hr2 h11 (by omega) w (hc.below hb)
  obtain ⟨fn, hfn⟩ : ∃ fn : Nat → Nat → Nat × Nat, fn = fun i y => if wsB k n t i y = true then pm (wt p i) (wt r y) else (0, 0) := ⟨_, rfl⟩
  have HFN : Hid (∀ i y, fn i y = if wsB k n t i y = true then pm (wt p i) (wt r y) else (0, 0)) := fun i y => by rw [hfn]
  rw [show (xs n fun i => xs n fun y => if wsB k n t i y = true then pm (wt p i) (wt r y) else (0, 0)) = xs n fun i => xs n (fn i) by rw [hfn]]
  have HFL : Hid (∀ i y, lt2 (fn i y)) := fun i y => by rw [HFN.out]; split; exact lt_pm _ _; exact lt_zero
  obtain ⟨zz, hzz⟩ : ∃ z, z = xs n fun i => xs n (fn i) := ⟨_, rfl⟩
  rw [← hzz]
  have HZZ := Hid.mkT hzz
  have K0 := Hid.mkT (Sg.new W 49)
  clear hzz hr hp hn hfn hc hr2
  go_enter Try.func22, Try.ntmps22
  go_wp2_with fail
  go_loopw [12] (fun u wr => ∃ (i : Nat) (o : Nat × Nat), i ≤ n ∧ u = .int .i64 i ∧ Hid (o = xs i fun i => xs n (fn i)) ∧ Hid (Sg W wr o)) (fun u _ => n - (intOf u).toNat)
  case atStart => exact ⟨0, (0, 0), Nat.zero_le _, rfl, rfl, K0⟩
  case round =>
    obtain ⟨i, o0, hi, rfl, HO0, K⟩ := hrel
    clear K0
    by_cases hlt : i < n
    · have i1 : (i : Int) < (n : Int) := by omega
      have hlo0 : lt2 o0 := by rw [HO0.out]; exact lt_xs (fun x => lt_xs (fun y => HFL.out x y) _) _
      go_wp2_with (go_at_call 41; refine (H2.out.go _).mono ?_; rintro e w1 ⟨rfl, hb1⟩; have K1 := Hid.mkT (K.out.below hb1); clear hb1)
      go_loopw [13] (fun u wr => ∃ (y : Nat) (o : Nat × Nat), y ≤ n ∧ u = .int .i64 y ∧ Hid (o = xa o0 (xs y (fn i))) ∧ Hid (Sg W wr o)) (fun u _ => n - (intOf u).toNat)
      case atStart => exact ⟨0, o0, Nat.zero_le _, rfl, (xa_zero o0).symm, K1⟩
      case round =>
        obtain ⟨y, o, hy, rfl, HO, K⟩ := hrel
        clear K1
        by_cases hly : y < n
        · have y1 : (y : Int) < (n : Int) := by omega
          have H3 := Hid.mkT (HW.out i y hlt hly)
          have HS : Hid (xa o0 (xs (y + 1) (fn i)) = xa o (if wsB k n t i y = true then pm (wt p i) (wt r y) else (0, 0))) := by show _ = _; rw [HO.out, ← HFN.out, xa_assoc]; rfl
          have hlo : lt2 o := by rw [HO.out]; exact lt_xa hlo0 (lt_xs (fun y => HFL.out i y) _)
          have HWx := Hid.mkT (HWx0.out i hlt)
          have HWy := Hid.mkT (HWy0.out y hly)
          have hlx := lt_wt p i
          have hlw := lt_wt r y
          generalize wt p i = vx at *
          generalize wt r y = vy at *
          have HPr : Hid (Ret 51 #[.agg #[.int .u64 (vx.1 : Int), .int .u64 (vx.2 : Int)], .agg #[.int .u64 (vy.1 : Int), .int .u64 (vy.2 : Int)]] (.agg #[.int .u64 ((pm vx vy).1 : Int), .int .u64 ((pm vx vy).2 : Int)])) := rprod vx vy hlx hlw
          have hlv := lt_pm vx vy
          generalize pm vx vy = v at *
          cases hws : wsB k n t i y
          · rw [hws] at H3 HS
            rw [if_neg (by decide), xa_zero] at HS
            clear hws
            go_wp2_with (first | (go_at_call 41; refine (H2.out.go _).mono ?_; rintro e w1 ⟨rfl, hb1⟩; have K1 := Hid.mkT (K.out.below hb1); clear hb1) | (go_at_call 14; refine (H3.out.go _).mono ?_; rintro e w2 ⟨rfl, hb2⟩; have K2 := Hid.mkT (K1.out.below hb2); clear hb2))
            exact ⟨⟨y + 1, o, hly, by simp, HS.out.symm, K2⟩, by simp [intOf]; omega⟩
          · rw [hws] at H3 HS
            rw [if_pos rfl] at HS
            have HAd : Hid (Ret 49 #[.agg #[.int .u64 (o.1 : Int), .int .u64 (o.2 : Int)], .agg #[.int .u64 (v.1 : Int), .int .u64 (v.2 : Int)]] (.agg #[.int .u64 ((xa o v).1 : Int), .int .u64 ((xa o v).2 : Int)])) := rsum o v hlo hlv
            generalize xa o v = z at *
            clear hws hlo hlw hlx hlv HO
            go_wp2_with (first | (go_at_call 41; refine (H2.out.go _).mono ?_; rintro e w1 ⟨rfl, hb1⟩; have K1 := Hid.mkT (K.out.below hb1); clear hb1) | (go_at_call 14; refine (H3.out.go _).mono ?_; rintro e w2 ⟨rfl, hb2⟩; have K2 := Hid.mkT (K1.out.below hb2); clear hb2))
            clear K K1
            have K := K2
            clear K2
            refine wp_region_noPanic ?_
            refine wp_region_peel (S := fun w => w.cell? ⟨W.heap.size + 1, 0, none⟩ = some (.int .u64 (o.1 : Int)) ∧ w.cell? ⟨W.heap.size + 1, 1, none⟩ = some (.int .u64 (o.2 : Int))) 9 (by kernel_rfl) rfl (by kernel_rfl) ?_ (fun hHeld => ?_)
            · exact ⟨K.out.o.hi, K.out.o.lo⟩
            refine wpAnyH_take (i := 0) (oi := _) (v := ?_) rfl (by kernel_rfl) (by kernel_rfl) (by kernel_rfl) (fun _ _ _ h => h) (Or.inl ⟨by rfl, ?_⟩) (by assumption) ?_
            rotate_left
            · ((intro w hSw; (try dsimp only at hSw); go_simp) <;> (try with_reducible rfl))
            try simp only [Act.put]
            refine wpAnyH_take (i := 1) (oi := _) (v := ?_) rfl (by kernel_rfl) (by kernel_rfl) (by kernel_rfl) (fun _ _ _ h => h) (Or.inl ⟨by rfl, ?_⟩) (by assumption) ?_
            rotate_left
            · ((intro w hSw; (try dsimp only at hSw); go_simp) <;> (try with_reducible rfl))
            try simp only [Act.put]
            refine wpAnyH_take (i := 2) (oi := _) (v := ?_) rfl (by kernel_rfl) (by kernel_rfl) (by kernel_rfl) (fun _ _ _ h => h) (Or.inl ⟨by rfl, ?_⟩) (by assumption) ?_
            rotate_left
            · ((intro w hSw; (try dsimp only at hSw); go_simp) <;> (try with_reducible rfl))
            try simp only [Act.put]
            refine wpAnyH_take (i := 4) (oi := _) (v := ?_) rfl (by kernel_rfl) (by kernel_rfl) (by kernel_rfl) (fun _ _ _ h => h) (Or.inl ⟨by rfl, ?_⟩) (by assumption) ?_
            rotate_left
            · ((intro w hSw; (try dsimp only at hSw); go_simp) <;> (try with_reducible rfl))
            try simp only [Act.put]
            refine wpAnyH_take (i := 5) (oi := _) (v := ?_) rfl (by kernel_rfl) (by kernel_rfl) (by kernel_rfl) (fun _ _ _ h => h) (Or.inl ⟨by rfl, ?_⟩) (by assumption) ?_
            rotate_left
            · ((intro w hSw; (try dsimp only at hSw); go_simp) <;> (try with_reducible rfl))
            try simp only [Act.put]
            refine wpAnyH_ready (rs := [3]) (by kernel_rfl) (by simp) ?_
            refine AllReadyH.cons (o := _) rfl (fun KK hKK => ?_) AllReadyH.nil
            go_simp
            ((go_at_call_of 50 (Value.int .i64 (i : Int)); refine (HWx.out _ (by first | exact K.out.d | exact K.out.drew.d)).mono ?_; rintro e w' ⟨rfl, hb'⟩))
            have K'' : Hid (Sg W w' o) := (by first | exact K.out.below hb' | exact K.out.drew.below hb')
            clear K hb'
            have K := K''
            clear K''
            refine hKK.out _ _ ?_ (fun hHeld => ?_)
            · exact ⟨K.out.o.hi, K.out.o.lo⟩
            clear hKK KK
            try simp only [Act.put]
            refine wpAnyH_ready (rs := [6]) (by kernel_rfl) (by simp) ?_
            refine AllReadyH.cons (o := _) rfl (fun KK hKK => ?_) AllReadyH.nil
            go_simp
            ((go_at_call 50; refine (HWy.out _ (by first | exact K.out.d | exact K.out.drew.d)).mono ?_; rintro e w' ⟨rfl, hb'⟩))
            have K'' : Hid (Sg W w' o) := (by first | exact K.out.below hb' | exact K.out.drew.below hb')
            clear K hb'
            have K := K''
            clear K''
            refine hKK.out _ _ ?_ (fun hHeld => ?_)
            · exact ⟨K.out.o.hi, K.out.o.lo⟩
            clear hKK KK
            try simp only [Act.put]
            refine wpAnyH_ready (rs := [7]) (by kernel_rfl) (by simp) ?_
            refine AllReadyH.cons (o := _) rfl (fun KK hKK => ?_) AllReadyH.nil
            go_simp
            ((go_at_call 51; refine (HPr.out.go _).mono ?_; rintro e w' ⟨rfl, hb'⟩))
            have K'' : Hid (Sg W w' o) := (by first | exact K.out.below hb' | exact K.out.drew.below hb')
            clear K hb'
            have K := K''
            clear K''
            refine hKK.out _ _ ?_ (fun hHeld => ?_)
            · exact ⟨K.out.o.hi, K.out.o.lo⟩
            clear hKK KK
            try simp only [Act.put]
            refine wpAnyH_ready (rs := [8]) (by kernel_rfl) (by simp) ?_
            refine AllReadyH.cons (o := _) rfl (fun KK hKK => ?_) AllReadyH.nil
            go_simp
            ((go_at_call 49; refine (HAd.out.go _).mono ?_; rintro e w' ⟨rfl, hb'⟩))
            have K'' : Hid (Sg W w' o) := (by first | exact K.out.below hb' | exact K.out.drew.below hb')
            clear K hb'
            have K := K''
            clear K''
            refine hKK.out _ _ ?_ (fun hHeld => ?_)
            · exact ⟨K.out.o.hi, K.out.o.lo⟩
            clear hKK KK
            try simp only [Act.put]
            refine wpAnyH_done (by kernel_rfl) ?_ _
            refine peel_last rfl (fun KK hKK => ?_)
            clear hHeld
            obtain ⟨⟨k1, k2⟩, k3, k4⟩ := K.out.o
            go_simp
            refine hKK _ _ ?_
            refine NoPanic.normal ?_
            clear hKK KK
            clear k1 k2 k3 k4
            have K9 := Hid.mkT (K.out.put z)
            clear K
            go_wp2_with fail
            exact ⟨⟨y + 1, z, hly, by simp, HS.out.symm, K9⟩, by simp [intOf]; omega⟩
        · obtain rfl : y = n := by omega
          go_wp2_with (go_at_call 41; refine (H2.out.go _).mono ?_; rintro e w1 ⟨rfl, hb1⟩; have K1 := Hid.mkT (K.out.below hb1); clear hb1)
          exact ⟨⟨i + 1, o, hlt, by simp, (by show _ = _; rw [HO.out, HO0.out]; rfl), K1⟩, by simp [intOf]; omega⟩
    · obtain rfl : i = n := by omega
      have hoz : o0 = zz := by rw [HO0.out, HZZ.out]
      subst hoz
      clear HO0 HZZ HWx0 HWy0 HW
      go_wp2_with (go_at_call 41; refine (H2.out.go _).mono ?_; rintro e w1 ⟨rfl, hb1⟩; have K1 := Hid.mkT (K.out.below hb1); clear hb1; obtain ⟨⟨k1, k2⟩, k3, k4⟩ := K1.out.o; obtain ⟨⟨r1, r2⟩, r3, r4⟩ := K1.out.r)
      refine bodyPost_ret (v := .agg #[.int .u64 (o0.1 : Int), .int .u64 (o0.2 : Int)]) (by simp [results, Try.results22, go_sem, *]) rfl ⟨rfl, ?_⟩
      exact (K1.out.d.setCell (by simp) _).setCell (by simp) _
end Go.Proofs.Ythfebbmmhjkglaa
