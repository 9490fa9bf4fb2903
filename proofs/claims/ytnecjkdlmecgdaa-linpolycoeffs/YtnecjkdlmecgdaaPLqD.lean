/- Contracts of a space's Point, Dim and Level, and of linpoly.Plain where there is none, over the seat's translation. -/
import Derived.Test.YtnecjkdlmecgdaaPLpO
import Derived.Test.YtnecjkdlmecgdaaPSqC
import Derived.Test.YtnecjkdlmecgdaaLqS
import Derived.Test.YtnecjkdlmecgdaaPCbF
import Derived.Deep.DeepAppendRoom
import Derived.Deep.AppendLies
namespace Go.Proofs.Ytnecjkdlmecgdaa
open Go.RowKit

set_option maxHeartbeats 4000000 in
set_option maxRecDepth 100000 in
theorem spoint_any (l : Int) (p g n j : Nat) (es : List (Nat × Nat)) (W0 W : World) (h : Lies W0 W l p g n es) (h10 : n ≤ 10) (hj : j < 2 ^ n) (ht : ltE es) :
    Calls Try.prog 17 #[.pointer (some ⟨p, 0, none⟩), .int .i64 (j : Int)] W fun e w' => e = .returned (.agg #[.int .u64 ((ptv es j n).1 : Int), .int .u64 ((ptv es j n).2 : Int)]) ∧ Below W.heap.size W w' := by
  have h3 : 2 ^ n ≤ 2 ^ 10 := Nat.pow_le_pow_right (by decide) h10
  have HP : Hid (∀ w : World, Below W.heap.size W w → Calls Try.prog 48 #[.slice (some ⟨g, 0, none⟩) n n, .int .i64 (j : Int)] w fun e w' => e = .returned (.agg #[.int .u64 ((ptv es j n).1 : Int), .int .u64 ((ptv es j n).2 : Int)]) ∧ Below w.heap.size w w') := fun w hw => point_any j g n es w (erow_below h.row hw) h.hn h10 (by omega) ht
  have hw : IntKind.i64.wrap (2 ^ n) = (2 : Int) ^ n := by
    rw [IntKind.wrap_i64, show (2 : Int) ^ n = ((2 ^ n : Nat) : Int) by simp]
    generalize 2 ^ n = p at *
    omega
  have h2' : (j : Int) < (2 : Int) ^ n := by
    rw [show (2 : Int) ^ n = ((2 ^ n : Nat) : Int) by simp]
    omega
  have c1 := h.c1
  have hs : (n : Int) < 64 := by omega
  have hp := h.hp
  clear h h3 hj
  go_enter Try.func17, Try.ntmps17
  go_wp2_with fail
  have B0 : Below W.heap.size W (W.alloc (Obj.cells #[.int .u64 0, .int .u64 0] 27)) := (Below.refl _ _).alloc (Nat.le_refl _) _
  refine (HP.out _ B0).mono ?_
  rintro e w1 ⟨rfl, hb1⟩
  have R : Ew w1 W.heap.size 0 0 := Ew.below ⟨⟨by simp [go_sem], by simp [go_sem]⟩, by simp [go_sem], by simp [go_sem]⟩ hb1
  have D : Hid (Below W.heap.size W w1) := B0.trans (hb1.mono B0.size)
  obtain ⟨⟨r1, r0⟩, f1, f0⟩ := R
  clear hb1 B0 HP
  go_wp2
  refine bodyPost_ret (v := .agg #[.int .u64 ((ptv es j n).1 : Int), .int .u64 ((ptv es j n).2 : Int)]) (by simp [results, Try.results17, go_sem, *]) rfl ⟨rfl, ?_⟩
  exact (D.out.setCell (Nat.le_refl _) _).setCell (Nat.le_refl _) _
set_option maxHeartbeats 400000 in
theorem slevel (l : Int) (p : Nat) (W : World) (c0 : W.cell? ⟨p, 0, none⟩ = some (.int .i64 l)) :
    Calls Try.prog 13 #[.pointer (some ⟨p, 0, none⟩)] W fun e w' => e = .returned (.int .i64 l) ∧ Below W.heap.size W w' := by
  go_enter Try.func13, Try.ntmps13
  go_wp2
  go_ret
  exact ⟨rfl, by first | exact Below.refl _ _ | go_grown⟩
set_option maxHeartbeats 400000 in
theorem sdim (p g n : Nat) (W : World) (c1 : W.cell? ⟨p, 1, none⟩ = some (.slice (some ⟨g, 0, none⟩) n n)) :
    Calls Try.prog 14 #[.pointer (some ⟨p, 0, none⟩)] W fun e w' => e = .returned (.int .i64 (n : Int)) ∧ Below W.heap.size W w' := by
  go_enter Try.func14, Try.ntmps14
  go_wp2
  go_ret
  exact ⟨rfl, by first | exact Below.refl _ _ | go_grown⟩
set_option maxHeartbeats 400000 in
theorem lin_level_no (l : Int) (h : ¬ (0 ≤ l ∧ l ≤ 7)) : Ret 40 #[.int .i64 l] (.bool false) := by
  intro W
  by_cases h0 : 0 ≤ l
  · have h7 : ¬ l ≤ 7 := fun h7 => h ⟨h0, h7⟩
    clear h
    go_enter Try.func40, Try.ntmps40
    go_wp2
    go_ret
    exact ⟨by simp, by first | exact Below.refl _ _ | go_grown⟩
  · clear h
    go_enter Try.func40, Try.ntmps40
    go_wp2
    go_ret
    exact ⟨by simp, by first | exact Below.refl _ _ | go_grown⟩
set_option maxHeartbeats 800000 in
theorem plain_level (l n : Int) (h : ¬ (0 ≤ l ∧ l ≤ 7)) : Ret 58 #[.int .i64 l, .int .i64 n] (.tuple #[.pointer none, .int .i64 1]) := by
  have HL : Hid (Ret 40 #[.int .i64 l] (.bool false)) := lin_level_no l h
  intro W
  go_enter Try.func58, Try.ntmps58
  go_wp2_with (go_at_call 40; refine (HL.out.go _).mono ?_; rintro e w1 ⟨rfl, hb1⟩)
  refine bodyPost_ret (v := .tuple #[.pointer none, .int .i64 1]) (by simp [results, Try.results58, go_sem]) rfl ⟨rfl, ?_⟩
  first | exact hb1 | trace_state
set_option maxHeartbeats 800000 in
theorem plain_neg (l n : Int) (h : 0 ≤ l ∧ l ≤ 7) (hn : n < 0) : Ret 58 #[.int .i64 l, .int .i64 n] (.tuple #[.pointer none, .int .i64 1]) := by
  have HL : Hid (Ret 40 #[.int .i64 l] (.bool true)) := lin_level l h
  clear h
  intro W
  go_enter Try.func58, Try.ntmps58
  go_wp2_with (go_at_call 40; refine (HL.out.go _).mono ?_; rintro e w1 ⟨rfl, hb1⟩)
  refine bodyPost_ret (v := .tuple #[.pointer none, .int .i64 1]) (by simp [results, Try.results58, go_sem]) rfl ⟨rfl, ?_⟩
  first | exact hb1 | trace_state
set_option maxHeartbeats 800000 in
theorem plain_long (l n : Int) (h : 0 ≤ l ∧ l ≤ 7) (hn : 10 < n) : Ret 58 #[.int .i64 l, .int .i64 n] (.tuple #[.pointer none, .int .i64 2]) := by
  have HL : Hid (Ret 40 #[.int .i64 l] (.bool true)) := lin_level l h
  clear h
  have hn0 : 0 ≤ n := by omega
  intro W
  go_enter Try.func58, Try.ntmps58
  go_wp2_with (go_at_call 40; refine (HL.out.go _).mono ?_; rintro e w1 ⟨rfl, hb1⟩)
  refine bodyPost_ret (v := .tuple #[.pointer none, .int .i64 2]) (by simp [results, Try.results58, go_sem]) rfl ⟨rfl, ?_⟩
  first | exact hb1 | trace_state
set_option maxHeartbeats 800000 in
theorem plain_rule (k n : Nat) (hk : k < 8) (hn : n ≤ 10) (h2 : 2 ^ k < n) : Ret 58 #[.int .i64 (k : Int), .int .i64 (n : Int)] (.tuple #[.pointer none, .int .i64 7]) := by
  have HL : Hid (Ret 40 #[.int .i64 (k : Int)] (.bool true)) := lin_level (k : Int) (by omega)
  have hw : IntKind.i64.wrap (2 ^ k) = ((2 ^ k : Nat) : Int) := by
    rw [IntKind.wrap_i64, show (2 : Int) ^ k = ((2 ^ k : Nat) : Int) by simp]
    generalize 2 ^ k = p at *
    omega
  have h2' : (2 : Int) ^ k < (n : Int) := by
    rw [show (2 : Int) ^ k = ((2 ^ k : Nat) : Int) by simp]
    omega
  clear h2
  intro W
  go_enter Try.func58, Try.ntmps58
  go_wp2_with (go_at_call 40; refine (HL.out.go _).mono ?_; rintro e w1 ⟨rfl, hb1⟩)
  refine bodyPost_ret (v := .tuple #[.pointer none, .int .i64 7]) (by simp [results, Try.results58, go_sem]) rfl ⟨rfl, ?_⟩
  first | exact hb1 | trace_state
end Go.Proofs.Ytnecjkdlmecgdaa

/- A space that lies in memory; the contracts of linpoly's allOf and New at any arguments, over the seat's translation. -/
namespace Go.Proofs.Ytnecjkdlmecgdaa
open Go.RowKit
open Cb Rg Sq Lq
open Tw (pm)

set_option maxHeartbeats 2000000 in
/-- Are all elements of a level? -/
theorem linall (l : Int) (a : Option Addr) (cap : Nat) (es : List (Nat × Nat)) (hes : ltE es) (W : World) (hr : ERow W a es) (h10 : es.length ≤ 100000) :
    Calls Try.prog 41 #[.int .i64 l, .slice a es.length cap] W fun e w' => e = .returned (.bool (es.all fun e => ofB l (e.1 : Int) (e.2 : Int))) ∧ Below W.heap.size W w' := by
  have HR : Hid (ERow W a es) := hr
  have HO : Hid (∀ j : Nat, Ret 54 #[.int .i64 l, .agg #[.int .u64 ((es.getD j (0, 0)).1 : Int), .int .u64 ((es.getD j (0, 0)).2 : Int)]] (.bool (ofB l ((es.getD j (0, 0)).1 : Int) ((es.getD j (0, 0)).2 : Int)))) := fun j => of_ret l _ _ (hes.at j).2
  clear hr hes
  go_enter Try.func41, Try.ntmps41
  go_wp2_with fail
  go_loopw [9] (fun u wr => ∃ j : Nat, j ≤ es.length ∧ u = .int .i64 j ∧ Hid ((es.take j).all (fun e => ofB l (e.1 : Int) (e.2 : Int)) = true) ∧ Below W.heap.size W wr) (fun u _ => es.length - (intOf u).toNat)
  case atStart => exact ⟨0, Nat.zero_le _, rfl, (by rfl), Below.refl _ _⟩
  case round =>
    obtain ⟨j, hj, rfl, HT, hD⟩ := hrel
    by_cases hlt : j < es.length
    · obtain ⟨b, off, rfl, hb, c1, c0⟩ := HR.out.cells j hlt
      have d1 : wr.cell? ⟨b, off + j * 2, none⟩ = some (.int .u64 ((es.getD j (0, 0)).1 : Nat)) := by rw [hD.cell (p := ⟨b, off + j * 2, none⟩) hb]; exact c1
      have d0 : wr.cell? ⟨b, off + j * 2 + 1, none⟩ = some (.int .u64 ((es.getD j (0, 0)).2 : Nat)) := by rw [hD.cell (p := ⟨b, off + j * 2 + 1, none⟩) hb]; exact c0
      have H1 := HO.out j
      have HD : Hid (Below W.heap.size W wr) := hD
      have HS : Hid (es.take (j + 1) = es.take j ++ [es.getD j (0, 0)]) := take_el hlt
      have HM : Hid (es.getD j (0, 0) ∈ es) := by show _ ∈ _; rw [show es.getD j (0, 0) = es[j] by simp [hlt]]; exact List.getElem_mem hlt
      clear hD c1 c0 HR HO
      generalize es.getD j (0, 0) = x at *
      rcases hB : ofB l (x.1 : Int) (x.2 : Int) with _ | _
      · rw [hB] at H1
        go_wp2_with fail
        refine (H1.go _).mono ?_
        rintro e w4 ⟨rfl, hb4⟩
        have HD4 : Hid (Below W.heap.size W w4) := (HD.out.alloc HD.out.size _).trans (hb4.mono (by have := HD.out.size; simp; omega))
        clear hb4 d1 d0 HD
        go_wp2
        go_ret
        refine ⟨?_, HD4.out⟩
        rw [show (es.all fun e => ofB l (e.1 : Int) (e.2 : Int)) = false from by
          rw [List.all_eq_false]; exact ⟨x, HM.out, by rw [hB]; decide⟩]
        rfl
      · rw [hB] at H1
        go_wp2_with fail
        refine (H1.go _).mono ?_
        rintro e w4 ⟨rfl, hb4⟩
        have HD4 : Hid (Below W.heap.size W w4) := (HD.out.alloc HD.out.size _).trans (hb4.mono (by have := HD.out.size; simp; omega))
        clear hb4 d1 d0 HD
        go_wp2
        exact ⟨⟨j + 1, hlt, by simp, (by show _ = _; rw [HS.out, List.all_append, HT.out]; simp [hB]), HD4.out⟩, by simp [intOf]; omega⟩
    · have HD : Hid (Below W.heap.size W wr) := hD
      obtain rfl : j = es.length := by omega
      clear hD
      go_wp2
      go_ret
      refine ⟨?_, HD.out⟩
      have := HT.out
      rw [List.take_of_length_le (Nat.le_refl _)] at this
      rw [this]
      rfl
/-- A space's cells: its level, its basis, its tops, their inverses. -/
structure Spa (w : World) (p k : Nat) (es ts : List (Nat × Nat)) (a aT aB : Option Addr) (c cT cB : Nat) : Prop where
  c0 : w.cell? ⟨p, 0, none⟩ = some (.int .i64 (k : Int))
  c1 : w.cell? ⟨p, 1, none⟩ = some (.slice a es.length c)
  c2 : w.cell? ⟨p, 2, none⟩ = some (.slice aT es.length cT)
  c3 : w.cell? ⟨p, 3, none⟩ = some (.slice aB es.length cB)
  r1 : ERow w a es
  r2 : ERow w aT ts
  r3 : ERow w aB (ts.map (ivv (k : Int)))
theorem Spa.below {w w' : World} {p k : Nat} {es ts : List (Nat × Nat)} {a aT aB : Option Addr} {c cT cB : Nat} (h : Spa w p k es ts a aT aB c cT cB) (hb : Below w.heap.size w w') : Spa w' p k es ts a aT aB c cT cB :=
  ⟨keepc hb h.c0, keepc hb h.c1, keepc hb h.c2, keepc hb h.c3, h.r1.below hb, h.r2.below hb, h.r3.below hb⟩
/-- What is known of a space. -/
structure Spu (k : Nat) (es ts : List (Nat × Nat)) (c cT : Nat) : Prop where
  hk : k < 8
  lt : ltE es
  of : ofT k es
  h10 : es.length ≤ 10
  tl : ts.length = es.length
  tops : TopsOk (k : Int) ts es
  lts : ltE ts
  free : Free es es.length
  hc : es.length ≤ c
  hcT : es.length ≤ cT
theorem own_cap {w : World} {base size n : Nat} {T : TypeId} {a : Option Addr} {c : Nat} {xs : List Value} (h : w.ownsRow base T size (.slice a n c) n xs) : n ≤ c := by
  rcases h.2 with ⟨h1, h2⟩ | ⟨g, cap, cur, h1, _, _, h3, _⟩
  · rw [h2]; exact Nat.zero_le _
  · injection h1 with _ _ h1
    subst h1
    exact h3
set_option maxHeartbeats 2000000 in
theorem new_arg (l : Int) (a : Option Addr) (n cap : Nat) (h : ¬ (0 ≤ l ∧ l ≤ 7)) : Ret 10 #[.int .i64 l, .slice a n cap] (.tuple #[.pointer none, .int .i64 1]) := by
  intro W
  have HL := hidT (lin_level_no l h)
  clear h
  go_enter Try.func10, Try.ntmps10
  go_wp2_with (go_at_call 40; refine (HL.out.go _).mono ?_; rintro e w1 ⟨rfl, hb1⟩; have D1 := hidT hb1; clear hb1)
  go_ret2
  exact ⟨rfl, D1.out⟩
set_option maxHeartbeats 2000000 in
theorem new_long (l : Int) (a : Option Addr) (n cap : Nat) (h : 0 ≤ l ∧ l ≤ 7) (hn : 10 < n) : Ret 10 #[.int .i64 l, .slice a n cap] (.tuple #[.pointer none, .int .i64 2]) := by
  intro W
  have HL := hidT (lin_level l h)
  have hn1 : (10 : Int) < (n : Int) := by omega
  clear h
  go_enter Try.func10, Try.ntmps10
  go_wp2_with (go_at_call 40; refine (HL.out.go _).mono ?_; rintro e w1 ⟨rfl, hb1⟩; have D1 := hidT hb1; clear hb1)
  go_ret2
  exact ⟨rfl, D1.out⟩
set_option maxHeartbeats 2000000 in
theorem new_field (l : Int) (h : 0 ≤ l ∧ l ≤ 7) (a : Option Addr) (cap : Nat) (es : List (Nat × Nat)) (hes : ltE es) (h10 : es.length ≤ 10) (ho : (es.all fun e => ofB l (e.1 : Int) (e.2 : Int)) = false) (W : World) (hr : ERow W a es) :
    Calls Try.prog 10 #[.int .i64 l, .slice a es.length cap] W fun e w' => e = .returned (.tuple #[.pointer none, .int .i64 5]) ∧ Below W.heap.size W w' := by
  have HL := hidT (lin_level l h)
  have HA := hidT (fun w (hb : Below W.heap.size W w) => linall l a cap es hes w (hr.below hb) (by omega))
  rw [ho] at HA
  have hn1 : ¬ (10 : Int) < (es.length : Int) := by omega
  clear h ho hr
  generalize es.length = n at *
  go_enter Try.func10, Try.ntmps10
  go_wp2_with (first
    | (go_at_call 40; refine (HL.out.go _).mono ?_; rintro e w1 ⟨rfl, hb1⟩; have D1 := hidT hb1; clear hb1)
    | (go_at_call 41; refine (HA.out _ D1.out).mono ?_; rintro e w2 ⟨rfl, hb2⟩; have D2 := hidT (D1.out.trans (hb2.mono D1.out.size)); clear hb2))
  go_ret2
  exact ⟨rfl, D2.out⟩
set_option maxHeartbeats 2000000 in
theorem new_rule (l : Int) (h : 0 ≤ l ∧ l ≤ 7) (a : Option Addr) (cap : Nat) (es : List (Nat × Nat)) (hes : ltE es) (h10 : es.length ≤ 10) (ho : (es.all fun e => ofB l (e.1 : Int) (e.2 : Int)) = true) (hf : ¬ Free es es.length) (W : World) (hr : ERow W a es) :
    Calls Try.prog 10 #[.int .i64 l, .slice a es.length cap] W fun e w' => e = .returned (.tuple #[.pointer none, .int .i64 7]) ∧ Below W.heap.size W w' := by
  have HL := hidT (lin_level l h)
  have HA := hidT (fun w (hb : Below W.heap.size W w) => linall l a cap es hes w (hr.below hb) (by omega))
  rw [ho] at HA
  have HK := hidT (fun w (hb : Below W.heap.size W w) => Rank_any a cap es hes (by omega) w (hr.below hb))
  have hn1 : ¬ (10 : Int) < (es.length : Int) := by omega
  have hr1 : ((rb es).length : Int) < (es.length : Int) := by
    have := rb_free hes
    have h2 : (rb es).length ≠ es.length := fun e => hf (this.2.1 e)
    omega
  clear h ho hr hf
  generalize (rb es).length = r at *
  generalize es.length = n at *
  go_enter Try.func10, Try.ntmps10
  go_wp2_with (first
    | (go_at_call 40; refine (HL.out.go _).mono ?_; rintro e w1 ⟨rfl, hb1⟩; have D1 := hidT hb1; clear hb1)
    | (go_at_call 41; refine (HA.out _ D1.out).mono ?_; rintro e w2 ⟨rfl, hb2⟩; have D2 := hidT (D1.out.trans (hb2.mono D1.out.size)); clear hb2)
    | (go_at_call 42; refine (HK.out _ D2.out).mono ?_; rintro e w3 ⟨rfl, hb3⟩; have D3 := hidT (D2.out.trans (hb3.mono D2.out.size)); clear hb3))
  go_ret2
  exact ⟨rfl, D3.out⟩
set_option maxHeartbeats 4000000 in
set_option maxRecDepth 100000 in
theorem new_ok (k : Nat) (hk : k < 8) (a : Option Addr) (cap : Nat) (es : List (Nat × Nat)) (hes : ltE es) (h10 : es.length ≤ 10) (ho : ofT k es) (hf : Free es es.length) (ha : a = none → es.length = 0 ∧ cap = 0) (W : World) (hr : ERow W a es) :
    Calls Try.prog 10 #[.int .i64 (k : Int), .slice a es.length cap] W fun e w' => ∃ p ts a' aT aB c cT cB, e = .returned (.tuple #[.pointer (some ⟨p, 0, none⟩), .int .i64 0]) ∧ Spa w' p k es ts a' aT aB c cT cB ∧ Spu k es ts c cT ∧ Below W.heap.size W w' := by
  have HL := hidT (lin_level (k : Int) (by omega))
  have ho2 : (es.all fun e => ofB (k : Int) (e.1 : Int) (e.2 : Int)) = true := List.all_eq_true.2 fun e he => ho e he
  have HA := hidT (fun w (hb : Below W.heap.size W w) => linall (k : Int) a cap es hes w (hr.below hb) (by omega))
  rw [ho2] at HA
  have HK := hidT (fun w (hb : Below W.heap.size W w) => Rank_any a cap es hes (by omega) w (hr.below hb))
  rw [(rb_free hes).2.2 hf] at HK
  have HC := hidT (fun w (hb : Below W.heap.size W w) => ccloned a cap es (by omega) ha w (hr.below hb))
  have HM : Hid (∀ a' c' w, ERow w a' es → es.length ≤ c' → Calls Try.prog 43 #[.int .i64 (k : Int), .slice a' es.length c'] w fun e w' => ∃ p ts aT aB cT cB, e = .returned (.pointer (some ⟨p, 0, none⟩)) ∧ Spa w' p k es ts a' aT aB c' cT cB ∧ Spu k es ts c' cT ∧ Below w.heap.size w w') := fun a' c' w h hc => by
    refine (made_any (k : Int) a' c' es w h h10 hes (ivv (k : Int)) fun y h1 h2 => inv_lin _ y h1 h2).mono ?_
    rintro e w' ⟨aT, aB, cT, cB, ts, bs, rfl, h1, h2, h3, rfl, h5, h6⟩
    have r2 := own_erow h6.oT
    have r3 : ERow w' aB (ts.map (ivv (k : Int))) := by
      have := h6.oB
      rw [show ts.length = (ts.map (ivv (k : Int))).length by simp] at this
      exact own_erow this
    have q := own_cap h6.oT
    exact ⟨_, ts, aT, aB, cT, cB, rfl, ⟨h6.c0, h6.c1, h1 ▸ h6.c2, h1 ▸ h6.c3, h.below h6.d, r2, r3⟩, ⟨hk, hes, ho, h10, h1, h5, h3, hf, hc, h1 ▸ q⟩, h6.d⟩
  have hn1 : ¬ (10 : Int) < (es.length : Int) := by omega
  clear ho hr hf ho2
  generalize hn : es.length = n at *
  go_enter Try.func10, Try.ntmps10
  go_wp2_with (first
    | (go_at_call 40; refine (HL.out.go _).mono ?_; rintro e w1 ⟨rfl, hb1⟩; have D1 := hidT hb1; clear hb1)
    | (go_at_call 41; refine (HA.out _ D1.out).mono ?_; rintro e w2 ⟨rfl, hb2⟩; have D2 := hidT (D1.out.trans (hb2.mono D1.out.size)); clear hb2)
    | (go_at_call 42; refine (HK.out _ D2.out).mono ?_; rintro e w3 ⟨rfl, hb3⟩; have D3 := hidT (D2.out.trans (hb3.mono D2.out.size)); clear hb3)
    | (go_at_call 44; refine (HC.out _ D3.out).mono ?_; rintro e w4 ⟨a', b', c', rfl, _, hc4, hr4, hb4⟩; have D4 := hidT (D3.out.trans (hb4.mono D3.out.size)); have R4 := hidT hr4; have C4 := hidT hc4; clear hb4 hr4 hc4)
    | (go_at_call 43; refine (HM.out _ _ _ R4.out C4.out).mono ?_; rintro e w5 ⟨p, ts, aT, aB, cT, cB, rfl, hs5, hu5, hb5⟩; have D5 := hidT (D4.out.trans (hb5.mono D4.out.size)); have S5 := hidT hs5; have U5 := hidT hu5; clear hb5 hs5 hu5))
  go_ret2
  exact ⟨p, ts, a', aT, aB, c', cT, cB, rfl, S5.out, U5.out, D5.out⟩
end Go.Proofs.Ytnecjkdlmecgdaa

/- An append to a row of one's own: what the row's old block holds stays as it was, over the seat's translation. -/
namespace Go.Proofs.Ytnecjkdlmecgdaa
open Go.RowKit
open Cb Rg Sq Lq
open Tw (pm)

/-- A row of one element that is made here. -/
theorem own_one (w : World) (x : Nat × Nat) (T : TypeId) (base : Nat) (hb : base ≤ w.heap.size) : (w.alloc (Obj.cells #[.int .u64 (x.1 : Int), .int .u64 (x.2 : Int)] T)).ownsRow base T 2 (.slice (some ⟨w.heap.size, 0, none⟩) 1 1) 1 (flat [x]) :=
  ⟨rfl, .inr ⟨w.heap.size, 1, #[.int .u64 (x.1 : Int), .int .u64 (x.2 : Int)], rfl, hb, heap_alloc_new w _, Nat.le_refl _, by decide, rfl, rfl⟩⟩
/-- The elements of a row of one's own, where they lie. -/
theorem own_el {w : World} {base : Nat} {T : TypeId} {g n cap : Nat} {es : List (Nat × Nat)} (h : w.ownsRow base T 2 (.slice (some ⟨g, 0, none⟩) n cap) n (flat es)) (hn : es.length = n) {j : Nat} (hj : j < n) :
    w.cell? ⟨g, j * 2, none⟩ = some (.int .u64 ((el es j).1 : Int)) ∧ w.cell? ⟨g, j * 2 + 1, none⟩ = some (.int .u64 ((el es j).2 : Int)) := by
  subst hn
  obtain ⟨a', c', e, hE⟩ := own_row h
  injection e with e1 _ _
  obtain ⟨g', o, e2, _, h1, h2⟩ := hE.cells j hj
  rw [e2] at e1
  injection e1 with e1
  injection e1 with e3 e4 _
  subst e3 e4
  rw [Nat.zero_add] at h1 h2
  exact ⟨h1, h2⟩
end Go.Proofs.Ytnecjkdlmecgdaa
