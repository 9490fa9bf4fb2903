/- The walk of steeplelaw33.FrobHalves over the seat's translation. -/
import Derived.Test.YtakaconhoodigaaHfC
import Derived.Test.YtakaconhoodigaaPFrG
import Derived.Test.YtakaconhoodigaaPTwBa
namespace Go.Proofs.Ytakaconhoodigaa
open Go.RowKit
open Cb Rg Sq Fr Hf
open Tw (pm)

/-- What the law holds: what Half gave, and the element as the document has it. -/
structure Fh (W w : World) (q5 : Nat) (V : Nat × Nat) (q7 : Nat) (a : Nat × Nat) : Prop where
  x : El w q5 V.1 V.2
  y : El w q7 a.1 a.2
  d : Below W.heap.size W w
theorem Fh.below {W w w' : World} {q5 : Nat} {V : Nat × Nat} {q7 : Nat} {a : Nat × Nat} (h : Fh W w q5 V q7 a) (hb : Below w.heap.size w w') : Fh W w' q5 V q7 a := ⟨h.x.below hb, h.y.below hb, h.d.trans (hb.mono h.d.size)⟩
theorem Fh.drew {W w : World} {q5 : Nat} {V : Nat × Nat} {q7 : Nat} {a : Nat × Nat} (h : Fh W w q5 V q7 a) : Fh W w.drew q5 V q7 a := h.below (Below.refl _ _).drew
theorem Fh.start {W w1 : World} (V a : Nat × Nat) (T T' : TypeId) (hb : Below W.heap.size W w1) : Fh W ((w1.alloc (Obj.cells #[.int .u64 (V.1 : Int), .int .u64 (V.2 : Int)] T)).alloc (Obj.cells #[.int .u64 (a.1 : Int), .int .u64 (a.2 : Int)] T')) w1.heap.size V (w1.heap.size + 1) a :=
  ⟨⟨by simp [go_sem], by simp [go_sem]⟩, ⟨by simp [go_sem], by simp [go_sem]⟩, hb.trans ((((Below.refl _ _).alloc (Nat.le_refl _) _).alloc (by simp) _).mono hb.size)⟩
set_option maxRecDepth 100000 in
set_option maxHeartbeats 8000000 in
theorem fh_out (l : Int) (a : Nat × Nat) (la : lt2 a) (h : ofB l (a.1 : Int) (a.2 : Int) = false) : Ret 7 #[.int .i64 l, .agg #[.int .u64 (a.1 : Int), .int .u64 (a.2 : Int)]] (.bool true) := by
  intro W
  have HA := hidT awake33
  have HH := hidT (half_out l a la h)
  have HO := hidT (rof_any l a.1 a.2 la.1 la.2)
  rw [h] at HO
  clear h la
  go_enter Try.func7, Try.ntmps7
  go_upto_region 3 with (go_at_call 28; refine (HH.out.go _).mono ?_; rintro e w1 ⟨rfl, hb1⟩; have K1 : Hid (Below W.heap.size W w1) := ((Below.refl _ _).alloc (Nat.le_refl _) _).trans (hb1.mono (by simp)); have x1 : w1.cell? ⟨W.heap.size, 0, none⟩ = some (.int .u64 (a.1 : Int)) := keepc hb1 (by simp [go_sem]); have x0 : w1.cell? ⟨W.heap.size, 1, none⟩ = some (.int .u64 (a.2 : Int)) := keepc hb1 (by simp [go_sem]); have hlt : W.heap.size < w1.heap.size := cell_lt x1; have hne : ¬ W.heap.size = w1.heap.size := Nat.ne_of_lt hlt; clear hb1 HH)
  have K3 := hidT (Fh.start (0, 0) a 24 25 K1.out)
  clear K1 x1 x0 hlt hne
  generalize (w1.alloc (Obj.cells #[.int .u64 0, .int .u64 0] 24)).alloc (Obj.cells #[.int .u64 (a.1 : Int), .int .u64 (a.2 : Int)] 25) = w3 at *
  generalize hq7 : w1.heap.size + 1 = q7 at *
  generalize w1.heap.size = q5 at *
  obtain ⟨y1, y0⟩ := K3.out.y
  go_wp2_with (first
    | (go_at_call 11; refine (HO.out.go _).mono ?_; rintro e w4 ⟨rfl, hb4⟩; have K4 := hidT (K3.out.below hb4); clear hb4 K3 y1 y0)
    | (go_at_call 12; refine (HA.out.go _).mono ?_; rintro e w6 ⟨rfl, hb6⟩; have K6 := hidT (K4.out.below hb6); clear hb6; obtain ⟨v1, v0⟩ := K6.out.x))
  go_ret
  exact ⟨rfl, K6.out.d⟩
set_option maxRecDepth 100000 in
set_option maxHeartbeats 16000000 in
theorem fh_no (k : Nat) (hk : k < 8) (a : Nat × Nat) (la : lt2 a) (oa : ofE k a) (hin : in? (mk k) a = false) : Ret 7 #[.int .i64 (k : Int), .agg #[.int .u64 (a.1 : Int), .int .u64 (a.2 : Int)]] (.bool true) := by
  intro W
  have HA := hidT awake33
  have HH := hidT (half_no k hk a la oa hin)
  have HO := hidT (rof_any (k : Int) a.1 a.2 la.1 la.2)
  rw [show ofB (k : Int) (a.1 : Int) (a.2 : Int) = true from oa] at HO
  have HT : Hid (Ret 23 #[.int .i64 (k : Int), .int .i64 0, .agg #[.int .u64 (a.1 : Int), .int .u64 (a.2 : Int)]] (.agg #[.int .u64 ((Hf.tr k a).1 : Int), .int .u64 ((Hf.tr k a).2 : Int)])) := rtrace33 k 0 hk (Nat.zero_le k) a la
  have hne0 : ¬ Hf.tr k a = (0, 0) := by
    have e := half_iff hk la oa
    rw [hin] at e
    exact of_decide_eq_false e.symm
  have hne1 : ¬ ((Hf.tr k a).1 = 0 ∧ (Hf.tr k a).2 = 0) := fun e => hne0 (Prod.ext e.1 e.2)
  clear oa hin la hne0
  generalize (Hf.tr k a).1 = t1 at *
  generalize (Hf.tr k a).2 = t2 at *
  have HNE : Hid (¬ (t1 = 0 ∧ t2 = 0)) := hne1
  clear hne1
  rcases Nat.eq_zero_or_pos t1 with h1 | h1
  · subst h1
    have h2 : ¬ t2 = 0 := fun e => HNE.out ⟨rfl, e⟩
    clear HNE
    go_enter Try.func7, Try.ntmps7
    go_upto_region 3 with (go_at_call 28; refine (HH.out.go _).mono ?_; rintro e w1 ⟨rfl, hb1⟩; have K1 : Hid (Below W.heap.size W w1) := ((Below.refl _ _).alloc (Nat.le_refl _) _).trans (hb1.mono (by simp)); have x1 : w1.cell? ⟨W.heap.size, 0, none⟩ = some (.int .u64 (a.1 : Int)) := keepc hb1 (by simp [go_sem]); have x0 : w1.cell? ⟨W.heap.size, 1, none⟩ = some (.int .u64 (a.2 : Int)) := keepc hb1 (by simp [go_sem]); have hlt : W.heap.size < w1.heap.size := cell_lt x1; have hne : ¬ W.heap.size = w1.heap.size := Nat.ne_of_lt hlt; clear hb1 HH)
    have K3 := hidT (Fh.start (0, 0) a 24 25 K1.out)
    clear K1 x1 x0 hlt hne
    generalize (w1.alloc (Obj.cells #[.int .u64 0, .int .u64 0] 24)).alloc (Obj.cells #[.int .u64 (a.1 : Int), .int .u64 (a.2 : Int)] 25) = w3 at *
    generalize hq7 : w1.heap.size + 1 = q7 at *
    generalize w1.heap.size = q5 at *
    obtain ⟨y1, y0⟩ := K3.out.y
    go_upto_region 5 with (go_at_call 11; refine (HO.out.go _).mono ?_; rintro e w4 ⟨rfl, hb4⟩; have K4 := hidT (K3.out.below hb4); clear hb4 K3 y1 y0)
    go_upto_region 6 with fail
    have K5 : Hid (Fh W (w4.alloc (Obj.cells #[.int .u64 0, .int .u64 0] 25)) q5 (0, 0) q7 a ∧ El (w4.alloc (Obj.cells #[.int .u64 0, .int .u64 0] 25)) w4.heap.size 0 0) := ⟨K4.out.below (by go_grown), ⟨by simp [go_sem], by simp [go_sem]⟩⟩
    clear K4
    generalize w4.alloc (Obj.cells #[.int .u64 0, .int .u64 0] 25) = w5 at *
    generalize w4.heap.size = q8 at *
    have K := K5
    clear K5
    obtain ⟨y1, y0⟩ := K.out.1.y
    obtain ⟨z1, z0⟩ := K.out.2
    go_region_held3 (fun w => w.cell? ⟨q7, 0, none⟩ = some (.int .u64 (a.1 : Int)) ∧ w.cell? ⟨q7, 1, none⟩ = some (.int .u64 (a.2 : Int)) ∧ w.cell? ⟨q8, 0, none⟩ = some (.int .u64 0) ∧ w.cell? ⟨q8, 1, none⟩ = some (.int .u64 0)) (go_keep) (first | (go_at_call 23; refine (HT.out.go _).mono ?_; rintro e w' ⟨rfl, hb'⟩; have K'' : Hid (Fh W w' q5 (0, 0) q7 a ∧ El w' q8 0 0) := (by first | exact ⟨K.out.1.below hb', K.out.2.below hb'⟩ | exact ⟨K.out.1.drew.below hb', (K.out.2.below (Below.refl _ _).drew).below hb'⟩); clear y1 y0 z1 z0 K hb'; have K := K''; clear K''; obtain ⟨y1, y0⟩ := K.out.1.y; obtain ⟨z1, z0⟩ := K.out.2))
    all_goals
      clear y1 y0 z1 z0
      go_wp2_with (go_at_call 12; refine (HA.out.go _).mono ?_; rintro e w6 ⟨rfl, hb6⟩; have K6 := hidT (K.out.1.below hb6); clear hb6; obtain ⟨v1, v0⟩ := K6.out.x)
      go_ret
      exact ⟨rfl, K6.out.d⟩
  · have h2 : ¬ t1 = 0 := by omega
    clear HNE h1
    go_enter Try.func7, Try.ntmps7
    go_upto_region 3 with (go_at_call 28; refine (HH.out.go _).mono ?_; rintro e w1 ⟨rfl, hb1⟩; have K1 : Hid (Below W.heap.size W w1) := ((Below.refl _ _).alloc (Nat.le_refl _) _).trans (hb1.mono (by simp)); have x1 : w1.cell? ⟨W.heap.size, 0, none⟩ = some (.int .u64 (a.1 : Int)) := keepc hb1 (by simp [go_sem]); have x0 : w1.cell? ⟨W.heap.size, 1, none⟩ = some (.int .u64 (a.2 : Int)) := keepc hb1 (by simp [go_sem]); have hlt : W.heap.size < w1.heap.size := cell_lt x1; have hne : ¬ W.heap.size = w1.heap.size := Nat.ne_of_lt hlt; clear hb1 HH)
    have K3 := hidT (Fh.start (0, 0) a 24 25 K1.out)
    clear K1 x1 x0 hlt hne
    generalize (w1.alloc (Obj.cells #[.int .u64 0, .int .u64 0] 24)).alloc (Obj.cells #[.int .u64 (a.1 : Int), .int .u64 (a.2 : Int)] 25) = w3 at *
    generalize hq7 : w1.heap.size + 1 = q7 at *
    generalize w1.heap.size = q5 at *
    obtain ⟨y1, y0⟩ := K3.out.y
    go_upto_region 5 with (go_at_call 11; refine (HO.out.go _).mono ?_; rintro e w4 ⟨rfl, hb4⟩; have K4 := hidT (K3.out.below hb4); clear hb4 K3 y1 y0)
    go_upto_region 6 with fail
    have K5 : Hid (Fh W (w4.alloc (Obj.cells #[.int .u64 0, .int .u64 0] 25)) q5 (0, 0) q7 a ∧ El (w4.alloc (Obj.cells #[.int .u64 0, .int .u64 0] 25)) w4.heap.size 0 0) := ⟨K4.out.below (by go_grown), ⟨by simp [go_sem], by simp [go_sem]⟩⟩
    clear K4
    generalize w4.alloc (Obj.cells #[.int .u64 0, .int .u64 0] 25) = w5 at *
    generalize w4.heap.size = q8 at *
    have K := K5
    clear K5
    obtain ⟨y1, y0⟩ := K.out.1.y
    obtain ⟨z1, z0⟩ := K.out.2
    go_region_held3 (fun w => w.cell? ⟨q7, 0, none⟩ = some (.int .u64 (a.1 : Int)) ∧ w.cell? ⟨q7, 1, none⟩ = some (.int .u64 (a.2 : Int)) ∧ w.cell? ⟨q8, 0, none⟩ = some (.int .u64 0) ∧ w.cell? ⟨q8, 1, none⟩ = some (.int .u64 0)) (go_keep) (first | (go_at_call 23; refine (HT.out.go _).mono ?_; rintro e w' ⟨rfl, hb'⟩; have K'' : Hid (Fh W w' q5 (0, 0) q7 a ∧ El w' q8 0 0) := (by first | exact ⟨K.out.1.below hb', K.out.2.below hb'⟩ | exact ⟨K.out.1.drew.below hb', (K.out.2.below (Below.refl _ _).drew).below hb'⟩); clear y1 y0 z1 z0 K hb'; have K := K''; clear K''; obtain ⟨y1, y0⟩ := K.out.1.y; obtain ⟨z1, z0⟩ := K.out.2))
    all_goals
      clear y1 y0 z1 z0
      go_wp2_with (go_at_call 12; refine (HA.out.go _).mono ?_; rintro e w6 ⟨rfl, hb6⟩; have K6 := hidT (K.out.1.below hb6); clear hb6; obtain ⟨v1, v0⟩ := K6.out.x)
      go_ret
      exact ⟨rfl, K6.out.d⟩
set_option maxRecDepth 100000 in
set_option maxHeartbeats 16000000 in
theorem fh_yes (k : Nat) (hk : k < 8) (a : Nat × Nat) (la : lt2 a) (oa : ofE k a) (hin : in? (mk k) a = true) : Ret 7 #[.int .i64 (k : Int), .agg #[.int .u64 (a.1 : Int), .int .u64 (a.2 : Int)]] (.bool true) := by
  intro W
  have HA := hidT awake33
  have HH := hidT (half_yes k hk a la oa hin)
  have HO := hidT (rof_any (k : Int) a.1 a.2 la.1 la.2)
  rw [show ofB (k : Int) (a.1 : Int) (a.2 : Int) = true from oa] at HO
  have HT : Hid (Ret 23 #[.int .i64 (k : Int), .int .i64 0, .agg #[.int .u64 (a.1 : Int), .int .u64 (a.2 : Int)]] (.agg #[.int .u64 0, .int .u64 0])) := by
    have h := rtrace33 k 0 hk (Nat.zero_le k) a la
    have e := half_iff hk la oa
    rw [hin] at e
    have e2 : Fr.tn xa (0, 0) k 0 a = (0, 0) := of_decide_eq_true e.symm
    rw [e2] at h
    exact h
  have lV := lt_hv k a
  have HO2 := hidT (of_ret (k : Int) (hv k a).1 (hv k a).2 lV.2)
  rw [show ofB (k : Int) ((hv k a).1 : Int) ((hv k a).2 : Int) = true from of_hv hk a] at HO2
  have HP := hidT (rprod (hv k a) (hv k a) lV lV)
  have HAd : Hid (Ret 29 #[.agg #[.int .u64 ((pm (hv k a) (hv k a)).1 : Int), .int .u64 ((pm (hv k a) (hv k a)).2 : Int)], .agg #[.int .u64 ((hv k a).1 : Int), .int .u64 ((hv k a).2 : Int)]] (.agg #[.int .u64 (a.1 : Int), .int .u64 (a.2 : Int)])) := by
    have h := radd (pm (hv k a) (hv k a)).1 (pm (hv k a) (hv k a)).2 (hv k a).1 (hv k a).2 (lt_pm _ _).1 (lt_pm _ _).2 lV.1 lV.2
    have e : xa (pm (hv k a) (hv k a)) (hv k a) = a := hv_fi hk la hin
    have e1 : (pm (hv k a) (hv k a)).1 ^^^ (hv k a).1 = a.1 := congrArg Prod.fst e
    have e2 : (pm (hv k a) (hv k a)).2 ^^^ (hv k a).2 = a.2 := congrArg Prod.snd e
    rw [e1, e2] at h
    exact h
  have hlow := hv_low hk a
  have hl1 : ((hv k a).2 : Int) % 2 = 0 := by omega
  have hl2 : ((hv k a).2 : Int).tmod 2 = 0 := by rw [Int.tmod_eq_emod_of_nonneg (by omega)]; exact hl1
  clear oa hin la lV hlow
  generalize pm (hv k a) (hv k a) = PP at *
  generalize hv k a = V at *
  go_enter Try.func7, Try.ntmps7
  go_upto_region 3 with (go_at_call 28; refine (HH.out.go _).mono ?_; rintro e w1 ⟨rfl, hb1⟩; have K1 : Hid (Below W.heap.size W w1) := ((Below.refl _ _).alloc (Nat.le_refl _) _).trans (hb1.mono (by simp)); have x1 : w1.cell? ⟨W.heap.size, 0, none⟩ = some (.int .u64 (a.1 : Int)) := keepc hb1 (by simp [go_sem]); have x0 : w1.cell? ⟨W.heap.size, 1, none⟩ = some (.int .u64 (a.2 : Int)) := keepc hb1 (by simp [go_sem]); have hlt : W.heap.size < w1.heap.size := cell_lt x1; have hne : ¬ W.heap.size = w1.heap.size := Nat.ne_of_lt hlt; clear hb1 HH)
  have K3 := hidT (Fh.start V a 24 25 K1.out)
  clear K1 x1 x0 hlt hne
  generalize (w1.alloc (Obj.cells #[.int .u64 (V.1 : Int), .int .u64 (V.2 : Int)] 24)).alloc (Obj.cells #[.int .u64 (a.1 : Int), .int .u64 (a.2 : Int)] 25) = w3 at *
  generalize hq7 : w1.heap.size + 1 = q7 at *
  generalize w1.heap.size = q5 at *
  obtain ⟨y1, y0⟩ := K3.out.y
  go_upto_region 5 with (go_at_call 11; refine (HO.out.go _).mono ?_; rintro e w4 ⟨rfl, hb4⟩; have K4 := hidT (K3.out.below hb4); clear hb4 K3 y1 y0)
  go_upto_region 6 with fail
  have K5 : Hid (Fh W (w4.alloc (Obj.cells #[.int .u64 0, .int .u64 0] 25)) q5 V q7 a ∧ El (w4.alloc (Obj.cells #[.int .u64 0, .int .u64 0] 25)) w4.heap.size 0 0) := ⟨K4.out.below (by go_grown), ⟨by simp [go_sem], by simp [go_sem]⟩⟩
  clear K4
  generalize w4.alloc (Obj.cells #[.int .u64 0, .int .u64 0] 25) = w5 at *
  generalize w4.heap.size = q8 at *
  have K := K5
  clear K5
  obtain ⟨y1, y0⟩ := K.out.1.y
  obtain ⟨z1, z0⟩ := K.out.2
  go_region_held3 (fun w => w.cell? ⟨q7, 0, none⟩ = some (.int .u64 (a.1 : Int)) ∧ w.cell? ⟨q7, 1, none⟩ = some (.int .u64 (a.2 : Int)) ∧ w.cell? ⟨q8, 0, none⟩ = some (.int .u64 0) ∧ w.cell? ⟨q8, 1, none⟩ = some (.int .u64 0)) (go_keep) (first | (go_at_call 23; refine (HT.out.go _).mono ?_; rintro e w' ⟨rfl, hb'⟩; have K'' : Hid (Fh W w' q5 V q7 a ∧ El w' q8 0 0) := (by first | exact ⟨K.out.1.below hb', K.out.2.below hb'⟩ | exact ⟨K.out.1.drew.below hb', (K.out.2.below (Below.refl _ _).drew).below hb'⟩); clear y1 y0 z1 z0 K hb'; have K := K''; clear K''; obtain ⟨y1, y0⟩ := K.out.1.y; obtain ⟨z1, z0⟩ := K.out.2))
  clear y1 y0 z1 z0
  obtain ⟨v1, v0⟩ := K.out.1.x
  go_upto_region 11 with fail
  have K9 : Hid (Fh W (w'.alloc (Obj.cells #[.int .u64 (V.1 : Int), .int .u64 (V.2 : Int)] 25)).drew q5 V q7 a ∧ El (w'.alloc (Obj.cells #[.int .u64 (V.1 : Int), .int .u64 (V.2 : Int)] 25)).drew w'.heap.size V.1 V.2) := ⟨K.out.1.below (((Below.refl _ _).alloc (Nat.le_refl _) _).drew), ⟨by simp [go_sem], by simp [go_sem]⟩⟩
  clear K v1 v0
  have K := K9
  clear K9
  generalize w'.alloc (Obj.cells #[.int .u64 (V.1 : Int), .int .u64 (V.2 : Int)] 25) = w9 at *
  generalize w'.heap.size = q9 at *
  refine wp_region_noPanic ?_
  refine wp_region_peel (S := fun w => w.cell? ⟨q5, 0, none⟩ = some (.int .u64 (V.1 : Int)) ∧ w.cell? ⟨q5, 1, none⟩ = some (.int .u64 (V.2 : Int)) ∧ w.cell? ⟨q7, 0, none⟩ = some (.int .u64 (a.1 : Int)) ∧ w.cell? ⟨q7, 1, none⟩ = some (.int .u64 (a.2 : Int)) ∧ w.cell? ⟨q9, 0, none⟩ = some (.int .u64 (V.1 : Int)) ∧ w.cell? ⟨q9, 1, none⟩ = some (.int .u64 (V.2 : Int))) 21 (by kernel_rfl) rfl (by kernel_rfl) ?_ (fun hHeld => ?_)
  · exact ⟨K.out.1.x.hi, K.out.1.x.lo, K.out.1.y.hi, K.out.1.y.lo, K.out.2.hi, K.out.2.lo⟩
  refine wpAnyH_ready (rs := [0]) (by kernel_rfl) (by simp) ?_
  refine AllReadyH.cons (o := _) rfl (fun KK hKK => ?_) AllReadyH.nil
  go_simp
  (refine (HA.out.go _).mono ?_; rintro e w' ⟨rfl, hb'⟩)
  have K'' : Hid (Fh W w' q5 V q7 a ∧ El w' q9 V.1 V.2) := ⟨K.out.1.below hb', K.out.2.below hb'⟩; clear K hb'; have K := K''; clear K''
  refine hKK.out _ _ ?_ (fun hHeld => ?_)
  · exact ⟨K.out.1.x.hi, K.out.1.x.lo, K.out.1.y.hi, K.out.1.y.lo, K.out.2.hi, K.out.2.lo⟩
  clear hKK KK
  try simp only [Act.put]
  refine wpAnyH_take (i := 1) (oi := _) (v := ?_) rfl (by kernel_rfl) (by kernel_rfl) (by kernel_rfl) (fun _ _ _ h => h) (Or.inl ⟨by rfl, ?_⟩) (by assumption) ?_
  rotate_left
  · ((intro w hSw; (try dsimp only at hSw); go_simp) <;> (try with_reducible rfl))
  show wpAnyH _ _ _ _ _ _ _ (Act.put _ (some 48) _) _
  simp only [Act.put, List.setIfInBounds_toArray, List.set_cons_succ, List.set_cons_zero]
  refine wpAnyH_take (i := 2) (oi := _) (v := ?_) rfl (by kernel_rfl) (by kernel_rfl) (by kernel_rfl) (fun _ _ _ h => h) (Or.inl ⟨by rfl, ?_⟩) (by assumption) ?_
  rotate_left
  · ((intro w hSw; (try dsimp only at hSw); go_simp) <;> (try with_reducible rfl))
  show wpAnyH _ _ _ _ _ _ _ (Act.put _ (some 49) _) _
  simp only [Act.put, List.setIfInBounds_toArray, List.set_cons_succ, List.set_cons_zero]
  refine wpAnyH_take (i := 3) (oi := _) (v := ?_) rfl (by kernel_rfl) (by kernel_rfl) (by kernel_rfl) (fun _ _ _ h => h) (Or.inl ⟨by rfl, ?_⟩) (by assumption) ?_
  rotate_left
  · ((intro w hSw; (try dsimp only at hSw); go_simp) <;> (try with_reducible rfl))
  show wpAnyH _ _ _ _ _ _ _ (Act.put _ (some 50) _) _
  simp only [Act.put, List.setIfInBounds_toArray, List.set_cons_succ, List.set_cons_zero]
  refine wpAnyH_ready (rs := [4]) (by kernel_rfl) (by simp) ?_
  refine AllReadyH.cons (o := _) rfl (fun KK hKK => ?_) AllReadyH.nil
  go_simp
  (refine (HO2.out.go _).mono ?_; rintro e w' ⟨rfl, hb'⟩)
  have K'' : Hid (Fh W w' q5 V q7 a ∧ El w' q9 V.1 V.2) := ⟨K.out.1.below hb', K.out.2.below hb'⟩; clear K hb'; have K := K''; clear K''
  refine hKK.out _ _ ?_ (fun hHeld => ?_)
  · exact ⟨K.out.1.x.hi, K.out.1.x.lo, K.out.1.y.hi, K.out.1.y.lo, K.out.2.hi, K.out.2.lo⟩
  clear hKK KK
  try simp only [Act.put]
  refine wpAnyH_take (i := 5) (oi := _) (v := ?_) rfl (by kernel_rfl) (by kernel_rfl) (by kernel_rfl) (fun _ _ _ h => h) (Or.inl ⟨by rfl, ?_⟩) (by assumption) ?_
  rotate_left
  · ((intro w hSw; (try dsimp only at hSw); go_simp) <;> (try with_reducible rfl))
  show wpAnyH _ _ _ _ _ _ _ (Act.put _ (some 52) _) _
  simp only [Act.put, List.setIfInBounds_toArray, List.set_cons_succ, List.set_cons_zero]
  refine wpAnyH_take (i := 6) (oi := _) (v := ?_) rfl (by kernel_rfl) (by kernel_rfl) (by kernel_rfl) (fun _ _ _ h => h) (Or.inl ⟨by rfl, ?_⟩) (by assumption) ?_
  rotate_left
  · ((intro w hSw; (try dsimp only at hSw); go_simp) <;> (try with_reducible rfl))
  show wpAnyH _ _ _ _ _ _ _ (Act.put _ (some 53) _) _
  simp only [Act.put, List.setIfInBounds_toArray, List.set_cons_succ, List.set_cons_zero]
  refine wpAnyH_take (i := 7) (oi := _) (v := ?_) rfl (by kernel_rfl) (by kernel_rfl) (by kernel_rfl) (fun _ _ _ h => h) (Or.inl ⟨by rfl, ?_⟩) (by assumption) ?_
  rotate_left
  · ((intro w hSw; (try dsimp only at hSw); go_simp) <;> (try with_reducible rfl))
  show wpAnyH _ _ _ _ _ _ _ (Act.put _ (some 54) _) _
  simp only [Act.put, List.setIfInBounds_toArray, List.set_cons_succ, List.set_cons_zero]
  refine wpAnyH_take (i := 8) (oi := _) (v := ?_) rfl (by kernel_rfl) (by kernel_rfl) (by kernel_rfl) (fun _ _ _ h => h) (Or.inl ⟨by rfl, ?_⟩) (by assumption) ?_
  rotate_left
  · ((intro w hSw; (try dsimp only at hSw); go_simp) <;> (try with_reducible rfl))
  show wpAnyH _ _ _ _ _ _ _ (Act.put _ (some 55) _) _
  simp only [Act.put, List.setIfInBounds_toArray, List.set_cons_succ, List.set_cons_zero]
  refine wpAnyH_take (i := 9) (oi := _) (v := ?_) rfl (by kernel_rfl) (by kernel_rfl) (by kernel_rfl) (fun _ _ _ h => h) (Or.inl ⟨by rfl, ?_⟩) (by assumption) ?_
  rotate_left
  · ((intro w hSw; (try dsimp only at hSw); go_simp) <;> (try with_reducible rfl))
  show wpAnyH _ _ _ _ _ _ _ (Act.put _ (some 56) _) _
  simp only [Act.put, List.setIfInBounds_toArray, List.set_cons_succ, List.set_cons_zero]
  refine wpAnyH_take (i := 10) (oi := _) (v := ?_) rfl (by kernel_rfl) (by kernel_rfl) (by kernel_rfl) (fun _ _ _ h => h) (Or.inl ⟨by rfl, ?_⟩) (by assumption) ?_
  rotate_left
  · ((intro w hSw; (try dsimp only at hSw); go_simp) <;> (try with_reducible rfl))
  show wpAnyH _ _ _ _ _ _ _ (Act.put _ (some 57) _) _
  simp only [Act.put, List.setIfInBounds_toArray, List.set_cons_succ, List.set_cons_zero]
  refine wpAnyH_take (i := 11) (oi := _) (v := ?_) rfl (by kernel_rfl) (by kernel_rfl) (by kernel_rfl) (fun _ _ _ h => h) (Or.inl ⟨by rfl, ?_⟩) (by assumption) ?_
  rotate_left
  · ((intro w hSw; (try dsimp only at hSw); go_simp) <;> (try with_reducible rfl))
  show wpAnyH _ _ _ _ _ _ _ (Act.put _ (some 58) _) _
  simp only [Act.put, List.setIfInBounds_toArray, List.set_cons_succ, List.set_cons_zero]
  refine wpAnyH_take (i := 12) (oi := _) (v := ?_) rfl (by kernel_rfl) (by kernel_rfl) (by kernel_rfl) (fun _ _ _ h => h) (Or.inl ⟨by rfl, ?_⟩) (by assumption) ?_
  rotate_left
  · ((intro w hSw; (try dsimp only at hSw); go_simp) <;> (try with_reducible rfl))
  show wpAnyH _ _ _ _ _ _ _ (Act.put _ (some 59) _) _
  simp only [Act.put, List.setIfInBounds_toArray, List.set_cons_succ, List.set_cons_zero]
  refine wpAnyH_take (i := 13) (oi := _) (v := ?_) rfl (by kernel_rfl) (by kernel_rfl) (by kernel_rfl) (fun _ _ _ h => h) (Or.inl ⟨by rfl, ?_⟩) (by assumption) ?_
  rotate_left
  · ((intro w hSw; (try dsimp only at hSw); go_simp) <;> (try with_reducible rfl))
  show wpAnyH _ _ _ _ _ _ _ (Act.put _ (some 60) _) _
  simp only [Act.put, List.setIfInBounds_toArray, List.set_cons_succ, List.set_cons_zero]
  refine wpAnyH_take (i := 14) (oi := _) (v := ?_) rfl (by kernel_rfl) (by kernel_rfl) (by kernel_rfl) (fun _ _ _ h => h) (Or.inl ⟨by rfl, ?_⟩) (by assumption) ?_
  rotate_left
  · ((intro w hSw; (try dsimp only at hSw); go_simp) <;> (try with_reducible rfl))
  show wpAnyH _ _ _ _ _ _ _ (Act.put _ (some 61) _) _
  simp only [Act.put, List.setIfInBounds_toArray, List.set_cons_succ, List.set_cons_zero]
  refine wpAnyH_take (i := 16) (oi := _) (v := ?_) rfl (by kernel_rfl) (by kernel_rfl) (by kernel_rfl) (fun _ _ _ h => h) (Or.inl ⟨by rfl, ?_⟩) (by assumption) ?_
  rotate_left
  · ((intro w hSw; (try dsimp only at hSw); go_simp) <;> (try with_reducible rfl))
  show wpAnyH _ _ _ _ _ _ _ (Act.put _ (some 63) _) _
  simp only [Act.put, List.setIfInBounds_toArray, List.set_cons_succ, List.set_cons_zero]
  refine wpAnyH_take (i := 18) (oi := _) (v := ?_) rfl (by kernel_rfl) (by kernel_rfl) (by kernel_rfl) (fun _ _ _ h => h) (Or.inl ⟨by rfl, ?_⟩) (by assumption) ?_
  rotate_left
  · ((intro w hSw; (try dsimp only at hSw); go_simp) <;> (try with_reducible rfl))
  show wpAnyH _ _ _ _ _ _ _ (Act.put _ (some 65) _) _
  simp only [Act.put, List.setIfInBounds_toArray, List.set_cons_succ, List.set_cons_zero]
  refine wpAnyH_ready (rs := [15]) (by kernel_rfl) (by simp) ?_
  refine AllReadyH.cons (o := _) rfl (fun KK hKK => ?_) AllReadyH.nil
  go_simp
  (refine (HP.out.go _).mono ?_; rintro e w' ⟨rfl, hb'⟩)
  have K'' : Hid (Fh W w' q5 V q7 a ∧ El w' q9 V.1 V.2) := ⟨K.out.1.below hb', K.out.2.below hb'⟩; clear K hb'; have K := K''; clear K''
  refine hKK.out _ _ ?_ (fun hHeld => ?_)
  · exact ⟨K.out.1.x.hi, K.out.1.x.lo, K.out.1.y.hi, K.out.1.y.lo, K.out.2.hi, K.out.2.lo⟩
  clear hKK KK
  try simp only [Act.put]
  refine wpAnyH_ready (rs := [17]) (by kernel_rfl) (by simp) ?_
  refine AllReadyH.cons (o := _) rfl (fun KK hKK => ?_) AllReadyH.nil
  go_simp
  (refine (HAd.out.go _).mono ?_; rintro e w' ⟨rfl, hb'⟩)
  have K'' : Hid (Fh W w' q5 V q7 a ∧ El w' q9 V.1 V.2) := ⟨K.out.1.below hb', K.out.2.below hb'⟩; clear K hb'; have K := K''; clear K''
  refine hKK.out _ _ ?_ (fun hHeld => ?_)
  · exact ⟨K.out.1.x.hi, K.out.1.x.lo, K.out.1.y.hi, K.out.1.y.lo, K.out.2.hi, K.out.2.lo⟩
  clear hKK KK
  try simp only [Act.put]
  refine wpAnyH_take (i := 19) (oi := _) (v := ?_) rfl (by kernel_rfl) (by kernel_rfl) (by kernel_rfl) (fun _ _ _ h => h) (Or.inl ⟨by rfl, ?_⟩) (by assumption) ?_
  rotate_left
  · ((intro w hSw; (try dsimp only at hSw); go_simp) <;> (try with_reducible rfl))
  show wpAnyH _ _ _ _ _ _ _ (Act.put _ (some 66) _) _
  simp only [Act.put, List.setIfInBounds_toArray, List.set_cons_succ, List.set_cons_zero]
  refine wpAnyH_take (i := 20) (oi := _) (v := ?_) rfl (by kernel_rfl) (by kernel_rfl) (by kernel_rfl) (fun _ _ _ h => h) (Or.inl ⟨by rfl, ?_⟩) (by assumption) ?_
  rotate_left
  · ((intro w hSw; (try dsimp only at hSw); go_simp) <;> (try with_reducible rfl))
  show wpAnyH _ _ _ _ _ _ _ (Act.put _ (some 67) _) _
  simp only [Act.put, List.setIfInBounds_toArray, List.set_cons_succ, List.set_cons_zero]
  refine wpAnyH_done (by kernel_rfl) ?_ _
  refine peel_last rfl (fun KK hKK => ?_)
  clear hHeld
  clear HP HAd HO2 HA
  go_simp
  refine hKK _ _ ?_
  refine NoPanic.normal ?_
  clear hKK KK
  go_wp2
  go_ret
  exact ⟨rfl, K.out.1.d⟩
theorem fh_any (l : Int) (a : Nat × Nat) (la : lt2 a) : Ret 7 #[.int .i64 l, .agg #[.int .u64 (a.1 : Int), .int .u64 (a.2 : Int)]] (.bool true) := by
  cases h : ofB l (a.1 : Int) (a.2 : Int)
  · exact fh_out l a la h
  · obtain ⟨k, hk, rfl⟩ : ∃ k : Nat, k < 8 ∧ l = (k : Int) := by
      rcases level_cases l (levelB_of h) with rfl | rfl | rfl | rfl | rfl | rfl | rfl | rfl
      · exact ⟨0, by decide, rfl⟩
      · exact ⟨1, by decide, rfl⟩
      · exact ⟨2, by decide, rfl⟩
      · exact ⟨3, by decide, rfl⟩
      · exact ⟨4, by decide, rfl⟩
      · exact ⟨5, by decide, rfl⟩
      · exact ⟨6, by decide, rfl⟩
      · exact ⟨7, by decide, rfl⟩
    cases hin : in? (mk k) a
    · exact fh_no k hk a la h hin
    · exact fh_yes k hk a la h hin
end Go.Proofs.Ytakaconhoodigaa
