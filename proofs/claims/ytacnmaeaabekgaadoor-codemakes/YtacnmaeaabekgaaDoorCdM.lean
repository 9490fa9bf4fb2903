/- The walk of CodeMakes over the seat's translation. -/
import Derived.Test.YtacnmaeaabekgaaDoorCdK
namespace Go.Proofs.YtacnmaeaabekgaaDoor
open Go.RowKit

/-- A shape that lies at W's first new block. -/
structure Mst (W w : World) (b : Nat) (x y z : Int) : Prop where
  d : Below W.heap.size W w
  c0 : w.cell? ⟨b, 0, none⟩ = some (.int .i64 x)
  c1 : w.cell? ⟨b, 1, none⟩ = some (.int .i64 y)
  c2 : w.cell? ⟨b, 2, none⟩ = some (.int .i64 z)
  tab : Tab w
theorem Mst.below {W w w' : World} {b : Nat} {x y z : Int} (h : Mst W w b x y z) (hb : Below w.heap.size w w') : Mst W w' b x y z := ⟨h.d.trans (hb.mono h.d.size), keepc hb h.c0, keepc hb h.c1, keepc hb h.c2, h.tab.below hb⟩
theorem Mst.drew {W w : World} {b : Nat} {x y z : Int} (h : Mst W w b x y z) : Mst W w.drew b x y z := h.below (Below.refl _ _).drew
theorem Mst.facts {W w : World} {b : Nat} {x y z : Int} (h : Mst W w b x y z) : w.cell? ⟨b, 0, none⟩ = some (.int .i64 x) ∧ w.cell? ⟨b, 1, none⟩ = some (.int .i64 y) ∧ w.cell? ⟨b, 2, none⟩ = some (.int .i64 z) := ⟨h.c0, h.c1, h.c2⟩
theorem level_nil : Ret 13 #[.pointer none] (.int .i64 0) := by
  intro W
  go_enter Tryd.func13, Tryd.ntmps13
  go_wp2
  go_ret
  exact ⟨rfl, by first | exact Below.refl _ _ | go_grown⟩
theorem clong_nil : Ret 12 #[.pointer none] (.int .i64 0) := by
  intro W
  go_enter Tryd.func12, Tryd.ntmps12
  go_wp2
  go_ret
  exact ⟨rfl, by first | exact Below.refl _ _ | go_grown⟩
set_option maxHeartbeats 2000000 in
theorem cm_nil (x y z ev : Int) (he : ¬ ev = 0) (W : World) (hT : Tab W) (hN : Ret 8 #[.int .i64 x, .int .i64 y, .int .i64 z] (.tuple #[.pointer none, .int .i64 ev])) (hC : Ret 9 #[.int .i64 x, .int .i64 y, .int .i64 z] (.int .i64 ev)) :
    Calls Tryd.prog 3 #[.agg #[.int .i64 x, .int .i64 y, .int .i64 z]] W fun e w' => e = .returned (.bool true) ∧ Below W.heap.size W w' := by
  have HT : Hid (Tab W) := hT
  have H1 := size_nil
  have H2 := clong_nil
  have H3 := level_nil
  clear hT
  go_enter Tryd.func3, Tryd.ntmps3
  go_wp2_with fail
  have A : Below W.heap.size W (W.alloc (Obj.cells #[.int .i64 x, .int .i64 y, .int .i64 z] 23)) := (Below.refl _ _).alloc (Nat.le_refl _) _
  refine (hN.go _).mono ?_
  rintro e w1 ⟨rfl, hb1⟩
  have K : Mst W w1 W.heap.size x y z := Mst.below ⟨A, by simp [go_sem], by simp [go_sem], by simp [go_sem], HT.out.below A⟩ hb1
  have F := K.facts
  clear hb1 A
  generalize W.heap.size = b at *
  go_wp2_with fail
  refine (hC.go _).mono ?_
  rintro e w2 ⟨rfl, hb2⟩
  have K2 : Hid (Mst W w2 b x y z) := K.below hb2
  clear K F hb2
  go_wp2_with fail
  refine (awake8 w2 K2.out.tab).mono ?_
  rintro e w3 ⟨rfl, hb3⟩
  have D3 : Below W.heap.size W w3 := K2.out.d.trans (hb3.mono K2.out.d.size)
  clear K2 hb3
  go_wp2_with (first | (go_at_call 11; refine (H1.go _).mono ?_; rintro e w4 ⟨rfl, hb4⟩) | (go_at_call 12; refine (H2.go _).mono ?_; rintro e w5 ⟨rfl, hb5⟩) | (go_at_call 13; refine (H3.go _).mono ?_; rintro e w6 ⟨rfl, hb6⟩))
  go_ret
  have D4 := D3.trans (hb4.mono D3.size)
  have D5 := D4.trans (hb5.mono D4.size)
  exact ⟨rfl, D5.trans (hb6.mono D5.size)⟩
set_option maxHeartbeats 4000000 in
theorem cm_ok (l k r n : Nat) (hl : l < 8) (hn : k + r = n) (h10 : n ≤ 10) (h2 : n ≤ 2 ^ l) (W : World) (hT : Tab W) (hC : Ret 9 #[.int .i64 (l : Int), .int .i64 (k : Int), .int .i64 (r : Int)] (.int .i64 0)) (HW : Hid (∀ m : Nat, m ≤ 10 → Ret 14 #[.int .i64 (m : Int)] (.int .i64 ((2 ^ m : Nat) : Int)))) :
    Calls Tryd.prog 3 #[.agg #[.int .i64 (l : Int), .int .i64 (k : Int), .int .i64 (r : Int)]] W fun e w' => e = .returned (.bool true) ∧ Below W.heap.size W w' := by
  have HT : Hid (Tab W) := hT
  have HN : Hid (∀ w, Calls Tryd.prog 8 #[.int .i64 (l : Int), .int .i64 (k : Int), .int .i64 (r : Int)] w fun e w' => ∃ C p, e = .returned (.tuple #[.pointer (some ⟨C, 0, none⟩), .int .i64 0]) ∧ Cod w' l k n C p ∧ Below w.heap.size w w') := fun w => new_ok l k r n (2 ^ l) rfl hl hn h10 h2 w
  have hs : IntKind.i64.wrap ((k : Int) + r) = (n : Int) := by rw [IntKind.wrap_i64]; omega
  clear hT
  go_enter Tryd.func3, Tryd.ntmps3
  go_wp2_with fail
  have A : Below W.heap.size W (W.alloc (Obj.cells #[.int .i64 (l : Int), .int .i64 (k : Int), .int .i64 (r : Int)] 23)) := (Below.refl _ _).alloc (Nat.le_refl _) _
  refine (HN.out _).mono ?_
  rintro e w1 ⟨C, p, rfl, hc, hb1⟩
  have K : Mst W w1 W.heap.size l k r := Mst.below ⟨A, by simp [go_sem], by simp [go_sem], by simp [go_sem], HT.out.below A⟩ hb1
  have F := K.facts
  have HK : Hid (Cod w1 l k n C p) := hc
  clear hb1 A hc
  generalize W.heap.size = b at *
  go_wp2_with fail
  refine (hC.go _).mono ?_
  rintro e w2 ⟨rfl, hb2⟩
  have K2 : Hid (Mst W w2 b l k r) := K.below hb2
  have HK2 : Hid (Cod w2 l k n C p) := HK.out.below hb2
  clear K F hb2 HK HN
  go_wp2_with fail
  have K := K2.out
  have hc := HK2.out
  have F := K.facts
  have T1 := HW.out k (by omega)
  have T2 := HW.out n h10
  clear K2 HK2 HW
  go_region_held3 (fun w => w.cell? ⟨b, 0, none⟩ = some (.int .i64 (l : Int)) ∧ w.cell? ⟨b, 1, none⟩ = some (.int .i64 (k : Int)) ∧ w.cell? ⟨b, 2, none⟩ = some (.int .i64 (r : Int))) (go_keep) (first | (go_at_call 10; refine (awake8 _ (by first | exact K.tab | exact K.drew.tab)).mono ?_; rintro e w' ⟨rfl, hb'⟩; have K' := Mst.below (w' := w') (by first | exact K | exact K.drew) hb'; have C' := Cod.below (w' := w') (by first | exact hc | exact hc.below (Below.refl _ _).drew) hb'; clear F K hc hb'; have K := K'; have hc := C'; clear K' C'; have F := K.facts) | (go_at_call 13; refine (clevel l k n C p _ (by first | exact hc | exact hc.below (Below.refl _ _).drew)).mono ?_; rintro e w' ⟨rfl, hb'⟩; have K' := Mst.below (w' := w') (by first | exact K | exact K.drew) hb'; have C' := Cod.below (w' := w') (by first | exact hc | exact hc.below (Below.refl _ _).drew) hb'; clear F K hc hb'; have K := K'; have hc := C'; clear K' C'; have F := K.facts) | (go_at_call 11; refine (csize l k n C p _ (by first | exact hc | exact hc.below (Below.refl _ _).drew)).mono ?_; rintro e w' ⟨rfl, hb'⟩; have K' := Mst.below (w' := w') (by first | exact K | exact K.drew) hb'; have C' := Cod.below (w' := w') (by first | exact hc | exact hc.below (Below.refl _ _).drew) hb'; clear F K hc hb'; have K := K'; have hc := C'; clear K' C'; have F := K.facts) | (go_at_call 12; refine (clong l k n C p h10 _ (by first | exact hc | exact hc.below (Below.refl _ _).drew)).mono ?_; rintro e w' ⟨rfl, hb'⟩; have K' := Mst.below (w' := w') (by first | exact K | exact K.drew) hb'; have C' := Cod.below (w' := w') (by first | exact hc | exact hc.below (Below.refl _ _).drew) hb'; clear F K hc hb'; have K := K'; have hc := C'; clear K' C'; have F := K.facts) | (go_at_call_of 14 (#[.int .i64 (k : Int)] : Array Value); refine (T1.go _).mono ?_; rintro e w' ⟨rfl, hb'⟩; have K' := Mst.below (w' := w') (by first | exact K | exact K.drew) hb'; have C' := Cod.below (w' := w') (by first | exact hc | exact hc.below (Below.refl _ _).drew) hb'; clear F K hc hb'; have K := K'; have hc := C'; clear K' C'; have F := K.facts) | (go_at_call_of 14 (#[.int .i64 (n : Int)] : Array Value); refine (T2.go _).mono ?_; rintro e w' ⟨rfl, hb'⟩; have K' := Mst.below (w' := w') (by first | exact K | exact K.drew) hb'; have C' := Cod.below (w' := w') (by first | exact hc | exact hc.below (Below.refl _ _).drew) hb'; clear F K hc hb'; have K := K'; have hc := C'; clear K' C'; have F := K.facts))
  go_wp2
  go_ret
  exact ⟨rfl, K.d⟩
theorem cm_any (x y z : Int) (hz : z ≤ 9223372036854775807) (W : World) (hT : Tab W) :
    Calls Tryd.prog 3 #[.agg #[.int .i64 x, .int .i64 y, .int .i64 z]] W fun e w' => e = .returned (.bool true) ∧ Below W.heap.size W w' := by
  by_cases h : 0 ≤ x ∧ x ≤ 7 ∧ 0 ≤ y ∧ 0 ≤ z
  · obtain ⟨h1, h2, h3, h4⟩ := h
    obtain ⟨l, rfl⟩ : ∃ l : Nat, x = (l : Int) := ⟨x.toNat, by omega⟩
    obtain ⟨k, rfl⟩ : ∃ k : Nat, y = (k : Int) := ⟨y.toNat, by omega⟩
    obtain ⟨r, rfl⟩ : ∃ r : Nat, z = (r : Int) := ⟨z.toNat, by omega⟩
    by_cases h5 : (k : Int) + r ≤ 10 ∧ (k : Int) + r ≤ ((2 ^ l : Nat) : Int)
    · exact cm_ok l k r (k + r) (by omega) rfl (by omega) (by omega) W hT (chk_ok l (by omega) k r h3 h4 h5) (fun m hm => two_any m hm)
    · exact cm_nil l k r 2 (by decide) W hT (nw_long l (2 ^ l) rfl (by omega) k r h3 h4 hz h5) (chk_long l (by omega) k r h3 h4 h5)
  · exact cm_nil x y z 1 (by decide) W hT (nw_arg x y z h) (chk_arg x y z h)
end Go.Proofs.YtacnmaeaabekgaaDoor
