/- The worked example and the bounds of layer 23's statements over the seat's translation. -/
import Derived.Test.YtbomgcmmfeahiaaRgF
import Derived.Test.YtbomgcmmfeahiaaPWvA
import Derived.Deep.AppendLies
namespace Go.Proofs.Ytbomgcmmfeahiaa
open Go.RowKit
open Cb
open Rg
open Tw (pm)

theorem aw_w0 : wt [(0, 1)] 0 = (0, 0) := by
  show pm (0, 1) (fac (0, 1) 0) = (0, 0)
  rw [show fac (0, 1) 0 = (0, 0) by decide, pm_zero]
theorem aw_w1 : wt [(0, 1)] 1 = (0, 1) := by
  show pm (0, 1) (fac (0, 1) 1) = (0, 1)
  rw [show fac (0, 1) 1 = (0, 1) by decide, pm_one lt_one]
theorem aw_parts : parts 1 [true, false] 2 [(0, 1)] = [(0, 0)] := by
  unfold parts
  rw [show List.range 1 = [0] by decide]
  simp only [List.map_cons, List.map_nil, Rg.part, xs]
  rw [aw_w0, aw_w1]
  decide
theorem aw_val : vsum 1 [(0, 0)] [] = (0, 0) := by
  unfold vsum
  simp only [xs]
  rw [show el [(0, 0)] 0 = (0, 0) by decide, pm_zero]
  decide
theorem aw_msk : ∃ x, msks 1 [(0, 1)] [] 2 = [x, (0, 1)] := by
  have h : msk 1 [(0, 1)] [] 1 = (0, 1) := by
    simp only [msk, xs]
    rw [aw_w1]
    decide
  refine ⟨msk 1 [(0, 1)] [] 0, ?_⟩
  unfold msks
  rw [show List.range 2 = [0, 1] by decide]
  simp only [List.map_cons, List.map_nil]
  rw [h]
theorem er1 {w : World} {b : Nat} {x : Nat × Nat} (h1 : w.cell? ⟨b, 0, none⟩ = some (.int .u64 (x.1 : Int))) (h2 : w.cell? ⟨b, 1, none⟩ = some (.int .u64 (x.2 : Int))) : ERow w (some ⟨b, 0, none⟩) [x] := ⟨fun i hi => by
  simp at hi
  have hb := cell_lt h1
  subst hi
  exact ⟨b, 0, rfl, hb, h1, h2⟩⟩
theorem br2 {w : World} {b : Nat} {x y : Bool} (h1 : w.cell? ⟨b, 0, none⟩ = some (.bool x)) (h2 : w.cell? ⟨b, 1, none⟩ = some (.bool y)) : BRow w (some ⟨b, 0, none⟩) [x, y] := ⟨fun i hi => by
  simp at hi
  have hb := cell_lt h1
  obtain rfl | rfl : i = 0 ∨ i = 1 := by omega
  · exact ⟨b, 0, rfl, hb, h1⟩
  · exact ⟨b, 0, rfl, hb, h2⟩⟩
theorem er_nil (w : World) : ERow w none [] := ⟨fun i hi => by simp at hi⟩
theorem er1_cells {w : World} {g : Nat} {x : Nat × Nat} (h : ERow w (some ⟨g, 0, none⟩) [x]) : w.cell? ⟨g, 0, none⟩ = some (.int .u64 (x.1 : Int)) ∧ w.cell? ⟨g, 1, none⟩ = some (.int .u64 (x.2 : Int)) := by
  obtain ⟨b, o, e, _, c1, c0⟩ := h.cells 0 (by simp)
  injection e with e
  injection e with e1 e2
  subst e1 e2
  exact ⟨c1, c0⟩
theorem er2_cells {w : World} {g : Nat} {x y : Nat × Nat} (h : ERow w (some ⟨g, 0, none⟩) [x, y]) : w.cell? ⟨g, 2, none⟩ = some (.int .u64 (y.1 : Int)) ∧ w.cell? ⟨g, 3, none⟩ = some (.int .u64 (y.2 : Int)) := by
  obtain ⟨b, o, e, _, c1, c0⟩ := h.cells 1 (by simp)
  injection e with e
  injection e with e1 e2
  subst e1 e2
  exact ⟨c1, c0⟩
theorem lt_one1 : ltE [(0, 1)] := by intro e he; simp at he; subst he; decide
theorem of_one1 : ofT 0 [(0, 1)] := by intro e he; simp at he; subst he; rfl
theorem lt_zer1 : ltE [(0, 0)] := by intro e he; simp at he; subst he; decide
theorem of_zer1 : ofT 0 [(0, 0)] := by intro e he; simp at he; subst he; rfl
theorem lt_nil : ltE [] := by intro e he; simp at he
theorem of_nil (k : Nat) : ofT k [] := by intro e he; simp at he
set_option maxHeartbeats 4000000 in
set_option maxRecDepth 100000 in
theorem awake23 : Ret 9 #[] (.bool true) := by
  intro W
  obtain ⟨m0, hm0⟩ := aw_msk
  have HP : Hid (∀ (w : World) (b b2 : Nat) (cap cap2 : Nat), BRow w (some ⟨b, 0, none⟩) [true, false] → ERow w (some ⟨b2, 0, none⟩) [(0, 1)] → Calls Try.prog 12 #[.int .i64 0, .slice (some ⟨b, 0, none⟩) 2 cap, .slice (some ⟨b2, 0, none⟩) 1 cap2] w fun e w' => ∃ g, e = .returned (.tuple #[.slice (some ⟨g, 0, none⟩) 1 1, .int .i64 0]) ∧ ERow w' (some ⟨g, 0, none⟩) [(0, 0)] ∧ Below w.heap.size w w') := fun w b b2 cap cap2 h1 h2 => by
    have := rparts_ok 0 (by decide) (some ⟨b, 0, none⟩) (some ⟨b2, 0, none⟩) 2 cap cap2 1 1 2 [true, false] [(0, 1)] lt_one1 rfl (by decide) rfl rfl rfl rfl of_one1 w h1 h2
    rw [aw_parts] at this
    exact this
  have HV : Hid (∀ (w : World) (b cap : Nat), ERow w (some ⟨b, 0, none⟩) [(0, 0)] → Calls Try.prog 19 #[.int .i64 0, .slice (some ⟨b, 0, none⟩) 1 cap, .slice none 0 0] w fun e w' => e = .returned (.tuple #[.agg #[.int .u64 0, .int .u64 0], .int .i64 0]) ∧ Below w.heap.size w w') := fun w b cap h1 =>
    rval_ok 0 (by decide) (some ⟨b, 0, none⟩) none cap 0 1 [(0, 0)] [] lt_zer1 lt_nil rfl rfl rfl of_zer1 (of_nil 0) (0, 0) aw_val w h1 (er_nil w)
  have HM : Hid (∀ (w : World) (b cap : Nat), ERow w (some ⟨b, 0, none⟩) [(0, 1)] → Calls Try.prog 24 #[.int .i64 0, .slice (some ⟨b, 0, none⟩) 1 cap, .slice none 0 0] w fun e w' => ∃ g cp, e = .returned (.tuple #[.slice (some ⟨g, 0, none⟩) 2 cp, .int .i64 0]) ∧ ERow w' (some ⟨g, 0, none⟩) [m0, (0, 1)] ∧ Below w.heap.size w w') := fun w b cap h1 => by
    have := rmask_ok 0 (by decide) (some ⟨b, 0, none⟩) none cap 0 1 1 2 [(0, 1)] [] lt_one1 lt_nil rfl (by decide) rfl rfl rfl of_one1 (of_nil 0) w h1 (er_nil w)
    rw [hm0] at this
    exact this
  clear hm0
  go_enter Try.func9, Try.ntmps9
  go_wp2_with (first
    | (go_at_call 12; refine (HP.out _ _ _ _ _ (br2 (by simp [go_sem]) (by simp [go_sem])) (er1 (x := (0, 1)) (by simp [go_sem]) (by simp [go_sem]))).mono ?_; rintro e w1 ⟨g1, rfl, hr1, hb1⟩; have K1 : Hid (ERow w1 (some ⟨g1, 0, none⟩) [(0, 0)] ∧ Below W.heap.size W w1) := ⟨hr1, (((Below.refl W.heap.size W).alloc (Nat.le_refl _) _).alloc (by simp) _).trans (hb1.mono (by simp; omega))⟩; clear hr1 hb1 HP)
    | (go_at_call 19; refine (HV.out _ _ _ K1.out.1).mono ?_; rintro e w2 ⟨rfl, hb2⟩; have K2 : Hid (ERow (w2.alloc (Obj.cells #[.int .u64 0, .int .u64 0] 42)) (some ⟨g1, 0, none⟩) [(0, 0)] ∧ El (w2.alloc (Obj.cells #[.int .u64 0, .int .u64 0] 42)) w2.heap.size 0 0 ∧ Below W.heap.size W (w2.alloc (Obj.cells #[.int .u64 0, .int .u64 0] 42))) := ⟨(K1.out.1.below hb2).below ((Below.refl _ _).alloc (Nat.le_refl _) _), (Ew.roomR w2 _).toEl, (K1.out.2.trans (hb2.mono K1.out.2.size)).alloc (K1.out.2.trans (hb2.mono K1.out.2.size)).size _⟩; clear hb2 HV K1)
    | (go_at_call 24; refine (HM.out _ _ _ (er1 (x := (0, 1)) (by simp [go_sem]) (by simp [go_sem]))).mono ?_; rintro e w3 ⟨g3, cp3, rfl, hr3, hb3⟩; have K3 : Hid (ERow w3 (some ⟨g1, 0, none⟩) [(0, 0)] ∧ El w3 w2.heap.size 0 0 ∧ ERow w3 (some ⟨g3, 0, none⟩) [m0, (0, 1)] ∧ Below W.heap.size W w3) := ⟨(K2.out.1.below ((Below.refl _ _).alloc (Nat.le_refl _) _)).below hb3, (K2.out.2.1.alloc _).below hb3, hr3, (K2.out.2.2.alloc K2.out.2.2.size _).trans (hb3.mono (K2.out.2.2.alloc K2.out.2.2.size _).size)⟩; clear hb3 hr3 HM K2; obtain ⟨p1, p0⟩ := er1_cells K3.out.1; obtain ⟨v1, v0⟩ := K3.out.2.1; obtain ⟨m1, m2⟩ := er2_cells K3.out.2.2.1))
  go_ret
  exact ⟨rfl, K3.out.2.2.2⟩
set_option maxHeartbeats 1000000 in
theorem few23_yes (l : Int) (a a2 a3 : Option Addr) (n n2 n3 c c2 c3 : Nat) (h1 : n ≤ 130) (h2 : n2 ≤ 6) (h3 : n3 ≤ 6) (h4 : l ≤ 5 ∨ 7 < l) : Ret 8 #[.int .i64 l, .agg #[.slice a n c, .slice a2 n2 c2, .slice a3 n3 c3]] (.bool true) := by
  intro W
  have e1 : (n : Int) ≤ 130 := by omega
  have e2 : (n2 : Int) ≤ 6 := by omega
  have e3 : (n3 : Int) ≤ 6 := by omega
  by_cases h5 : l ≤ 5
  · clear h4
    go_enter Try.func8, Try.ntmps8
    go_wp2
    go_ret
    exact ⟨rfl, by go_grown⟩
  · have h6 : 7 < l := by omega
    clear h4
    go_enter Try.func8, Try.ntmps8
    go_wp2
    go_ret
    exact ⟨rfl, by go_grown⟩
set_option maxHeartbeats 1000000 in
theorem few23_no (l : Int) (a a2 a3 : Option Addr) (n n2 n3 c c2 c3 : Nat) (h : ¬ (n ≤ 130 ∧ n2 ≤ 6 ∧ n3 ≤ 6 ∧ (l ≤ 5 ∨ 7 < l))) : Ret 8 #[.int .i64 l, .agg #[.slice a n c, .slice a2 n2 c2, .slice a3 n3 c3]] (.bool false) := by
  intro W
  by_cases h1 : (n : Int) ≤ 130
  · by_cases h2 : (n2 : Int) ≤ 6
    · by_cases h3 : (n3 : Int) ≤ 6
      · have h5 : ¬ l ≤ 5 := fun e => h ⟨by omega, by omega, by omega, .inl e⟩
        have h6 : ¬ 7 < l := fun e => h ⟨by omega, by omega, by omega, .inr e⟩
        clear h
        go_enter Try.func8, Try.ntmps8
        go_wp2
        go_ret
        exact ⟨rfl, by go_grown⟩
      · clear h
        go_enter Try.func8, Try.ntmps8
        go_wp2
        go_ret
        exact ⟨rfl, by go_grown⟩
    · clear h
      go_enter Try.func8, Try.ntmps8
      go_wp2
      go_ret
      exact ⟨rfl, by go_grown⟩
  · clear h
    go_enter Try.func8, Try.ntmps8
    go_wp2
    go_ret
    exact ⟨rfl, by go_grown⟩
end Go.Proofs.Ytbomgcmmfeahiaa

/- The document's First and Last of layer 15, over the seat's translation. -/
namespace Go.Proofs.Ytbomgcmmfeahiaa
open Go.RowKit
open Cb
open Tw (pm)

/-- A slice that lies in no block that was there. -/
def Fresh (W : World) (a : Option Addr) : Prop := ∀ g off, a = some ⟨g, off, none⟩ → W.heap.size ≤ g
theorem own_fresh {w W : World} {base : Nat} {T : TypeId} {a : Option Addr} {n cap : Nat} {xs : List Value} (h : w.ownsRow base T 2 (.slice a n cap) n xs) (hb : W.heap.size ≤ base) : Fresh W a := by
  rintro g off rfl
  rcases h.2 with ⟨h1, _⟩ | ⟨g', cap', cur, e, hbb, _⟩
  · injection h1 with h2; cases h2
  · injection e with e1 e2 e3
    injection e1 with e4
    injection e4 with e5
    omega
/-- An element in a box, and a bound below which it lies. -/
structure Fs (W w : World) (r : Nat × Nat) : Prop where
  r : El w W.heap.size r.1 r.2
  d : Below W.heap.size W w
  hB : W.heap.size + 1 ≤ w.heap.size
theorem upcN {w w' : World} {B b o : Nat} {v : Value} (hb : Below B w w') (h : w.cell? ⟨b, o, none⟩ = some v) (hl : b < B) : w'.cell? ⟨b, o, none⟩ = some v := by
  rw [hb.cell (p := ⟨b, o, none⟩) hl]; exact h
theorem Fs.upto {W w w' : World} {r : Nat × Nat} (h : Fs W w r) (hb : Below (W.heap.size + 1) w w') : Fs W w' r :=
  ⟨⟨upcN hb h.r.hi (by omega), upcN hb h.r.lo (by omega)⟩, h.d.trans (hb.mono (by omega)), by have := h.hB; have := hb.size; omega⟩
theorem Fs.below {W w w' : World} {r : Nat × Nat} (h : Fs W w r) (hb : Below w.heap.size w w') : Fs W w' r := h.upto (hb.mono h.hB)
theorem Fs.drew {W w : World} {r : Nat × Nat} (h : Fs W w r) : Fs W w.drew r := h.below (Below.refl _ _).drew
/-- An element that lies below W. -/
def AtN (W : World) (b o : Nat) (x : Nat × Nat) : Prop := b < W.heap.size ∧ W.cell? ⟨b, o, none⟩ = some (.int .u64 (x.1 : Int)) ∧ W.cell? ⟨b, o + 1, none⟩ = some (.int .u64 (x.2 : Int))
theorem AtN.up {W w : World} {b o : Nat} {x : Nat × Nat} (h : AtN W b o x) (d : Below W.heap.size W w) : w.cell? ⟨b, o, none⟩ = some (.int .u64 (x.1 : Int)) ∧ w.cell? ⟨b, o + 1, none⟩ = some (.int .u64 (x.2 : Int)) := ⟨upcN d h.2.1 h.1, upcN d h.2.2 h.1⟩
theorem Fs.facts {W w : World} {r x y : Nat × Nat} {b ox oy : Nat} (h : Fs W w r) (X : AtN W b ox x) (Y : AtN W b oy y) :
    w.cell? ⟨W.heap.size, 0, none⟩ = some (.int .u64 (r.1 : Int)) ∧ w.cell? ⟨W.heap.size, 1, none⟩ = some (.int .u64 (r.2 : Int)) ∧ w.cell? ⟨b, ox, none⟩ = some (.int .u64 (x.1 : Int)) ∧ w.cell? ⟨b, ox + 1, none⟩ = some (.int .u64 (x.2 : Int)) ∧ w.cell? ⟨b, oy, none⟩ = some (.int .u64 (y.1 : Int)) ∧ w.cell? ⟨b, oy + 1, none⟩ = some (.int .u64 (y.2 : Int)) :=
  ⟨h.r.hi, h.r.lo, (X.up h.d).1, (X.up h.d).2, (Y.up h.d).1, (Y.up h.d).2⟩
theorem half_take (st gp : Nat) (t : List (Nat × Nat)) (r : Nat × Nat) (j : Nat) (h : j < t.length / 2) : (half st gp t r).take (j + 1) = (half st gp t r).take j ++ [hv st gp t r j] := by
  rw [take_sn _ j (by rw [half_len]; exact h)]
  congr 2
  exact half_at st gp t r h
theorem bind_ref (x y r : Nat × Nat) (hx : lt2 x) : xa (pm (xa (0, 1) r) x) (pm r y) = xa x (pm r (xa x y)) := by
  rw [Tw.pm_comm' (xa (0, 1) r) x, Tw.pm_comm' r y, bind_eq x y r hx]
end Go.Proofs.Ytbomgcmmfeahiaa
