/- The document's First and Last of layer 15, over the seat's translation. -/
import Derived.Test.YtcnbaoijgfaljaaCbG
import Derived.Deep.AppendLies
namespace Go.Proofs.Ytcnbaoijgfaljaa
open Go.RowKit
open Cb
open Tw (pm)

/-- A slice that lies in no block that was there. -/
def Fresh (W : World) (a : Option Addr) : Prop := ∀ g off, a = some ⟨g, off, none⟩ → W.heap.size ≤ g
theorem own_fresh {w W : World} {base : Nat} {T : TypeId} {a : Option Addr} {n cap : Nat} {xs : List Value} (h : w.ownsRow base T 2 (.slice a n cap) n xs) (hb : W.heap.size ≤ base) : Fresh W a := by
  rintro g off rfl
  rcases h.2 with ⟨h1, _⟩ | ⟨g', cap', cur, e, hbb, _⟩
  · injection h1 with h2; cases h2
  · injection e with e1 e2 e3
    injection e1 with e4
    injection e4 with e5
    omega
/-- An element in a box, and a bound below which it lies. -/
structure Fs (W w : World) (r : Nat × Nat) : Prop where
  r : El w W.heap.size r.1 r.2
  d : Below W.heap.size W w
  hB : W.heap.size + 1 ≤ w.heap.size
theorem upcN {w w' : World} {B b o : Nat} {v : Value} (hb : Below B w w') (h : w.cell? ⟨b, o, none⟩ = some v) (hl : b < B) : w'.cell? ⟨b, o, none⟩ = some v := by
  rw [hb.cell (p := ⟨b, o, none⟩) hl]; exact h
theorem Fs.upto {W w w' : World} {r : Nat × Nat} (h : Fs W w r) (hb : Below (W.heap.size + 1) w w') : Fs W w' r :=
  ⟨⟨upcN hb h.r.hi (by omega), upcN hb h.r.lo (by omega)⟩, h.d.trans (hb.mono (by omega)), by have := h.hB; have := hb.size; omega⟩
theorem Fs.below {W w w' : World} {r : Nat × Nat} (h : Fs W w r) (hb : Below w.heap.size w w') : Fs W w' r := h.upto (hb.mono h.hB)
theorem Fs.drew {W w : World} {r : Nat × Nat} (h : Fs W w r) : Fs W w.drew r := h.below (Below.refl _ _).drew
/-- An element that lies below W. -/
def AtN (W : World) (b o : Nat) (x : Nat × Nat) : Prop := b < W.heap.size ∧ W.cell? ⟨b, o, none⟩ = some (.int .u64 (x.1 : Int)) ∧ W.cell? ⟨b, o + 1, none⟩ = some (.int .u64 (x.2 : Int))
theorem AtN.up {W w : World} {b o : Nat} {x : Nat × Nat} (h : AtN W b o x) (d : Below W.heap.size W w) : w.cell? ⟨b, o, none⟩ = some (.int .u64 (x.1 : Int)) ∧ w.cell? ⟨b, o + 1, none⟩ = some (.int .u64 (x.2 : Int)) := ⟨upcN d h.2.1 h.1, upcN d h.2.2 h.1⟩
theorem Fs.facts {W w : World} {r x y : Nat × Nat} {b ox oy : Nat} (h : Fs W w r) (X : AtN W b ox x) (Y : AtN W b oy y) :
    w.cell? ⟨W.heap.size, 0, none⟩ = some (.int .u64 (r.1 : Int)) ∧ w.cell? ⟨W.heap.size, 1, none⟩ = some (.int .u64 (r.2 : Int)) ∧ w.cell? ⟨b, ox, none⟩ = some (.int .u64 (x.1 : Int)) ∧ w.cell? ⟨b, ox + 1, none⟩ = some (.int .u64 (x.2 : Int)) ∧ w.cell? ⟨b, oy, none⟩ = some (.int .u64 (y.1 : Int)) ∧ w.cell? ⟨b, oy + 1, none⟩ = some (.int .u64 (y.2 : Int)) :=
  ⟨h.r.hi, h.r.lo, (X.up h.d).1, (X.up h.d).2, (Y.up h.d).1, (Y.up h.d).2⟩
theorem half_take (st gp : Nat) (t : List (Nat × Nat)) (r : Nat × Nat) (j : Nat) (h : j < t.length / 2) : (half st gp t r).take (j + 1) = (half st gp t r).take j ++ [hv st gp t r j] := by
  rw [take_sn _ j (by rw [half_len]; exact h)]
  congr 2
  exact half_at st gp t r h
theorem bind_ref (x y r : Nat × Nat) (hx : lt2 x) : xa (pm (xa (0, 1) r) x) (pm r y) = xa x (pm r (xa x y)) := by
  rw [Tw.pm_comm' (xa (0, 1) r) x, Tw.pm_comm' r y, bind_eq x y r hx]
set_option maxHeartbeats 6000000 in
set_option maxRecDepth 100000 in
theorem rfirst_any (a : Option Addr) (cap m : Nat) (t : List (Nat × Nat)) (r : Nat × Nat) (hl : t.length = 2 * m) (h1 : t.length ≤ 1000) (ht : ltE t) (hr : lt2 r) (W : World) (hT : ERow W a t) :
    Calls Try.prog 30 #[.slice a t.length cap, .agg #[.int .u64 (r.1 : Int), .int .u64 (r.2 : Int)]] W fun e w' => ∃ a' cap', e = .returned (.slice a' m cap') ∧ Fresh W a' ∧ ERow w' a' (half 2 1 t r) ∧ Below W.heap.size W w' := by
  obtain ⟨i0, hi, hz0, hz1, hz2⟩ := info_relem
  have HI : Hid (Try.prog.info? 32 = some i0 ∧ i0.zero = some (.agg #[.int .u64 0, .int .u64 0]) ∧ i0.size = 2 ∧ i0.bytes = 16) := ⟨hi, hz0, hz1, hz2⟩
  have HL : Hid (t.length = 2 * m ∧ t.length ≤ 1000 ∧ (half 2 1 t r).length = m) := ⟨hl, h1, by rw [half_len]; omega⟩
  have HT : Hid (ERow W a t) := hT
  have HE : Hid (∀ i, lt2 (el t i)) := fun i => ltE_el ht i
  have H0 : Hid (Ret 52 #[] (.agg #[.int .u64 0, .int .u64 1])) := rone
  have H1 := rsum (0, 1) r lt_one hr
  have hm : m ≤ 500 := by omega
  clear hi hz0 hz1 hz2 hT ht hl h1
  go_enter Try.func30, Try.ntmps30
  go_wp2_with fail
  have K : Fs W (W.alloc (Obj.cells #[.int .u64 (r.1 : Int), .int .u64 (r.2 : Int)] 32)) r := ⟨⟨by simp [go_sem], by simp [go_sem]⟩, by go_grown, by simp⟩
  go_loopw [5, 6] (fun v u wr => ∃ j i : Nat, j ≤ m ∧ Hid (i = 2 * j) ∧ u = .int .i64 (i : Int) ∧ wr.ownsRow (W.heap.size + 1) 32 2 v j (flat ((half 2 1 t r).take j)) ∧ Fs W wr r) (fun _ u _ => 1000 - (intOf u).toNat)
  case atStart => exact ⟨0, 0, Nat.zero_le _, (by show _ = _; omega), rfl, ⟨by simp [flat], .inl ⟨rfl, rfl⟩⟩, K⟩
  case round =>
    obtain ⟨j, i, hj, HQ, rfl, hown, K1⟩ := hrel
    clear K
    by_cases hlt : j < m
    · have hI : i < t.length := by have := HQ.out; have := HL.out; omega
      have hJ : i + 1 < t.length := by have := HQ.out; have := HL.out; omega
      obtain ⟨b, o, rfl, hb, x1, x0⟩ := HT.out.cells i hI
      obtain ⟨b2, o2, e, _, y1, y0⟩ := HT.out.cells (i + 1) hJ
      injection e with e
      injection e with e3 e4
      subst e3 e4
      have HX : Hid (AtN W b (o + i * 2) (el t i)) := ⟨hb, x1, x0⟩
      have HY : Hid (AtN W b (o + (i + 1) * 2) (el t (i + 1))) := ⟨hb, y1, y0⟩
      have HN : Hid ((half 2 1 t r).take (j + 1) = (half 2 1 t r).take j ++ [xa (pm (xa (0, 1) r) (el t i)) (pm r (el t (i + 1)))]) := by
        show _ = _
        rw [half_take 2 1 t r j (by have := HL.out; omega), bind_ref _ _ _ (HE.out i)]
        unfold hv
        rw [show 2 * j = i from HQ.out.symm]
      have hx := HE.out i
      have hy := HE.out (i + 1)
      have H2 := rprod (xa (0, 1) r) (el t i) (lt_xa lt_one hr) hx
      have H3 := rprod r (el t (i + 1)) hr hy
      have H4 := rsum (pm (xa (0, 1) r) (el t i)) (pm r (el t (i + 1))) (lt_pm _ _) (lt_pm _ _)
      obtain ⟨J, hJe⟩ : ∃ J, J = i + 1 := ⟨_, rfl⟩
      rw [← hJe] at HY HN hJ hy H3 H4
      have e1 : IntKind.i64.wrap ((i : Int) + 1) = (J : Int) := by rw [IntKind.wrap_i64]; have := HL.out; omega
      have e2 : (J : Int) < (t.length : Int) := by omega
      have e3 : (i : Int) < (t.length : Int) := by omega
      have hi8 : i ≤ 998 := by have := HL.out; have := HQ.out; omega
      clear hJe
      clear x1 x0 y1 y0 HT HE hx hy hr
      generalize el t i = x at *
      generalize el t J = y at *
      generalize xa (pm (xa (0, 1) r) x) (pm r y) = z at *
      generalize pm (xa (0, 1) r) x = z1 at *
      generalize pm r y = z2 at *
      generalize xa (0, 1) r = z3 at *
      have lb : b < W.heap.size + 1 := by omega
      go_wp2_with fail
      obtain ⟨O, hO⟩ : ∃ O : Hid (wr.ownsRow (W.heap.size + 1) 32 2 u5 j (flat ((half 2 1 t r).take j)) ∧ Fs W wr r), True := ⟨⟨hown, K1⟩, trivial⟩
      clear hO
      have F := K1.facts HX.out HY.out
      clear hown K1
      have lB := O.out.2.hB
      go_region_held3 (fun w => w.cell? ⟨W.heap.size, 0, none⟩ = some (.int .u64 (r.1 : Int)) ∧ w.cell? ⟨W.heap.size, 1, none⟩ = some (.int .u64 (r.2 : Int)) ∧ w.cell? ⟨b, o + i * 2, none⟩ = some (.int .u64 (x.1 : Int)) ∧ w.cell? ⟨b, o + i * 2 + 1, none⟩ = some (.int .u64 (x.2 : Int)) ∧ w.cell? ⟨b, o + J * 2, none⟩ = some (.int .u64 (y.1 : Int)) ∧ w.cell? ⟨b, o + J * 2 + 1, none⟩ = some (.int .u64 (y.2 : Int)))
        (first | (go_keep; done) | exact (O.out.2.facts HX.out HY.out))
        (first | (go_at_call 52; refine (H0.out.go _).mono ?_; rintro e w' ⟨rfl, hb'⟩; have O' : Hid (w'.ownsRow (W.heap.size + 1) 32 2 u5 j (flat ((half 2 1 t r).take j)) ∧ Fs W w' r) := (by first | exact ⟨own_below O.out.1 hb', O.out.2.below hb'⟩ | exact ⟨own_below O.out.1.drew hb', O.out.2.drew.below hb'⟩); clear F O hb' lB; have O := O'; clear O'; have lB := O.out.2.hB; have F := O.out.2.facts HX.out HY.out) | (go_at_call_of 13 (#[.agg #[.int .u64 0, .int .u64 1], .agg #[.int .u64 (r.1 : Int), .int .u64 (r.2 : Int)]] : Array Value); refine (H1.go _).mono ?_; rintro e w' ⟨rfl, hb'⟩; have O' : Hid (w'.ownsRow (W.heap.size + 1) 32 2 u5 j (flat ((half 2 1 t r).take j)) ∧ Fs W w' r) := (by first | exact ⟨own_below O.out.1 hb', O.out.2.below hb'⟩ | exact ⟨own_below O.out.1.drew hb', O.out.2.drew.below hb'⟩); clear F O hb' lB; have O := O'; clear O'; have lB := O.out.2.hB; have F := O.out.2.facts HX.out HY.out) | (go_at_call_of 40 (#[.agg #[.int .u64 (z3.1 : Int), .int .u64 (z3.2 : Int)], .agg #[.int .u64 (x.1 : Int), .int .u64 (x.2 : Int)]] : Array Value); refine (H2.go _).mono ?_; rintro e w' ⟨rfl, hb'⟩; have O' : Hid (w'.ownsRow (W.heap.size + 1) 32 2 u5 j (flat ((half 2 1 t r).take j)) ∧ Fs W w' r) := (by first | exact ⟨own_below O.out.1 hb', O.out.2.below hb'⟩ | exact ⟨own_below O.out.1.drew hb', O.out.2.drew.below hb'⟩); clear F O hb' lB; have O := O'; clear O'; have lB := O.out.2.hB; have F := O.out.2.facts HX.out HY.out) | (go_at_call_of 40 (#[.agg #[.int .u64 (r.1 : Int), .int .u64 (r.2 : Int)], .agg #[.int .u64 (y.1 : Int), .int .u64 (y.2 : Int)]] : Array Value); refine (H3.go _).mono ?_; rintro e w' ⟨rfl, hb'⟩; have O' : Hid (w'.ownsRow (W.heap.size + 1) 32 2 u5 j (flat ((half 2 1 t r).take j)) ∧ Fs W w' r) := (by first | exact ⟨own_below O.out.1 hb', O.out.2.below hb'⟩ | exact ⟨own_below O.out.1.drew hb', O.out.2.drew.below hb'⟩); clear F O hb' lB; have O := O'; clear O'; have lB := O.out.2.hB; have F := O.out.2.facts HX.out HY.out) | (go_at_call_of 13 (#[.agg #[.int .u64 (z1.1 : Int), .int .u64 (z1.2 : Int)], .agg #[.int .u64 (z2.1 : Int), .int .u64 (z2.2 : Int)]] : Array Value); refine (H4.go _).mono ?_; rintro e w' ⟨rfl, hb'⟩; have O' : Hid (w'.ownsRow (W.heap.size + 1) 32 2 u5 j (flat ((half 2 1 t r).take j)) ∧ Fs W w' r) := (by first | exact ⟨own_below O.out.1 hb', O.out.2.below hb'⟩ | exact ⟨own_below O.out.1.drew hb', O.out.2.drew.below hb'⟩); clear F O hb' lB; have O := O'; clear O'; have lB := O.out.2.hB; have F := O.out.2.facts HX.out HY.out) | (refine step_append_lies _ (by rfl) _ _ _ (by rfl) (W.heap.size + 1) 32 i0 _ 2 16 Try.underlying37 HI.out.1 HI.out.2.1 HI.out.2.2.1 HI.out.2.2.2 rfl (by omega) u5 j _ (by rfl) (O.out.1.alloc _) ⟨w'.heap.size, 0, none⟩ 1 1 [.int .u64 (z.1 : Int), .int .u64 (z.2 : Int)] (by rfl) (by rfl) (World.news_of_block (cs := #[.int .u64 (z.1 : Int), .int .u64 (z.2 : Int)]) (t := 32) (fr := (0, 0)) (heap_alloc_new w' _)) (by simp [Value.oneCell']) (by omega) (by simp only [maxLen]; omega) (by omega) (by simp; omega) (w'.heap.size + 1) (by simp) ?_; intro gg cap w5 hown5 hgrow hat hlt5; have O' : Hid (w5.ownsRow (W.heap.size + 1) 32 2 (.slice (some ⟨gg, 0, none⟩) (j + 1) cap) (j + 1) (flat ((half 2 1 t r).take j) ++ [.int .u64 (z.1 : Int), .int .u64 (z.2 : Int)]) ∧ Fs W w5 r) := ⟨hown5, (O.out.2.upto ((Below.refl _ _).alloc lB _)).upto ((Below.refl _ _).grown hgrow (by simp; omega) (fun g hg => (O.out.1.lt g hg).1))⟩; clear O hown5 hgrow hat hlt5; have O := O'; clear O'))
      go_wp2
      refine ⟨⟨j + 1, i + 2, hlt, ?_, by simp, ?_, O.out.2⟩, by simp [intOf]; omega⟩
      · show _ = _
        have := HQ.out
        omega
      · rw [HN.out, flat_snoc]
        exact O.out.1
    · obtain rfl : m = j := by omega
      have hle : (half 2 1 t r).length = m := HL.out.2.2
      have hown' : wr.ownsRow (W.heap.size + 1) 32 2 u5 (half 2 1 t r).length (flat (half 2 1 t r)) := by
        have := hown
        rw [List.take_of_length_le (by rw [hle]; exact Nat.le_refl _)] at this
        rw [hle]; exact this
      obtain ⟨a', cap', hv', hE⟩ := own_row hown'
      rw [hle] at hv'
      subst hv'
      have HFr : Hid (Fresh W a') := own_fresh (hle ▸ hown') (by omega)
      have HEr : Hid (ERow wr a' (half 2 1 t r)) := hE
      have HD : Hid (Below W.heap.size W wr) := K1.d
      obtain ⟨J, hJe⟩ : ∃ J, J = i + 1 := ⟨_, rfl⟩
      have e1 : IntKind.i64.wrap ((i : Int) + 1) = (J : Int) := by rw [IntKind.wrap_i64]; have := HL.out; have := HQ.out; omega
      have hc1 : ¬ ((J : Int) < (t.length : Int)) := by have := HQ.out; have := HL.out; omega
      clear hJe
      clear hown hown' hE K1 HT HE hle
      go_wp2
      go_ret
      first | exact ⟨a', cap', rfl, HFr.out, HEr.out, HD.out⟩ | exact ⟨a', ⟨cap', rfl⟩, HFr.out, HEr.out, HD.out⟩
set_option maxHeartbeats 6000000 in
set_option maxRecDepth 100000 in
theorem rlast_any (a : Option Addr) (cap m : Nat) (t : List (Nat × Nat)) (r : Nat × Nat) (hl : t.length = 2 * m) (h1 : t.length ≤ 1000) (ht : ltE t) (hr : lt2 r) (W : World) (hT : ERow W a t) :
    Calls Try.prog 31 #[.slice a t.length cap, .agg #[.int .u64 (r.1 : Int), .int .u64 (r.2 : Int)]] W fun e w' => ∃ a' cap', e = .returned (.slice a' m cap') ∧ Fresh W a' ∧ ERow w' a' (half 1 m t r) ∧ Below W.heap.size W w' := by
  obtain ⟨i0, hi, hz0, hz1, hz2⟩ := info_relem
  have HI : Hid (Try.prog.info? 32 = some i0 ∧ i0.zero = some (.agg #[.int .u64 0, .int .u64 0]) ∧ i0.size = 2 ∧ i0.bytes = 16) := ⟨hi, hz0, hz1, hz2⟩
  have HL : Hid (t.length = 2 * m ∧ t.length ≤ 1000 ∧ (half 1 m t r).length = m) := ⟨hl, h1, by rw [half_len]; omega⟩
  have HT : Hid (ERow W a t) := hT
  have HE : Hid (∀ i, lt2 (el t i)) := fun i => ltE_el ht i
  have H0 : Hid (Ret 52 #[] (.agg #[.int .u64 0, .int .u64 1])) := rone
  have H1 := rsum (0, 1) r lt_one hr
  have hm : m ≤ 500 := by omega
  have hq : (t.length : Int).tdiv 2 = (m : Int) := by rw [Int.tdiv_eq_ediv_of_nonneg (by omega)]; omega
  clear hi hz0 hz1 hz2 hT ht hl h1
  go_enter Try.func31, Try.ntmps31
  go_wp2_with fail
  have K : Fs W (W.alloc (Obj.cells #[.int .u64 (r.1 : Int), .int .u64 (r.2 : Int)] 32)) r := ⟨⟨by simp [go_sem], by simp [go_sem]⟩, by go_grown, by simp⟩
  go_loopw [5, 7] (fun v u wr => ∃ j i : Nat, j ≤ m ∧ Hid (i = j) ∧ u = .int .i64 (i : Int) ∧ wr.ownsRow (W.heap.size + 1) 32 2 v j (flat ((half 1 m t r).take j)) ∧ Fs W wr r) (fun _ u _ => 1000 - (intOf u).toNat)
  case atStart => exact ⟨0, 0, Nat.zero_le _, (by show _ = _; omega), rfl, ⟨by simp [flat], .inl ⟨rfl, rfl⟩⟩, K⟩
  case round =>
    obtain ⟨j, i, hj, HQ, rfl, hown, K1⟩ := hrel
    clear K
    by_cases hlt : j < m
    · have hI : i < t.length := by have := HQ.out; have := HL.out; omega
      have hJ : m + i < t.length := by have := HQ.out; have := HL.out; omega
      obtain ⟨b, o, rfl, hb, x1, x0⟩ := HT.out.cells i hI
      obtain ⟨b2, o2, e, _, y1, y0⟩ := HT.out.cells (m + i) hJ
      injection e with e
      injection e with e3 e4
      subst e3 e4
      have HX : Hid (AtN W b (o + i * 2) (el t i)) := ⟨hb, x1, x0⟩
      have HY : Hid (AtN W b (o + (m + i) * 2) (el t (m + i))) := ⟨hb, y1, y0⟩
      have HN : Hid ((half 1 m t r).take (j + 1) = (half 1 m t r).take j ++ [xa (pm (xa (0, 1) r) (el t i)) (pm r (el t (m + i)))]) := by
        show _ = _
        rw [half_take 1 m t r j (by have := HL.out; omega), bind_ref _ _ _ (HE.out i)]
        unfold hv
        rw [show 1 * j = i by have := HQ.out; omega, show i + m = m + i by omega]
      have hx := HE.out i
      have hy := HE.out (m + i)
      have H2 := rprod (xa (0, 1) r) (el t i) (lt_xa lt_one hr) hx
      have H3 := rprod r (el t (m + i)) hr hy
      have H4 := rsum (pm (xa (0, 1) r) (el t i)) (pm r (el t (m + i))) (lt_pm _ _) (lt_pm _ _)
      obtain ⟨J, hJe⟩ : ∃ J, J = m + i := ⟨_, rfl⟩
      rw [← hJe] at HY HN hJ hy H3 H4
      have e1 : IntKind.i64.wrap ((m : Int) + (i : Int)) = (J : Int) := by rw [IntKind.wrap_i64]; have := HL.out; omega
      have e2 : (J : Int) < (t.length : Int) := by omega
      have e3 : (i : Int) < (t.length : Int) := by omega
      have e4 : (i : Int) < (m : Int) := by have := HQ.out; omega
      have hi8 : i ≤ 998 := by have := HL.out; have := HQ.out; omega
      clear hJe
      clear x1 x0 y1 y0 HT HE hx hy hr
      generalize el t i = x at *
      generalize el t J = y at *
      generalize xa (pm (xa (0, 1) r) x) (pm r y) = z at *
      generalize pm (xa (0, 1) r) x = z1 at *
      generalize pm r y = z2 at *
      generalize xa (0, 1) r = z3 at *
      have lb : b < W.heap.size + 1 := by omega
      go_wp2_with fail
      obtain ⟨O, hO⟩ : ∃ O : Hid (wr.ownsRow (W.heap.size + 1) 32 2 u5 j (flat ((half 1 m t r).take j)) ∧ Fs W wr r), True := ⟨⟨hown, K1⟩, trivial⟩
      clear hO
      have F := K1.facts HX.out HY.out
      clear hown K1
      have lB := O.out.2.hB
      go_region_held3 (fun w => w.cell? ⟨W.heap.size, 0, none⟩ = some (.int .u64 (r.1 : Int)) ∧ w.cell? ⟨W.heap.size, 1, none⟩ = some (.int .u64 (r.2 : Int)) ∧ w.cell? ⟨b, o + i * 2, none⟩ = some (.int .u64 (x.1 : Int)) ∧ w.cell? ⟨b, o + i * 2 + 1, none⟩ = some (.int .u64 (x.2 : Int)) ∧ w.cell? ⟨b, o + J * 2, none⟩ = some (.int .u64 (y.1 : Int)) ∧ w.cell? ⟨b, o + J * 2 + 1, none⟩ = some (.int .u64 (y.2 : Int)))
        (first | (go_keep; done) | exact (O.out.2.facts HX.out HY.out))
        (first | (go_at_call 52; refine (H0.out.go _).mono ?_; rintro e w' ⟨rfl, hb'⟩; have O' : Hid (w'.ownsRow (W.heap.size + 1) 32 2 u5 j (flat ((half 1 m t r).take j)) ∧ Fs W w' r) := (by first | exact ⟨own_below O.out.1 hb', O.out.2.below hb'⟩ | exact ⟨own_below O.out.1.drew hb', O.out.2.drew.below hb'⟩); clear F O hb' lB; have O := O'; clear O'; have lB := O.out.2.hB; have F := O.out.2.facts HX.out HY.out) | (go_at_call_of 13 (#[.agg #[.int .u64 0, .int .u64 1], .agg #[.int .u64 (r.1 : Int), .int .u64 (r.2 : Int)]] : Array Value); refine (H1.go _).mono ?_; rintro e w' ⟨rfl, hb'⟩; have O' : Hid (w'.ownsRow (W.heap.size + 1) 32 2 u5 j (flat ((half 1 m t r).take j)) ∧ Fs W w' r) := (by first | exact ⟨own_below O.out.1 hb', O.out.2.below hb'⟩ | exact ⟨own_below O.out.1.drew hb', O.out.2.drew.below hb'⟩); clear F O hb' lB; have O := O'; clear O'; have lB := O.out.2.hB; have F := O.out.2.facts HX.out HY.out) | (go_at_call_of 40 (#[.agg #[.int .u64 (z3.1 : Int), .int .u64 (z3.2 : Int)], .agg #[.int .u64 (x.1 : Int), .int .u64 (x.2 : Int)]] : Array Value); refine (H2.go _).mono ?_; rintro e w' ⟨rfl, hb'⟩; have O' : Hid (w'.ownsRow (W.heap.size + 1) 32 2 u5 j (flat ((half 1 m t r).take j)) ∧ Fs W w' r) := (by first | exact ⟨own_below O.out.1 hb', O.out.2.below hb'⟩ | exact ⟨own_below O.out.1.drew hb', O.out.2.drew.below hb'⟩); clear F O hb' lB; have O := O'; clear O'; have lB := O.out.2.hB; have F := O.out.2.facts HX.out HY.out) | (go_at_call_of 40 (#[.agg #[.int .u64 (r.1 : Int), .int .u64 (r.2 : Int)], .agg #[.int .u64 (y.1 : Int), .int .u64 (y.2 : Int)]] : Array Value); refine (H3.go _).mono ?_; rintro e w' ⟨rfl, hb'⟩; have O' : Hid (w'.ownsRow (W.heap.size + 1) 32 2 u5 j (flat ((half 1 m t r).take j)) ∧ Fs W w' r) := (by first | exact ⟨own_below O.out.1 hb', O.out.2.below hb'⟩ | exact ⟨own_below O.out.1.drew hb', O.out.2.drew.below hb'⟩); clear F O hb' lB; have O := O'; clear O'; have lB := O.out.2.hB; have F := O.out.2.facts HX.out HY.out) | (go_at_call_of 13 (#[.agg #[.int .u64 (z1.1 : Int), .int .u64 (z1.2 : Int)], .agg #[.int .u64 (z2.1 : Int), .int .u64 (z2.2 : Int)]] : Array Value); refine (H4.go _).mono ?_; rintro e w' ⟨rfl, hb'⟩; have O' : Hid (w'.ownsRow (W.heap.size + 1) 32 2 u5 j (flat ((half 1 m t r).take j)) ∧ Fs W w' r) := (by first | exact ⟨own_below O.out.1 hb', O.out.2.below hb'⟩ | exact ⟨own_below O.out.1.drew hb', O.out.2.drew.below hb'⟩); clear F O hb' lB; have O := O'; clear O'; have lB := O.out.2.hB; have F := O.out.2.facts HX.out HY.out) | (refine step_append_lies _ (by rfl) _ _ _ (by rfl) (W.heap.size + 1) 32 i0 _ 2 16 Try.underlying37 HI.out.1 HI.out.2.1 HI.out.2.2.1 HI.out.2.2.2 rfl (by omega) u5 j _ (by rfl) (O.out.1.alloc _) ⟨w'.heap.size, 0, none⟩ 1 1 [.int .u64 (z.1 : Int), .int .u64 (z.2 : Int)] (by rfl) (by rfl) (World.news_of_block (cs := #[.int .u64 (z.1 : Int), .int .u64 (z.2 : Int)]) (t := 32) (fr := (0, 0)) (heap_alloc_new w' _)) (by simp [Value.oneCell']) (by omega) (by simp only [maxLen]; omega) (by omega) (by simp; omega) (w'.heap.size + 1) (by simp) ?_; intro gg cap w5 hown5 hgrow hat hlt5; have O' : Hid (w5.ownsRow (W.heap.size + 1) 32 2 (.slice (some ⟨gg, 0, none⟩) (j + 1) cap) (j + 1) (flat ((half 1 m t r).take j) ++ [.int .u64 (z.1 : Int), .int .u64 (z.2 : Int)]) ∧ Fs W w5 r) := ⟨hown5, (O.out.2.upto ((Below.refl _ _).alloc lB _)).upto ((Below.refl _ _).grown hgrow (by simp; omega) (fun g hg => (O.out.1.lt g hg).1))⟩; clear O hown5 hgrow hat hlt5; have O := O'; clear O'))
      go_wp2
      refine ⟨⟨j + 1, i + 1, hlt, ?_, by simp, ?_, O.out.2⟩, by simp [intOf]; omega⟩
      · show _ = _
        have := HQ.out
        omega
      · rw [HN.out, flat_snoc]
        exact O.out.1
    · obtain rfl : m = j := by omega
      have hle : (half 1 m t r).length = m := HL.out.2.2
      have hown' : wr.ownsRow (W.heap.size + 1) 32 2 u5 (half 1 m t r).length (flat (half 1 m t r)) := by
        have := hown
        rw [List.take_of_length_le (by rw [hle]; exact Nat.le_refl _)] at this
        rw [hle]; exact this
      obtain ⟨a', cap', hv', hE⟩ := own_row hown'
      rw [hle] at hv'
      subst hv'
      have HFr : Hid (Fresh W a') := own_fresh (hle ▸ hown') (by omega)
      have HEr : Hid (ERow wr a' (half 1 m t r)) := hE
      have HD : Hid (Below W.heap.size W wr) := K1.d
      have hc1 : ¬ ((i : Int) < (m : Int)) := by have := HQ.out; have := HL.out; omega
      clear hown hown' hE K1 HT HE hle
      go_wp2
      go_ret
      first | exact ⟨a', cap', rfl, HFr.out, HEr.out, HD.out⟩ | exact ⟨a', ⟨cap', rfl⟩, HFr.out, HEr.out, HD.out⟩
end Go.Proofs.Ytcnbaoijgfaljaa
