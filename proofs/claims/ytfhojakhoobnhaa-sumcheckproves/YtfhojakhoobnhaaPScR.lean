/- steeplelaw20.awake over the seat's translation: the page's example. -/
import Derived.Test.YtfhojakhoobnhaaScH
import Derived.Test.YtfhojakhoobnhaaPExN
import Derived.Deep.QuietTactic
import Derived.BigQuiet
import Derived.Test.YtfhojakhoobnhaaPCbG
import Derived.Deep.AppendLies
import Derived.Test.YtfhojakhoobnhaaPScB
namespace Go.Proofs.Ytfhojakhoobnhaa
open Go.RowKit
open Cb Ln Sc
open Tw (pm)

theorem sce2 {w : World} {b : Nat} (h1 : w.cell? ⟨b, 0, none⟩ = some (.int .u64 0)) (h2 : w.cell? ⟨b, 1, none⟩ = some (.int .u64 1)) (h3 : w.cell? ⟨b, 2, none⟩ = some (.int .u64 0)) (h4 : w.cell? ⟨b, 3, none⟩ = some (.int .u64 2)) : ERow w (some ⟨b, 0, none⟩) [(0, 1), (0, 2)] := ⟨fun i hi => by
  simp at hi
  have hb := cell_lt h1
  obtain rfl | rfl : i = 0 ∨ i = 1 := by omega
  · exact ⟨b, 0, rfl, hb, h1, h2⟩
  · exact ⟨b, 0, rfl, hb, h3, h4⟩⟩
theorem sce1 {w : World} {b : Nat} (h1 : w.cell? ⟨b, 0, none⟩ = some (.int .u64 0)) (h2 : w.cell? ⟨b, 1, none⟩ = some (.int .u64 3)) : ERow w (some ⟨b, 0, none⟩) [(0, 3)] := ⟨fun i hi => by
  simp at hi
  have hb := cell_lt h1
  subst hi
  exact ⟨b, 0, rfl, hb, h1, h2⟩⟩
theorem sct1 {w : World} {b rb rc : Nat} (h : w.cell? ⟨b, 0, none⟩ = some (.slice (some ⟨rb, 0, none⟩) 2 rc)) (hE : ERow w (some ⟨rb, 0, none⟩) [(0, 1), (0, 2)]) : TRow w (some ⟨b, 0, none⟩) ext := ⟨fun i hi => by
  simp [ext] at hi
  subst hi
  exact ⟨b, 0, _, rc, rfl, cell_lt h, h, hE⟩⟩
theorem sco1 {w : World} {b : Nat} (h0 : w.cell? ⟨b, 0, none⟩ = some (.int .i64 2)) (h1 : w.cell? ⟨b, 1, none⟩ = some (.int .i64 0)) (h2 : w.cell? ⟨b, 2, none⟩ = some (.int .i64 0)) (h3 : w.cell? ⟨b, 3, none⟩ = some (.int .u64 0)) (h4 : w.cell? ⟨b, 4, none⟩ = some (.int .u64 0)) : ORow w (some ⟨b, 0, none⟩) exs := ⟨fun i hi => by
  simp [exs] at hi
  subst hi
  exact ⟨b, 0, rfl, cell_lt h0, h0, h1, h2, h3, h4⟩⟩
set_option maxHeartbeats 4000000 in
set_option maxRecDepth 100000 in
theorem awake20 : Ret 9 #[] (.bool true) := by
  intro W
  have HS : Hid (∀ (w : World) (sb b : Nat), ORow w (some ⟨sb, 0, none⟩) exs → TRow w (some ⟨b, 0, none⟩) ext → Calls Try.prog 20 #[.int .i64 2, .slice (some ⟨sb, 0, none⟩) 1 1, .slice (some ⟨b, 0, none⟩) 1 1] w fun e w' => e = .returned (.tuple #[.agg #[.int .u64 0, .int .u64 3], .int .i64 0]) ∧ Below w.heap.size w w') := fun w sb b h1 h2 => by
    have := ssum_ok ext_fine (some ⟨sb, 0, none⟩) (some ⟨b, 0, none⟩) 1 1 exs_ok (by decide) (by decide) (by decide) ext_lt w h1 h2
    rw [ex_sum] at this
    exact this
  have HP : Hid (∀ (w : World) (sb b rb : Nat), ORow w (some ⟨sb, 0, none⟩) exs → TRow w (some ⟨b, 0, none⟩) ext → ERow w (some ⟨rb, 0, none⟩) [(0, 3)] → Calls Try.prog 16 #[.int .i64 2, .slice (some ⟨sb, 0, none⟩) 1 1, .slice (some ⟨b, 0, none⟩) 1 1, .slice (some ⟨rb, 0, none⟩) 1 1] w fun e w' => ∃ g1 g2, e = .returned (.tuple #[.agg #[.slice (some ⟨g1, 0, none⟩) 1 1, .slice (some ⟨g2, 0, none⟩) 1 1], .int .i64 0]) ∧ TRowC w' (some ⟨g1, 0, none⟩) [[(0, 1), (0, 2)]] ∧ ERow w' (some ⟨g2, 0, none⟩) [(0, 3)] ∧ Below w.heap.size w w') := fun w sb b rb h1 h2 h3 => by
    have := sprove_ok ext_fine (by decide) (some ⟨sb, 0, none⟩) (some ⟨b, 0, none⟩) (some ⟨rb, 0, none⟩) 1 1 1 [(0, 3)] rfl (by intro e he; simp at he; subst he; exact ⟨by decide, by decide⟩) (by intro e he; simp at he; subst he; show ofB _ _ _ = true; decide) exs_ok (by decide) (by decide) (by decide) ext_lt w h1 h2 h3
    rw [ex_rds, ex_end] at this
    exact this
  have HV : Hid (∀ (w : World) (b rb : Nat), TRowC w (some ⟨b, 0, none⟩) [[(0, 1), (0, 2)]] → ERow w (some ⟨rb, 0, none⟩) [(0, 3)] → Calls Try.prog 10 #[.int .i64 2, .int .i64 1, .agg #[.int .u64 0, .int .u64 3], .slice (some ⟨b, 0, none⟩) 1 1, .slice (some ⟨rb, 0, none⟩) 1 1] w fun e w' => e = .returned (.tuple #[.agg #[.int .u64 0, .int .u64 3], .int .i64 0]) ∧ Below w.heap.size w w') := fun w b rb h1 h2 => by
    have := sver 2 1 (0, 3) ⟨by decide, by decide⟩ (some ⟨b, 0, none⟩) (some ⟨rb, 0, none⟩) 1 1 [[(0, 1), (0, 2)]] [(0, 3)] (by decide) (by decide) (by decide) ext_lt (by intro e he; simp at he; subst he; exact ⟨by decide, by decide⟩) w h1 h2
    rw [ex_ver] at this
    exact this
  go_enter Try.func9, Try.ntmps9
  go_wp2_with (first
    | (go_at_call 20; refine (HS.out _ _ _ (sco1 (by simp [go_sem]) (by simp [go_sem]) (by simp [go_sem]) (by simp [go_sem]) (by simp [go_sem])) (sct1 (rb := W.heap.size + 1) (rc := 2) (by simp [go_sem]) (sce2 (by simp [go_sem]) (by simp [go_sem]) (by simp [go_sem]) (by simp [go_sem])))).mono ?_; rintro e w1 ⟨rfl, hb1⟩; have K1 : Hid (ORow w1 (some ⟨W.heap.size, 0, none⟩) exs ∧ Below W.heap.size W w1) := ⟨ORow.below (sco1 (by simp [go_sem]) (by simp [go_sem]) (by simp [go_sem]) (by simp [go_sem]) (by simp [go_sem])) hb1, Below.trans (by go_grown) (hb1.mono (by simp; omega))⟩; clear hb1)
    | (go_at_call 16; refine (HP.out _ _ _ _ ((((K1.out.1.below ((Below.refl _ _).alloc (Nat.le_refl _) _)).below ((Below.refl _ _).alloc (Nat.le_refl _) _)).below ((Below.refl _ _).alloc (Nat.le_refl _) _)).below ((Below.refl _ _).alloc (Nat.le_refl _) _)) (sct1 (rb := w1.heap.size + 1) (rc := 2) (by simp [go_sem]) (sce2 (by simp [go_sem]) (by simp [go_sem]) (by simp [go_sem]) (by simp [go_sem]))) (sce1 (by simp [go_sem]) (by simp [go_sem]))).mono ?_; rintro e w2 ⟨g1, g2, rfl, hT2, hE2, hb2⟩; have K2 : Hid (TRowC w2 (some ⟨g1, 0, none⟩) [[(0, 1), (0, 2)]] ∧ ERow w2 (some ⟨g2, 0, none⟩) [(0, 3)] ∧ El w2 w1.heap.size 0 3 ∧ Below W.heap.size W w2) := ⟨hT2, hE2, El.below ⟨by simp [go_sem], by simp [go_sem]⟩ hb2, K1.out.2.trans (Below.trans (Below.mono (by go_grown) K1.out.2.size) (hb2.mono (by have := K1.out.2.size; simp; omega)))⟩; clear hT2 hE2 hb2 K1; have s1 := K2.out.2.2.1.hi; have s0 := K2.out.2.2.1.lo; have hs : w1.heap.size < w2.heap.size := K2.out.2.2.1.lt)
    | (go_at_call 10; refine (HV.out _ _ _ ((K2.out.1.below ((Below.refl _ _).alloc (Nat.le_refl _) _)).below ((Below.refl _ _).alloc (Nat.le_refl _) _)) (sce1 (by simp [go_sem]) (by simp [go_sem]))).mono ?_; rintro e w3 ⟨rfl, hb3⟩; have D3 : Below w2.heap.size w2 w3 := Below.trans (by go_grown) (hb3.mono (by simp; omega)); have K3 : Hid (ERow w3 (some ⟨g2, 0, none⟩) [(0, 3)] ∧ El w3 w1.heap.size 0 3 ∧ w3.cell? ⟨w2.heap.size, 1, none⟩ = some (.slice (some ⟨g2, 0, none⟩) 1 1) ∧ Below W.heap.size W w3) := ⟨K2.out.2.1.below D3, K2.out.2.2.1.below D3, keepc hb3 (by simp [go_sem]), K2.out.2.2.2.trans (D3.mono K2.out.2.2.2.size)⟩; clear hb3 D3 K2 s1 s0 hs))
  have KF : Hid (Below W.heap.size W (w3.alloc (Obj.cells #[.int .u64 0, .int .u64 3] 24))) := K3.out.2.2.2.alloc K3.out.2.2.2.size _
  have hB : Below w3.heap.size w3 (w3.alloc (Obj.cells #[.int .u64 0, .int .u64 3] 24)) := (Below.refl _ _).alloc (Nat.le_refl _) _
  have s1 := keepc hB K3.out.2.1.hi
  have s0 := keepc hB K3.out.2.1.lo
  have p1 := keepc hB K3.out.2.2.1
  obtain ⟨b', off', e', _, c1, c0⟩ := (K3.out.1.below hB).cells 0 (by decide)
  simp only [Option.some.injEq, Addr.mk.injEq] at e'
  obtain ⟨rfl, rfl, _⟩ := e'
  have v1 : (w3.alloc (Obj.cells #[.int .u64 0, .int .u64 3] 24)).cell? ⟨g2, 0, none⟩ = some (.int .u64 0) := c1
  have v0 : (w3.alloc (Obj.cells #[.int .u64 0, .int .u64 3] 24)).cell? ⟨g2, 1, none⟩ = some (.int .u64 3) := c0
  have q1 : (w3.alloc (Obj.cells #[.int .u64 0, .int .u64 3] 24)).cell? ⟨w3.heap.size, 0, none⟩ = some (.int .u64 0) := by simp [go_sem]
  have q0 : (w3.alloc (Obj.cells #[.int .u64 0, .int .u64 3] 24)).cell? ⟨w3.heap.size, 1, none⟩ = some (.int .u64 3) := by simp [go_sem]
  clear c1 c0 hB K3 HS HP HV
  generalize w3.alloc (Obj.cells #[.int .u64 0, .int .u64 3] 24) = wF at *
  go_quiet (fail)
  go_wp2
  go_ret
  exact ⟨rfl, KF.out.trans ⟨rfl, rfl, rfl, Nat.le_refl _, fun _ _ => rfl⟩⟩
end Go.Proofs.Ytfhojakhoobnhaa

/- The document's First and Last of layer 15, over the seat's translation. -/
namespace Go.Proofs.Ytfhojakhoobnhaa
open Go.RowKit
open Cb
open Tw (pm)

/-- A slice that lies in no block that was there. -/
def Fresh (W : World) (a : Option Addr) : Prop := ∀ g off, a = some ⟨g, off, none⟩ → W.heap.size ≤ g
theorem own_fresh {w W : World} {base : Nat} {T : TypeId} {a : Option Addr} {n cap : Nat} {xs : List Value} (h : w.ownsRow base T 2 (.slice a n cap) n xs) (hb : W.heap.size ≤ base) : Fresh W a := by
  rintro g off rfl
  rcases h.2 with ⟨h1, _⟩ | ⟨g', cap', cur, e, hbb, _⟩
  · injection h1 with h2; cases h2
  · injection e with e1 e2 e3
    injection e1 with e4
    injection e4 with e5
    omega
/-- An element in a box, and a bound below which it lies. -/
structure Fs (W w : World) (r : Nat × Nat) : Prop where
  r : El w W.heap.size r.1 r.2
  d : Below W.heap.size W w
  hB : W.heap.size + 1 ≤ w.heap.size
theorem upcN {w w' : World} {B b o : Nat} {v : Value} (hb : Below B w w') (h : w.cell? ⟨b, o, none⟩ = some v) (hl : b < B) : w'.cell? ⟨b, o, none⟩ = some v := by
  rw [hb.cell (p := ⟨b, o, none⟩) hl]; exact h
theorem Fs.upto {W w w' : World} {r : Nat × Nat} (h : Fs W w r) (hb : Below (W.heap.size + 1) w w') : Fs W w' r :=
  ⟨⟨upcN hb h.r.hi (by omega), upcN hb h.r.lo (by omega)⟩, h.d.trans (hb.mono (by omega)), by have := h.hB; have := hb.size; omega⟩
theorem Fs.below {W w w' : World} {r : Nat × Nat} (h : Fs W w r) (hb : Below w.heap.size w w') : Fs W w' r := h.upto (hb.mono h.hB)
theorem Fs.drew {W w : World} {r : Nat × Nat} (h : Fs W w r) : Fs W w.drew r := h.below (Below.refl _ _).drew
/-- An element that lies below W. -/
def AtN (W : World) (b o : Nat) (x : Nat × Nat) : Prop := b < W.heap.size ∧ W.cell? ⟨b, o, none⟩ = some (.int .u64 (x.1 : Int)) ∧ W.cell? ⟨b, o + 1, none⟩ = some (.int .u64 (x.2 : Int))
theorem AtN.up {W w : World} {b o : Nat} {x : Nat × Nat} (h : AtN W b o x) (d : Below W.heap.size W w) : w.cell? ⟨b, o, none⟩ = some (.int .u64 (x.1 : Int)) ∧ w.cell? ⟨b, o + 1, none⟩ = some (.int .u64 (x.2 : Int)) := ⟨upcN d h.2.1 h.1, upcN d h.2.2 h.1⟩
theorem Fs.facts {W w : World} {r x y : Nat × Nat} {b ox oy : Nat} (h : Fs W w r) (X : AtN W b ox x) (Y : AtN W b oy y) :
    w.cell? ⟨W.heap.size, 0, none⟩ = some (.int .u64 (r.1 : Int)) ∧ w.cell? ⟨W.heap.size, 1, none⟩ = some (.int .u64 (r.2 : Int)) ∧ w.cell? ⟨b, ox, none⟩ = some (.int .u64 (x.1 : Int)) ∧ w.cell? ⟨b, ox + 1, none⟩ = some (.int .u64 (x.2 : Int)) ∧ w.cell? ⟨b, oy, none⟩ = some (.int .u64 (y.1 : Int)) ∧ w.cell? ⟨b, oy + 1, none⟩ = some (.int .u64 (y.2 : Int)) :=
  ⟨h.r.hi, h.r.lo, (X.up h.d).1, (X.up h.d).2, (Y.up h.d).1, (Y.up h.d).2⟩
theorem half_take (st gp : Nat) (t : List (Nat × Nat)) (r : Nat × Nat) (j : Nat) (h : j < t.length / 2) : (half st gp t r).take (j + 1) = (half st gp t r).take j ++ [hv st gp t r j] := by
  rw [take_sn _ j (by rw [half_len]; exact h)]
  congr 2
  exact half_at st gp t r h
theorem bind_ref (x y r : Nat × Nat) (hx : lt2 x) : xa (pm (xa (0, 1) r) x) (pm r y) = xa x (pm r (xa x y)) := by
  rw [Tw.pm_comm' (xa (0, 1) r) x, Tw.pm_comm' r y, bind_eq x y r hx]
end Go.Proofs.Ytfhojakhoobnhaa

/- The contract of steeplelaw09.Refs over the seat's translation: rows of elements as the document has them. -/
namespace Go.Proofs.Ytfhojakhoobnhaa
open Go.RowKit
open Cb Ln Sc
open Tw (pm)

set_option maxHeartbeats 1000000 in
set_option maxRecDepth 100000 in
/-- Elements as the document has them. -/
theorem ref_own (a : Option Addr) (cap : Nat) (es : List (Nat × Nat)) (hn : es.length ≤ 1000) (W : World) (hr : ERow W a es) :
    Calls Try.prog 13 #[.slice a es.length cap] W fun e w' => ∃ a' cap', e = .returned (.slice a' es.length cap') ∧ w'.ownsRow W.heap.size 34 2 (.slice a' es.length cap') es.length (flat es) ∧ Below W.heap.size W w' := by
  have HC : Hid (ERow W a es) := hr
  clear hr
  go_enter Try.func13, Try.ntmps13
  go_wp2_with fail
  go_loopw [3, 4] (fun v u wr => ∃ j : Nat, j ≤ es.length ∧ u = .int .i64 j ∧ wr.ownsRow W.heap.size 34 2 v j (flat (es.take j)) ∧ Below W.heap.size W wr) (fun _ u _ => es.length - (intOf u).toNat)
  case atStart => exact ⟨0, Nat.zero_le _, rfl, ⟨by simp [flat], .inl ⟨rfl, rfl⟩⟩, Below.refl _ _⟩
  case round =>
    obtain ⟨j, hj, rfl, hown, hbw⟩ := hrel
    by_cases hlt : j < es.length
    · obtain ⟨b, off, rfl, hb, c1, c0⟩ := HC.out.cells j hlt
      have d1 : wr.cell? ⟨b, off + j * 2, none⟩ = some (.int .u64 ((es.getD j (0, 0)).1 : Nat)) := by rw [hbw.cell (p := ⟨b, off + j * 2, none⟩) hb]; exact c1
      have d0 : wr.cell? ⟨b, off + j * 2 + 1, none⟩ = some (.int .u64 ((es.getD j (0, 0)).2 : Nat)) := by rw [hbw.cell (p := ⟨b, off + j * 2 + 1, none⟩) hb]; exact c0
      have H : Hid (es.take (j + 1) = es.take j ++ [es.getD j (0, 0)]) := take_sn es j hlt
      obtain ⟨i0, hi, hz0, hz1, hz2⟩ := info_relem
      have HI : Hid (Try.prog.info? 34 = some i0 ∧ i0.zero = some (.agg #[.int .u64 0, .int .u64 0]) ∧ i0.size = 2 ∧ i0.bytes = 16) := ⟨hi, hz0, hz1, hz2⟩
      have HO : Hid (wr.ownsRow W.heap.size 34 2 u3 j (flat (es.take j))) := hown
      have HB : Hid (Below W.heap.size W wr) := hbw
      clear hown c1 c0 hi hz0 hz1 hz2 hbw HC
      generalize es.getD j (0, 0) = x at *
      go_wp2_with (at_builtin; refine wpList_append_own _ rfl _ _ 40 rfl W.heap.size 34 i0 (.agg #[.int .u64 0, .int .u64 0]) 2 16 Try.underlying40 HI.out.1 HI.out.2.1 HI.out.2.2.1 HI.out.2.2.2 rfl (by decide) _ _ _ rfl (own_below HO.out (by go_grown)) ⟨wr.heap.size, 0, none⟩ 1 1 [.int .u64 (x.1 : Int), .int .u64 (x.2 : Int)] rfl rfl (fun p u hu => by rcases p with _ | _ | p <;> simp at hu <;> subst hu <;> simp [go_sem]) (by intro u hu; simp at hu; rcases hu with rfl | rfl <;> rfl) (by simp only [maxLen]; omega) (by omega) (by have := HB.out.size; simp; omega) ?_; intro v' w' hown' hgr _)
      refine ⟨⟨j + 1, hlt, by simp, ?_, ?_⟩, by simp [intOf]; omega⟩
      · rw [H.out, flat_snoc]; exact hown'
      · exact (HB.out.alloc HB.out.size _).grown hgr (by have := HB.out.size; simp; omega) fun k hk => (HO.out.lt k hk).1
    · have hje : j = es.length := by omega
      subst hje
      rw [List.take_of_length_le (Nat.le_refl _)] at hown
      have HB : Hid (Below W.heap.size W wr) := hbw
      obtain ⟨a', cap', hv, _⟩ := own_row hown
      subst hv
      have HE := Hid.mkS hown
      clear hown hbw HC
      go_wp2
      go_ret
      exact ⟨_, _, rfl, HE.out, HB.out⟩
theorem own_far {w w' : World} {base : Nat} {T : TypeId} {s : Nat} {v : Value} {n : Nat} {xs : List Value} {row : Option Nat} (h : w.ownsRow base T s v n xs) (hg : w.grownBy w' row) (hne : ∀ g, v.ownBlock = some g → row ≠ some g) : w'.ownsRow base T s v n xs := by
  refine ⟨h.1, ?_⟩
  rcases h.2 with h1 | ⟨g, cap, cur, e, hb, hh, h2, h3, h4, h5⟩
  · exact .inl h1
  · have hl : g < w.heap.size := by
      rcases Nat.lt_or_ge g w.heap.size with h6 | h6
      · exact h6
      · rw [Array.getElem?_eq_none h6] at hh; cases hh
    refine .inr ⟨g, cap, cur, e, hb, ?_, h2, h3, h4, h5⟩
    rw [hg.block g hl (fun e' => hne g (by rw [e]; rfl) e'.symm)]
    exact hh
theorem own_types {w : World} {b1 b2 : Nat} {T U : TypeId} {s1 s2 : Nat} {v1 v2 : Value} {n1 n2 : Nat} {ys zs : List Value} (h1 : w.ownsRow b1 T s1 v1 n1 ys) (h2 : w.ownsRow b2 U s2 v2 n2 zs) (hn : T ≠ U) : ∀ g, v2.ownBlock = some g → v1.ownBlock ≠ some g := by
  intro g e2 e1
  rcases h1.2 with ⟨h, _⟩ | ⟨g1, _, c1, e, _, hh1, _⟩
  · rw [h] at e1; cases e1
  rcases h2.2 with ⟨h, _⟩ | ⟨g2, _, c2, e', _, hh2, _⟩
  · rw [h] at e2; cases e2
  rw [e] at e1
  rw [e'] at e2
  simp [Value.ownBlock] at e1 e2
  subst e1 e2
  rw [hh1] at hh2
  simp at hh2
  exact hn hh2.2
/-- Rows of the document's elements that were made, one behind the other. -/
def RwO (w : World) (xs : List Value) (j : Nat) (ts : List (List (Nat × Nat))) : Prop := ∀ p, p < j → ∃ v, xs[p]? = some v ∧ w.ownsRow 0 34 2 v (tb ts p).length (flat (tb ts p))
theorem RwO.below {w w' : World} {xs : List Value} {j : Nat} {ts : List (List (Nat × Nat))} (h : RwO w xs j ts) (hb : Below w.heap.size w w') : RwO w' xs j ts := fun p hp => by
  obtain ⟨v, e, h2⟩ := h p hp
  exact ⟨v, e, own_below h2 hb⟩
theorem own_zero {w : World} {base : Nat} {T : TypeId} {s : Nat} {v : Value} {n : Nat} {xs : List Value} (h : w.ownsRow base T s v n xs) : w.ownsRow 0 T s v n xs := by
  refine ⟨h.1, ?_⟩
  rcases h.2 with h1 | ⟨g, cap, cur, e, _, rest⟩
  · exact .inl h1
  · exact .inr ⟨g, cap, cur, e, Nat.zero_le _, rest⟩
theorem info_rrow : ∃ i, Try.prog.info? 40 = some i ∧ i.zero = some (.slice none 0 0) ∧ i.size = 1 ∧ i.bytes = 24 := by
  have h : (Try.prog.info? 40).map (fun i => (i.zero, i.size, i.bytes)) = some (some (.slice none 0 0), 1, 24) := by kernel_rfl
  obtain ⟨i, hi, he⟩ := Option.map_eq_some_iff.1 h
  simp only [Prod.mk.injEq] at he
  exact ⟨i, hi, he.1, he.2.1, he.2.2⟩
theorem RwO.t {w : World} {base : Nat} {T : TypeId} {v : Value} {xs : List Value} {ts : List (List (Nat × Nat))} (h : w.ownsRow base T 1 v ts.length xs) (hr : RwO w xs ts.length ts) : ∃ a cap, v = .slice a ts.length cap ∧ TRow w a ts := by
  rcases h.2 with ⟨h1, h0⟩ | ⟨g, cap, cur, rfl, _⟩
  · refine ⟨none, 0, ?_, ⟨fun i hi => by omega⟩⟩
    rw [h1, h0]
  · refine ⟨_, cap, rfl, ⟨fun i hi => ?_⟩⟩
    have e1 := h.cellAt i (by omega)
    obtain ⟨u, e, ho⟩ := hr i hi
    rw [e] at e1
    obtain ⟨ra, rc, rfl, hE⟩ := own_row ho
    refine ⟨g, 0, ra, rc, rfl, ?_, by rw [Nat.zero_add]; exact e1, hE⟩
    rcases Nat.lt_or_ge g w.heap.size with h2 | h2
    · exact h2
    · simp [World.cell?, Array.getElem?_eq_none h2] at e1
set_option maxHeartbeats 2000000 in
set_option maxRecDepth 100000 in
theorem refs_any (a : Option Addr) (cap : Nat) (ts : List (List (Nat × Nat))) (hn : ts.length ≤ 1000) (hl : ∀ t ∈ ts, t.length ≤ 1000) (W : World) (hT : TRow W a ts) :
    Calls Try.prog 12 #[.slice a ts.length cap] W fun e w' => ∃ a' cap', e = .returned (.slice a' ts.length cap') ∧ TRow w' a' ts ∧ Below W.heap.size W w' := by
  have HT := Hid.mkS hT
  have HLn := Hid.mkS hl
  obtain ⟨i0, hi, hz0, hz1, hz2⟩ := info_rrow
  have HI : Hid (Try.prog.info? 40 = some i0 ∧ i0.zero = some (.slice none 0 0) ∧ i0.size = 1 ∧ i0.bytes = 24) := ⟨hi, hz0, hz1, hz2⟩
  clear hT hl hi hz0 hz1 hz2
  go_enter Try.func12, Try.ntmps12
  go_wp2_with fail
  go_loopw [3, 4] (fun v u wr => ∃ (j : Nat) (xs : List Value), j ≤ ts.length ∧ u = .int .i64 j ∧ Hid (wr.ownsRow W.heap.size 40 1 v j xs ∧ RwO wr xs j ts ∧ Below W.heap.size W wr)) (fun _ u _ => ts.length - (intOf u).toNat)
  case atStart => exact ⟨0, [], Nat.zero_le _, rfl, ⟨⟨by simp, .inl ⟨rfl, rfl⟩⟩, fun p hp => by omega, Below.refl _ _⟩⟩
  case round =>
    obtain ⟨j, xs, hj, rfl, K⟩ := hrel
    by_cases hlt : j < ts.length
    · obtain ⟨b, off, ta, tc, rfl, hb, cb, hEr⟩ := HT.out.cells j hlt
      have db := keepc K.out.2.2 cb
      have HRf : Hid (∀ w, Below W.heap.size W w → Calls Try.prog 13 #[.slice ta (tb ts j).length tc] w fun e w' => ∃ a' cap', e = .returned (.slice a' (tb ts j).length cap') ∧ w'.ownsRow w.heap.size 34 2 (.slice a' (tb ts j).length cap') (tb ts j).length (flat (tb ts j)) ∧ Below w.heap.size w w') := fun w hb => ref_own ta tc (tb ts j) (HLn.out _ (tb_mem hlt)) w (hEr.below hb)
      have j1 : (j : Int) < (ts.length : Int) := by omega
      have j2 : (0 : Int) ≤ (j : Int) := by omega
      clear cb hEr
      go_wp2_with (first
        | (go_at_call 13; refine (HRf.out _ K.out.2.2).mono ?_; rintro e w1 ⟨a1, c1, rfl, own1, hb1⟩; have K1 : Hid (w1.ownsRow W.heap.size 40 1 u3 j xs ∧ RwO w1 xs j ts ∧ Below W.heap.size W w1 ∧ w1.ownsRow 0 34 2 (.slice a1 (tb ts j).length c1) (tb ts j).length (flat (tb ts j))) := ⟨own_below K.out.1 hb1, K.out.2.1.below hb1, K.out.2.2.trans (hb1.mono K.out.2.2.size), own_zero own1⟩; clear own1 hb1 K db)
        | (at_builtin; refine wpList_append_own _ rfl _ _ 38 rfl W.heap.size 40 i0 (.slice none 0 0) 1 24 Try.underlying38 HI.out.1 HI.out.2.1 HI.out.2.2.1 HI.out.2.2.2 rfl (by decide) _ _ _ rfl (own_below K1.out.1 (by go_grown)) ⟨w1.heap.size, 0, none⟩ 1 1 [.slice a1 (tb ts j).length c1] rfl rfl (fun p u hu => by rcases p with _ | p <;> simp at hu <;> subst hu <;> simp [go_sem]) (by intro u hu; simp at hu; subst hu; rfl) (by simp only [maxLen]; omega) (by omega) (by have := K1.out.2.2.1.size; simp; omega) ?_; intro v' w' hown' hgr _))
      have hA := own_below K1.out.1 (w' := w1.alloc (Obj.cells #[.slice a1 (tb ts j).length c1] 40)) ((Below.refl _ _).alloc (Nat.le_refl _) _)
      have hB := own_below K1.out.2.2.2 (w' := w1.alloc (Obj.cells #[.slice a1 (tb ts j).length c1] 40)) ((Below.refl _ _).alloc (Nat.le_refl _) _)
      have hC := K1.out.2.1.below (w' := w1.alloc (Obj.cells #[.slice a1 (tb ts j).length c1] 40)) ((Below.refl _ _).alloc (Nat.le_refl _) _)
      have hxl : xs.length = j := by have := K1.out.1.1; omega
      refine ⟨⟨j + 1, _, hlt, by simp, ⟨hown', fun p hp => ?_, ?_⟩⟩, by simp [intOf]; omega⟩
      · by_cases e : p = j
        · subst e
          exact ⟨_, by rw [← hxl]; simp, own_far hB hgr (own_types hA hB (by decide))⟩
        · obtain ⟨v, e', ho⟩ := hC p (by omega)
          exact ⟨v, by rw [List.getElem?_append_left (by omega)]; exact e', own_far ho hgr (own_types hA ho (by decide))⟩
      · exact (K1.out.2.2.1.alloc K1.out.2.2.1.size _).grown hgr (by have := K1.out.2.2.1.size; simp; omega) fun k hk => (K1.out.1.lt k hk).1
    · obtain rfl : j = ts.length := by omega
      obtain ⟨a', cap', hv, hTr⟩ := RwO.t K.out.1 K.out.2.1
      subst hv
      have HX : Hid (TRow wr a' ts ∧ Below W.heap.size W wr) := ⟨hTr, K.out.2.2⟩
      clear hTr K
      go_wp2
      go_ret
      exact ⟨a', cap', rfl, HX.out.1, HX.out.2⟩
end Go.Proofs.Ytfhojakhoobnhaa
