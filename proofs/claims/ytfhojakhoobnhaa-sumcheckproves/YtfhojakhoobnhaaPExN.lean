/- The contract of steeplelaw16.Ref over the seat's translation: steps as the document has them. -/
import Derived.Test.YtfhojakhoobnhaaExH
import Derived.Deep.AppendLies
import Derived.Test.YtfhojakhoobnhaaExK
import Derived.Test.YtfhojakhoobnhaaPRfF
namespace Go.Proofs.Ytfhojakhoobnhaa
open Go.RowKit

/-- The cells of steps. -/
def sflat (l : List Stp) : List Value := l.flatMap fun o => [.int .i64 o.k, .int .i64 o.a, .int .i64 o.b, .int .u64 (o.v.1 : Int), .int .u64 (o.v.2 : Int)]
theorem sflat_snoc (l : List Stp) (o : Stp) : sflat (l ++ [o]) = sflat l ++ [.int .i64 o.k, .int .i64 o.a, .int .i64 o.b, .int .u64 (o.v.1 : Int), .int .u64 (o.v.2 : Int)] := by simp [sflat]
theorem info_rop : ∃ i, Try.prog.info? 86 = some i ∧ i.zero = some (.agg #[.int .i64 0, .int .i64 0, .int .i64 0, .int .u64 0, .int .u64 0]) ∧ i.size = 5 ∧ i.bytes = 40 := by
  have h : (Try.prog.info? 86).map (fun i => (i.zero, i.size, i.bytes)) = some (some (.agg #[.int .i64 0, .int .i64 0, .int .i64 0, .int .u64 0, .int .u64 0]), 5, 40) := by kernel_rfl
  obtain ⟨i, hi, he⟩ := Option.map_eq_some_iff.1 h
  simp only [Prod.mk.injEq] at he
  exact ⟨i, hi, he.1, he.2.1, he.2.2⟩
set_option maxHeartbeats 8000000 in
set_option maxRecDepth 100000 in
theorem rref_own (sa : Option Addr) (cap : Nat) (l : List Stp) (hm : l.length ≤ 1000) (W : World) (hR : ORow W sa l) :
    Calls Try.prog 15 #[.slice sa l.length cap] W fun e w' => ∃ v, e = .returned v ∧ w'.ownsRow W.heap.size 86 5 v l.length (sflat l) ∧ Below W.heap.size W w' := by
  have HR : Hid (ORow W sa l) := hR
  obtain ⟨i0, hi0, hz0, hz1, hz2⟩ := info_rop
  have HI : Hid (Try.prog.info? 86 = some i0 ∧ i0.zero = some (.agg #[.int .i64 0, .int .i64 0, .int .i64 0, .int .u64 0, .int .u64 0]) ∧ i0.size = 5 ∧ i0.bytes = 40) := ⟨hi0, hz0, hz1, hz2⟩
  clear hR hi0 hz0 hz1 hz2
  go_enter Try.func15, Try.ntmps15
  go_wp2_with fail
  go_loopw [3, 4] (fun s u wr => ∃ i : Nat, i ≤ l.length ∧ u = .int .i64 i ∧ Hid (wr.ownsRow W.heap.size 86 5 s i (sflat (l.take i)) ∧ Below W.heap.size W wr)) (fun _ u _ => l.length - (intOf u).toNat)
  case atStart => exact ⟨0, Nat.zero_le _, rfl, ⟨⟨by simp [sflat], .inl ⟨rfl, rfl⟩⟩, Below.refl _ _⟩⟩
  case round =>
    obtain ⟨i, hil, rfl, O⟩ := hrel
    by_cases hlt : i < l.length
    · obtain ⟨b0, off, rfl, hb0, c0, c1, c2, c3, c4⟩ := HR.out.cells i hlt
      have C0 := keepc O.out.2 c0
      have C1 := keepc O.out.2 c1
      have C2 := keepc O.out.2 c2
      have C3 := keepc O.out.2 c3
      have C4 := keepc O.out.2 c4
      have HN : Hid (sflat (l.take (i + 1)) = sflat (l.take i) ++ [.int .i64 (l.getD i zst).k, .int .i64 (l.getD i zst).a, .int .i64 (l.getD i zst).b, .int .u64 ((l.getD i zst).v.1 : Int), .int .u64 ((l.getD i zst).v.2 : Int)]) := by show _ = _; rw [take_st l i hlt, sflat_snoc]
      have HC : Hid (W.cell? ⟨b0, off + i * 5, none⟩ = some (.int .i64 (l.getD i zst).k) ∧ W.cell? ⟨b0, off + i * 5 + 1, none⟩ = some (.int .i64 (l.getD i zst).a) ∧ W.cell? ⟨b0, off + i * 5 + 2, none⟩ = some (.int .i64 (l.getD i zst).b) ∧ W.cell? ⟨b0, off + i * 5 + 3, none⟩ = some (.int .u64 ((l.getD i zst).v.1 : Int)) ∧ W.cell? ⟨b0, off + i * 5 + 4, none⟩ = some (.int .u64 ((l.getD i zst).v.2 : Int))) := ⟨c0, c1, c2, c3, c4⟩
      have b1 : (i : Int) < (l.length : Int) := by omega
      have b2 : (0 : Int) ≤ (i : Int) := by omega
      clear c0 c1 c2 c3 c4 hb0 HR
      generalize l.getD i zst = o at *
      obtain ⟨k, a, b, v⟩ := o
      dsimp only at *
      have lB : W.heap.size ≤ wr.heap.size := O.out.2.size
      go_wp2_with fail
      have F : _ ∧ _ ∧ _ ∧ _ ∧ _ := ⟨C0, C1, C2, C3, C4⟩
      clear C0 C1 C2 C3 C4
      go_region_held3 (fun w => w.cell? ⟨b0, off + i * 5, none⟩ = some (.int .i64 k) ∧ w.cell? ⟨b0, off + i * 5 + 1, none⟩ = some (.int .i64 a) ∧ w.cell? ⟨b0, off + i * 5 + 2, none⟩ = some (.int .i64 b) ∧ w.cell? ⟨b0, off + i * 5 + 3, none⟩ = some (.int .u64 (v.1 : Int)) ∧ w.cell? ⟨b0, off + i * 5 + 4, none⟩ = some (.int .u64 (v.2 : Int))) (first | (go_keep; done) | exact ⟨keepc O.out.2 HC.out.1, keepc O.out.2 HC.out.2.1, keepc O.out.2 HC.out.2.2.1, keepc O.out.2 HC.out.2.2.2.1, keepc O.out.2 HC.out.2.2.2.2⟩)
        (first | (refine step_append_lies _ (by rfl) _ _ _ (by rfl) W.heap.size 86 i0 _ 5 40 Try.underlying47 HI.out.1 HI.out.2.1 HI.out.2.2.1 HI.out.2.2.2 rfl (by omega) u3 i _ (by rfl) (by first | exact O.out.1.drew.alloc _ | exact O.out.1.alloc _) ⟨wr.heap.size, 0, none⟩ 1 1 [.int .i64 k, .int .i64 a, .int .i64 b, .int .u64 (v.1 : Int), .int .u64 (v.2 : Int)] (by rfl) (by rfl) (by first | exact World.news_of_block (cs := #[.int .i64 k, .int .i64 a, .int .i64 b, .int .u64 (v.1 : Int), .int .u64 (v.2 : Int)]) (t := 86) (fr := (0, 0)) (heap_alloc_new wr.drew _) | exact World.news_of_block (cs := #[.int .i64 k, .int .i64 a, .int .i64 b, .int .u64 (v.1 : Int), .int .u64 (v.2 : Int)]) (t := 86) (fr := (0, 0)) (heap_alloc_new wr _)) (by simp [Value.oneCell']) (by omega) (by simp only [maxLen]; omega) (by omega) (by simp; omega) (wr.heap.size + 1) (by simp) ?_; intro gg cap' w5 hown5 hgrow hat hlt5; have O' : Hid (w5.ownsRow W.heap.size 86 5 (.slice (some ⟨gg, 0, none⟩) (i + 1) cap') (i + 1) (sflat (l.take i) ++ [.int .i64 k, .int .i64 a, .int .i64 b, .int .u64 (v.1 : Int), .int .u64 (v.2 : Int)]) ∧ Below W.heap.size W w5) := ⟨hown5, (by first | exact (O.out.2.drew.alloc lB _).grown hgrow (by simp; omega) (fun g hg => (O.out.1.lt g hg).1) | exact (O.out.2.alloc lB _).grown hgrow (by simp; omega) (fun g hg => (O.out.1.lt g hg).1))⟩; clear O hown5 hgrow hat hlt5; have O := O'; clear O'))
      go_wp2
      refine ⟨⟨i + 1, hlt, by simp, ⟨?_, O.out.2⟩⟩, by simp [intOf]; omega⟩
      rw [HN.out]
      exact O.out.1
    · obtain rfl : i = l.length := by omega
      have HO : Hid (wr.ownsRow W.heap.size 86 5 u3 l.length (sflat l) ∧ Below W.heap.size W wr) := by
        have h := O.out
        rw [List.take_of_length_le (Nat.le_refl _)] at h
        exact h
      clear O HR
      go_wp2
      go_ret
      exact ⟨_, rfl, HO.out.1, HO.out.2⟩
theorem sflat_at (l : List Stp) : ∀ i, i < l.length → ∀ j, j < 5 → (sflat l)[i * 5 + j]? = [Value.int .i64 (l.getD i zst).k, .int .i64 (l.getD i zst).a, .int .i64 (l.getD i zst).b, .int .u64 ((l.getD i zst).v.1 : Int), .int .u64 ((l.getD i zst).v.2 : Int)][j]? := by
  induction l with
  | nil => intro i hi; simp at hi
  | cons o l ih =>
    intro i hi j hj
    have ef : sflat (o :: l) = [.int .i64 o.k, .int .i64 o.a, .int .i64 o.b, .int .u64 (o.v.1 : Int), .int .u64 (o.v.2 : Int)] ++ sflat l := by simp [sflat]
    rw [ef]
    rcases i with _ | i
    · rw [Nat.zero_mul, Nat.zero_add, List.getElem?_append_left (by simpa using hj)]
      rfl
    · have := ih i (by simpa using hi) j hj
      rw [List.getElem?_append_right (by simp; omega), show (i + 1) * 5 + j - [Value.int .i64 o.k, .int .i64 o.a, .int .i64 o.b, .int .u64 (o.v.1 : Int), .int .u64 (o.v.2 : Int)].length = i * 5 + j by simp; omega, this]
      rfl
theorem own_steps {w : World} {base : Nat} {T : TypeId} {s : Value} {l : List Stp} (h : w.ownsRow base T 5 s l.length (sflat l)) : ∃ a cap, s = .slice a l.length cap ∧ ORow w a l := by
  rcases h.2 with ⟨h1, h0⟩ | ⟨g, cap, cur, rfl, _⟩
  · refine ⟨none, 0, ?_, ⟨fun i hi => by omega⟩⟩
    rw [h1, h0]
  · refine ⟨_, cap, rfl, ⟨fun i hi => ?_⟩⟩
    have e0 := h.cellAt (i * 5 + 0) (by omega)
    have e1 := h.cellAt (i * 5 + 1) (by omega)
    have e2 := h.cellAt (i * 5 + 2) (by omega)
    have e3 := h.cellAt (i * 5 + 3) (by omega)
    have e4 := h.cellAt (i * 5 + 4) (by omega)
    rw [sflat_at l i hi 0 (by decide)] at e0
    rw [sflat_at l i hi 1 (by decide)] at e1
    rw [sflat_at l i hi 2 (by decide)] at e2
    rw [sflat_at l i hi 3 (by decide)] at e3
    rw [sflat_at l i hi 4 (by decide)] at e4
    exact ⟨g, 0, rfl, cell_lt e0, by rw [Nat.zero_add]; exact e0, by rw [Nat.zero_add]; exact e1, by rw [Nat.zero_add]; exact e2, by rw [Nat.zero_add]; exact e3, by rw [Nat.zero_add]; exact e4⟩
end Go.Proofs.Ytfhojakhoobnhaa

/- The contracts of steeplelaw16.example and awake over the seat's translation; ExprChecks: the walk of the law. -/
namespace Go.Proofs.Ytfhojakhoobnhaa
open Go.RowKit
open Cb
open Tw (pm)

/-- The page's example. -/
def exl : List Stp := [⟨2, 0, 0, (0, 0)⟩, ⟨2, 1, 0, (0, 0)⟩, ⟨4, 0, 1, (0, 0)⟩, ⟨1, 0, 0, (0, 1)⟩, ⟨3, 2, 3, (0, 0)⟩]
theorem exl_ok : ∀ o ∈ exl, o.ok := by
  intro o ho
  simp [exl] at ho
  rcases ho with rfl | rfl | rfl | rfl | rfl <;> exact ⟨by decide, by decide⟩
theorem ex_chk : chk 1 2 exl = 0 := by decide +kernel
theorem ex_chk7 : chk 7 9223372036854775807 exl = 0 := by decide +kernel
theorem ex_deg : dfun exl 4 = 2 := by decide +kernel
theorem ex_val : vfun [(0, 2), (0, 2)] exl 4 = (0, 2) := by decide +kernel
theorem erow22 {w : World} {b : Nat} (h0 : w.cell? ⟨b, 0, none⟩ = some (.int .u64 0)) (h1 : w.cell? ⟨b, 1, none⟩ = some (.int .u64 2)) (h2 : w.cell? ⟨b, 2, none⟩ = some (.int .u64 0)) (h3 : w.cell? ⟨b, 3, none⟩ = some (.int .u64 2)) : ERow w (some ⟨b, 0, none⟩) [(0, 2), (0, 2)] := ⟨fun i hi => by
  have hi' : i < 2 := hi
  refine ⟨b, 0, rfl, cell_lt h0, ?_⟩
  rw [Nat.zero_add]
  obtain rfl | rfl : i = 0 ∨ i = 1 := by omega
  · exact ⟨h0, h1⟩
  · exact ⟨h2, h3⟩⟩
end Go.Proofs.Ytfhojakhoobnhaa

/- ExprChecks: the walk of the law over the seat's translation. -/
namespace Go.Proofs.Ytfhojakhoobnhaa
open Go.RowKit

theorem uses_snoc (l : List Stp) (i : Nat) (n : Int) (h : i < l.length) : usesB (l.take (i + 1)) n = (usesB (l.take i) n || decide ((l.getD i zst).k = 2 ∧ (l.getD i zst).a = n)) := by
  unfold usesB
  rw [take_st l i h, List.any_append]
  simp
theorem rdeg_last (sa : Option Addr) (cap : Nat) (l : List Stp) (hm : l.length ≤ 1000) (hc : chk 7 9223372036854775807 l = 0) (W : World) (hR : ORow W sa l) :
    Calls Try.prog 50 #[.slice sa l.length cap, .int .i64 ((l.length - 1 : Nat) : Int)] W fun e w' => e = .returned (.int .i64 (dfun l (l.length - 1) : Nat)) ∧ Below W.heap.size W w' := by
  unfold chk at hc
  rw [if_pos (by decide)] at hc
  by_cases h2 : l.length = 0
  · rw [if_pos h2] at hc; exact absurd hc (by decide)
  · rw [if_neg h2] at hc
    by_cases h3 : 200 < l.length
    · rw [if_pos h3] at hc; exact absurd hc (by decide)
    · rw [if_neg h3] at hc
      have h4 := chkF_zero hc (l.length - 1) (by omega)
      have := rdeg_at 7 9223372036854775807 sa cap l (l.length - 1) (by omega) hm h4.1 (hnI_frm (er_hnI h4.2)) W hR
      rw [← dfun_new (by omega), show l.length - 1 + 1 = l.length by omega, List.take_of_length_le (Nat.le_refl _)] at this
      exact this
end Go.Proofs.Ytfhojakhoobnhaa

/- The contract of steepleref16.Value over the seat's translation. -/
namespace Go.Proofs.Ytfhojakhoobnhaa
open Go.RowKit
open Cb
open Tw (pm)

theorem Ew.upto {w w' : World} {B c h l : Nat} (e : Ew w c h l) (hc : c < B) (hb : Below B w w') : Ew w' c h l :=
  ⟨⟨by rw [hb.cell (p := ⟨c, 0, none⟩) hc]; exact e.hi, by rw [hb.cell (p := ⟨c, 1, none⟩) hc]; exact e.lo⟩, by rw [hb.frozen (p := ⟨c, 0, none⟩) hc]; exact e.fhi, by rw [hb.frozen (p := ⟨c, 1, none⟩) hc]; exact e.flo⟩
theorem own_cell2 {w : World} {base : Nat} {T : TypeId} {v : Value} {n : Nat} {es : List (Nat × Nat)} (hn : es.length = n) (h : w.ownsRow base T 2 v n (flat es)) (h0 : 0 < n) : ∃ g cap, v = .slice (some ⟨g, 0, none⟩) n cap ∧ ∀ p, p < n → w.cell? ⟨g, p * 2, none⟩ = some (.int .u64 ((el es p).1 : Int)) ∧ w.cell? ⟨g, p * 2 + 1, none⟩ = some (.int .u64 ((el es p).2 : Int)) := by
  rcases h.2 with ⟨_, h1⟩ | ⟨g, cap, cur, rfl, _⟩
  · omega
  · refine ⟨g, cap, rfl, fun p hp => ?_⟩
    have e1 := h.cellAt (p * 2) (by omega)
    have e0 := h.cellAt (p * 2 + 1) (by omega)
    rw [(flat_at es p (by omega)).1] at e1
    rw [(flat_at es p (by omega)).2] at e0
    exact ⟨e1, e0⟩
/-- An element in its box, above all that lay there. -/
structure Vy (wr w : World) (q : Nat) (v : Nat × Nat) : Prop where
  bx : Ew w q v.1 v.2
  e : Below wr.heap.size wr w
theorem Vy.below {wr w w' : World} {q : Nat} {v : Nat × Nat} (h : Vy wr w q v) (hb : Below w.heap.size w w') : Vy wr w' q v := ⟨h.bx.below hb, h.e.trans (hb.mono h.e.size)⟩
theorem Vy.drew {wr w : World} {q : Nat} {v : Nat × Nat} (h : Vy wr w q v) : Vy wr w.drew q v := h.below (Below.refl _ _).drew
theorem Hid.mkY {p : Prop} (h : p) : Hid p := h
set_option maxHeartbeats 20000000 in
set_option maxRecDepth 100000 in
theorem rval (sa ea : Option Addr) (cap cap2 : Nat) (l : List Stp) (vs : List (Nat × Nat)) (i : Nat) (hi : i < l.length) (hm : l.length ≤ 1000) (hv : ∀ j, j ≤ i → ((l.getD j zst).k = 3 ∨ (l.getD j zst).k = 4) → (0 ≤ (l.getD j zst).a ∧ (l.getD j zst).a < (j : Int)) ∧ (0 ≤ (l.getD j zst).b ∧ (l.getD j zst).b < (j : Int))) (h2 : ∀ j, j ≤ i → (l.getD j zst).k = 2 → 0 ≤ (l.getD j zst).a ∧ (l.getD j zst).a < (vs.length : Int)) (h8 : ∀ j, j ≤ i → ∀ p, lt2 (vfun vs (l.take j) p)) (W : World) (hR : ORow W sa l) (hV : ERow W ea vs) :
    Calls Try.prog 70 #[.slice sa l.length cap, .int .i64 (i : Int), .slice ea vs.length cap2] W fun e w' => e = .returned (.agg #[.int .u64 ((vfun vs (l.take (i + 1)) i).1 : Int), .int .u64 ((vfun vs (l.take (i + 1)) i).2 : Int)]) ∧ Below W.heap.size W w' := by
  have HR : Hid (ORow W sa l) := hR
  have HVv : Hid (ERow W ea vs) := hV
  have HV : Hid (∀ j, j ≤ i → ((l.getD j zst).k = 3 ∨ (l.getD j zst).k = 4) → (0 ≤ (l.getD j zst).a ∧ (l.getD j zst).a < (j : Int)) ∧ (0 ≤ (l.getD j zst).b ∧ (l.getD j zst).b < (j : Int))) := hv
  have H2 : Hid (∀ j, j ≤ i → (l.getD j zst).k = 2 → 0 ≤ (l.getD j zst).a ∧ (l.getD j zst).a < (vs.length : Int)) := h2
  have H8 : Hid (∀ j, j ≤ i → ∀ p, lt2 (vfun vs (l.take j) p)) := h8
  obtain ⟨i0, hi0, hz0, hz1, hz2⟩ := info_relem
  have HI : Hid (Try.prog.info? 34 = some i0 ∧ i0.zero = some (.agg #[.int .u64 0, .int .u64 0]) ∧ i0.size = 2 ∧ i0.bytes = 16) := ⟨hi0, hz0, hz1, hz2⟩
  obtain ⟨y, hy⟩ : ∃ y, y = vfun vs (l.take (i + 1)) i := ⟨_, rfl⟩
  rw [← hy]
  have HY : Hid (y = vfun vs (l.take (i + 1)) i) := hy
  clear hR hv h8 h2 hV hi0 hz0 hz1 hz2 hy
  go_enter Try.func70, Try.ntmps70
  go_wp2_with fail
  go_loopw [7, 8] (fun s u wr => ∃ j : Nat, j ≤ i + 1 ∧ u = .int .i64 j ∧ Hid (wr.ownsRow (W.heap.size + 1) 34 2 s j (flat (vls vs (l.take j))) ∧ Ew wr W.heap.size 0 0 ∧ Below W.heap.size W wr)) (fun _ u _ => i + 1 - (intOf u).toNat)
  case atStart => exact ⟨0, Nat.zero_le _, rfl, ⟨⟨by simp [flat, vls], .inl ⟨rfl, rfl⟩⟩, ⟨⟨by simp [go_sem], by simp [go_sem]⟩, by simp [go_sem], by simp [go_sem]⟩, by go_grown⟩⟩
  case round =>
    obtain ⟨j, hj, rfl, HO⟩ := hrel
    by_cases hlt : j ≤ i
    · obtain ⟨b0, off, rfl, hb0, c0, c1, c2, c3, c4⟩ := HR.out.cells j (by omega)
      have C0 := keepc HO.out.2.2 c0
      have C1 := keepc HO.out.2.2 c1
      have C2 := keepc HO.out.2.2 c2
      have C3 := keepc HO.out.2.2 c3
      have C4 := keepc HO.out.2.2 c4
      have hvj := HV.out j hlt
      have h2j := H2.out j hlt
      have h8j := H8.out j hlt
      have HN : Hid (flat (vls vs (l.take (j + 1))) = flat (vls vs (l.take j)) ++ [.int .u64 ((va (l.getD j zst) (vfun vs (l.take j)) vs).1 : Int), .int .u64 ((va (l.getD j zst) (vfun vs (l.take j)) vs).2 : Int)]) := by
        show _ = _
        rw [take_st l j (by omega), vls_snoc, flat_snoc]; rfl
      have e0 : (vls vs (l.take j)).length = j := by rw [vls_len, List.length_take]; omega
      have jl : (j : Int) < (l.length : Int) := by omega
      have ji : (j : Int) ≤ (i : Int) := by omega
      have j0 : (0 : Int) ≤ (j : Int) := by omega
      have hws : W.heap.size < wr.heap.size := HO.out.2.1.toEl.lt
      clear c0 c1 c2 c3 c4 HR HV H8 H2
      generalize l.getD j zst = o at *
      obtain ⟨k, a, b, v⟩ := o
      dsimp only at *
      by_cases k2 : k = 2
      · subst k2
        obtain ⟨ha0, ha1⟩ := h2j rfl
        obtain ⟨x, rfl⟩ : ∃ x : Nat, a = (x : Int) := ⟨a.toNat, by omega⟩
        obtain ⟨b1, off1, rfl, hb1, d1, d0⟩ := HVv.out.cells x (by omega)
        have D1 := keepc HO.out.2.2 d1
        have D0 := keepc HO.out.2.2 d0
        have HD : Hid (vs.getD x (0, 0) = va ⟨2, (x : Int), b, v⟩ (vfun vs (l.take j)) vs) := by
          show _ = _
          unfold va el
          rw [if_pos rfl, Int.toNat_natCast]
        clear hvj h8j h2j d1 d0 hb1 HVv
        generalize vs.getD x (0, 0) = r at *
        have hbw : b0 < wr.heap.size := cell_lt C0
        have hbw1 : b1 < wr.heap.size := cell_lt D1
        have n1 : ¬ b0 = wr.heap.size := by omega
        have n2 : ¬ b1 = wr.heap.size := by omega
        go_wp2_with (at_builtin; refine wpList_append_own _ rfl _ _ 40 rfl (W.heap.size + 1) 34 i0 (.agg #[.int .u64 0, .int .u64 0]) 2 16 Try.underlying40 HI.out.1 HI.out.2.1 HI.out.2.2.1 HI.out.2.2.2 rfl (by decide) _ _ _ rfl (own_below HO.out.1 (by go_grown)) ⟨wr.heap.size + 1, 0, none⟩ 1 1 [.int .u64 (r.1 : Int), .int .u64 (r.2 : Int)] rfl rfl (fun p u hu => by rcases p with _ | _ | p <;> simp at hu <;> subst hu <;> simp [go_sem]) (by intro u hu; simp at hu; rcases hu with rfl | rfl <;> rfl) (by simp only [maxLen]; omega) (by omega) (by simp; omega) ?_; intro v' w' hown' hgr _)
        have hb9 : Below (W.heap.size + 1) wr w' := Below.grown (by go_grown) hgr (by simp; omega) fun g hg => (HO.out.1.lt g hg).1
        refine ⟨⟨j + 1, by omega, by simp, ⟨?_, HO.out.2.1.upto (by omega) hb9, HO.out.2.2.trans (hb9.mono (by omega))⟩⟩, by simp [intOf]; omega⟩
        rw [HN.out, ← HD.out]
        exact hown'
      · have g2 : (k == 2) = false := by rw [beq_eq_false_iff_ne]; exact k2
        by_cases h34 : k = 3 ∨ k = 4
        · obtain ⟨ha, hb⟩ := hvj h34
          obtain ⟨x, rfl⟩ : ∃ x : Nat, a = (x : Int) := ⟨a.toNat, by omega⟩
          obtain ⟨y', rfl⟩ : ∃ y : Nat, b = (y : Int) := ⟨b.toNat, by omega⟩
          obtain ⟨g, cp, hu7, hcell⟩ := own_cell2 e0 HO.out.1 (by omega)
          subst hu7
          obtain ⟨r1, r2⟩ := hcell x (by omega)
          obtain ⟨s1, s2⟩ := hcell y' (by omega)
          have q1 := h8j x
          have q2 := h8j y'
          have bx : (x : Int) < (j : Int) := by omega
          have bb : (y' : Int) < (j : Int) := by omega
          have bx0 : (0 : Int) ≤ (x : Int) := by omega
          have bb0 : (0 : Int) ≤ (y' : Int) := by omega
          have HG : Hid (va ⟨k, (x : Int), (y' : Int), v⟩ (vfun vs (l.take j)) vs = if k = 3 then xa (el (vls vs (l.take j)) x) (el (vls vs (l.take j)) y') else pm (el (vls vs (l.take j)) x) (el (vls vs (l.take j)) y')) := by
            show _ = _
            unfold va
            dsimp only
            rw [if_neg k2, Int.toNat_natCast, Int.toNat_natCast]
            by_cases h3 : k = 3
            · rw [if_pos h3, if_pos h3]; rfl
            · rw [if_neg h3, if_neg h3, if_pos (by omega)]; rfl
          unfold vfun at q1 q2
          clear hvj h8j hcell ha hb h2j HVv
          generalize el (vls vs (l.take j)) x = dx at *
          generalize el (vls vs (l.take j)) y' = dy at *
          have A1 := Hid.mkY (radd _ _ _ _ q1.1 q1.2 q2.1 q2.2)
          have A2 := Hid.mkY (rproduct_any _ _ _ _ q1.1 q1.2 q2.1 q2.2)
          have hbw : b0 < wr.heap.size := cell_lt C0
          have hgw : g < wr.heap.size := cell_lt r1
          have HC : Hid (wr.cell? ⟨b0, off + j * 5, none⟩ = some (.int .i64 k) ∧ wr.cell? ⟨b0, off + j * 5 + 1, none⟩ = some (.int .i64 (x : Int)) ∧ wr.cell? ⟨b0, off + j * 5 + 2, none⟩ = some (.int .i64 (y' : Int)) ∧ wr.cell? ⟨g, x * 2, none⟩ = some (.int .u64 (dx.1 : Int)) ∧ wr.cell? ⟨g, x * 2 + 1, none⟩ = some (.int .u64 (dx.2 : Int)) ∧ wr.cell? ⟨g, y' * 2, none⟩ = some (.int .u64 (dy.1 : Int)) ∧ wr.cell? ⟨g, y' * 2 + 1, none⟩ = some (.int .u64 (dy.2 : Int))) := ⟨C0, C1, C2, r1, r2, s1, s2⟩
          have K : Hid (Vy wr (wr.alloc (Obj.cells #[.int .u64 (v.1 : Int), .int .u64 (v.2 : Int)] 34)) wr.heap.size v) := ⟨⟨⟨by simp [go_sem], by simp [go_sem]⟩, by simp [go_sem], by simp [go_sem]⟩, by go_grown⟩
          have n1 : ¬ b0 = wr.heap.size := by omega
          have n2 : ¬ g = wr.heap.size := by omega
          clear r1 r2 s1 s2 q1 q2
          by_cases h3 : k = 3
          · subst h3
            have HD : Hid ((dx.1 ^^^ dy.1, dx.2 ^^^ dy.2) = va ⟨3, (x : Int), (y' : Int), v⟩ (vfun vs (l.take j)) vs) := by show _ = _; rw [HG.out, if_pos rfl]; rfl
            clear HG h34 A2
            generalize (dx.1 ^^^ dy.1) = z1 at *
            generalize (dx.2 ^^^ dy.2) = z2 at *
            go_wp2_with fail
            clear C0 C1 C2 C3 C4
            generalize (wr.alloc (Obj.cells #[.int .u64 (v.1 : Int), .int .u64 (v.2 : Int)] 34)) = w3 at *
            have F : _ ∧ _ ∧ _ ∧ _ ∧ _ ∧ _ ∧ _ := ⟨keepc K.out.e HC.out.1, keepc K.out.e HC.out.2.1, keepc K.out.e HC.out.2.2.1, keepc K.out.e HC.out.2.2.2.1, keepc K.out.e HC.out.2.2.2.2.1, keepc K.out.e HC.out.2.2.2.2.2.1, keepc K.out.e HC.out.2.2.2.2.2.2⟩
            obtain ⟨⟨t1, t2⟩, t3, t4⟩ := K.out.bx
            go_region_held3 (fun w => w.cell? ⟨b0, off + j * 5, none⟩ = some (.int .i64 3) ∧ w.cell? ⟨b0, off + j * 5 + 1, none⟩ = some (.int .i64 (x : Int)) ∧ w.cell? ⟨b0, off + j * 5 + 2, none⟩ = some (.int .i64 (y' : Int)) ∧ w.cell? ⟨g, x * 2, none⟩ = some (.int .u64 (dx.1 : Int)) ∧ w.cell? ⟨g, x * 2 + 1, none⟩ = some (.int .u64 (dx.2 : Int)) ∧ w.cell? ⟨g, y' * 2, none⟩ = some (.int .u64 (dy.1 : Int)) ∧ w.cell? ⟨g, y' * 2 + 1, none⟩ = some (.int .u64 (dy.2 : Int))) (first | (go_keep; done) | (obtain ⟨f1, f2, f3, f4, f5, f6, f7⟩ := F; refine ⟨?_, ?_, ?_, ?_, ?_, ?_, ?_⟩ <;> simp [go_sem, *])) (first | (go_at_call 42; refine (A1.out.go _).mono ?_; rintro e w4 ⟨rfl, hb4⟩; have K' : Hid (Vy wr w4 wr.heap.size v) := Vy.below (w' := w4) (by first | exact K.out | exact K.out.drew) hb4; clear F K hb4 t1 t2 t3 t4; have K := K'; clear K'; have F : _ ∧ _ ∧ _ ∧ _ ∧ _ ∧ _ ∧ _ := ⟨keepc K.out.e HC.out.1, keepc K.out.e HC.out.2.1, keepc K.out.e HC.out.2.2.1, keepc K.out.e HC.out.2.2.2.1, keepc K.out.e HC.out.2.2.2.2.1, keepc K.out.e HC.out.2.2.2.2.2.1, keepc K.out.e HC.out.2.2.2.2.2.2⟩; obtain ⟨⟨t1, t2⟩, t3, t4⟩ := K.out.bx))
            obtain ⟨f1, f2, f3, f4, f5, f6, f7⟩ := F
            go_wp2_with (at_builtin; refine wpList_append_own _ rfl _ _ 40 rfl (W.heap.size + 1) 34 i0 (.agg #[.int .u64 0, .int .u64 0]) 2 16 Try.underlying40 HI.out.1 HI.out.2.1 HI.out.2.2.1 HI.out.2.2.2 rfl (by decide) _ _ _ rfl (own_below HO.out.1 (((K.out.e.setCell (Nat.le_refl _) _).setCell (Nat.le_refl _) _).alloc (by have := K.out.e.size; simp; omega) _)) ⟨w4.heap.size, 0, none⟩ 1 1 [.int .u64 (z1 : Int), .int .u64 (z2 : Int)] rfl rfl (fun p u hu => by rcases p with _ | _ | p <;> simp at hu <;> subst hu <;> simp [go_sem]) (by intro u hu; simp at hu; rcases hu with rfl | rfl <;> rfl) (by simp only [maxLen]; omega) (by omega) (by have := K.out.e.size; simp; omega) ?_; intro v' w' hown' hgr _)
            have hb9 : Below (W.heap.size + 1) wr w' := Below.grown ((((K.out.e.mono (by omega)).setCell (by show _ ≤ wr.heap.size; omega) _).setCell (by show _ ≤ wr.heap.size; omega) _).alloc (by have := K.out.e.size; simp; omega) _) hgr (by have := K.out.e.size; simp; omega) fun g hg => (HO.out.1.lt g hg).1
            refine ⟨⟨j + 1, by omega, by simp, ⟨?_, HO.out.2.1.upto (by omega) hb9, HO.out.2.2.trans (hb9.mono (by omega))⟩⟩, by simp [intOf]; omega⟩
            rw [HN.out, ← HD.out]
            exact hown'
          · have g3 : (k == 3) = false := by rw [beq_eq_false_iff_ne]; exact h3
            have h4 : k = 4 := by omega
            subst h4
            have HD : Hid ((Tw.pmh dx.1 dx.2 dy.1 dy.2, Tw.pml dx.1 dx.2 dy.1 dy.2) = va ⟨4, (x : Int), (y' : Int), v⟩ (vfun vs (l.take j)) vs) := by show _ = _; rw [HG.out, if_neg h3]; rfl
            clear HG h34 A1
            generalize Tw.pmh dx.1 dx.2 dy.1 dy.2 = z1 at *
            generalize Tw.pml dx.1 dx.2 dy.1 dy.2 = z2 at *
            go_wp2_with fail
            clear C0 C1 C2 C3 C4
            generalize (wr.alloc (Obj.cells #[.int .u64 (v.1 : Int), .int .u64 (v.2 : Int)] 34)) = w3 at *
            have F : _ ∧ _ ∧ _ ∧ _ ∧ _ ∧ _ ∧ _ := ⟨keepc K.out.e HC.out.1, keepc K.out.e HC.out.2.1, keepc K.out.e HC.out.2.2.1, keepc K.out.e HC.out.2.2.2.1, keepc K.out.e HC.out.2.2.2.2.1, keepc K.out.e HC.out.2.2.2.2.2.1, keepc K.out.e HC.out.2.2.2.2.2.2⟩
            obtain ⟨⟨t1, t2⟩, t3, t4⟩ := K.out.bx
            go_region_held3 (fun w => w.cell? ⟨b0, off + j * 5, none⟩ = some (.int .i64 4) ∧ w.cell? ⟨b0, off + j * 5 + 1, none⟩ = some (.int .i64 (x : Int)) ∧ w.cell? ⟨b0, off + j * 5 + 2, none⟩ = some (.int .i64 (y' : Int)) ∧ w.cell? ⟨g, x * 2, none⟩ = some (.int .u64 (dx.1 : Int)) ∧ w.cell? ⟨g, x * 2 + 1, none⟩ = some (.int .u64 (dx.2 : Int)) ∧ w.cell? ⟨g, y' * 2, none⟩ = some (.int .u64 (dy.1 : Int)) ∧ w.cell? ⟨g, y' * 2 + 1, none⟩ = some (.int .u64 (dy.2 : Int))) (first | (go_keep; done) | (obtain ⟨f1, f2, f3, f4, f5, f6, f7⟩ := F; refine ⟨?_, ?_, ?_, ?_, ?_, ?_, ?_⟩ <;> simp [go_sem, *])) (first | (go_at_call 35; refine (A2.out.go _).mono ?_; rintro e w4 ⟨rfl, hb4⟩; have K' : Hid (Vy wr w4 wr.heap.size v) := Vy.below (w' := w4) (by first | exact K.out | exact K.out.drew) hb4; clear F K hb4 t1 t2 t3 t4; have K := K'; clear K'; have F : _ ∧ _ ∧ _ ∧ _ ∧ _ ∧ _ ∧ _ := ⟨keepc K.out.e HC.out.1, keepc K.out.e HC.out.2.1, keepc K.out.e HC.out.2.2.1, keepc K.out.e HC.out.2.2.2.1, keepc K.out.e HC.out.2.2.2.2.1, keepc K.out.e HC.out.2.2.2.2.2.1, keepc K.out.e HC.out.2.2.2.2.2.2⟩; obtain ⟨⟨t1, t2⟩, t3, t4⟩ := K.out.bx))
            go_wp2_with (at_builtin; refine wpList_append_own _ rfl _ _ 40 rfl (W.heap.size + 1) 34 i0 (.agg #[.int .u64 0, .int .u64 0]) 2 16 Try.underlying40 HI.out.1 HI.out.2.1 HI.out.2.2.1 HI.out.2.2.2 rfl (by decide) _ _ _ rfl (own_below HO.out.1 (((K.out.e.setCell (Nat.le_refl _) _).setCell (Nat.le_refl _) _).alloc (by have := K.out.e.size; simp; omega) _)) ⟨w4.heap.size, 0, none⟩ 1 1 [.int .u64 (z1 : Int), .int .u64 (z2 : Int)] rfl rfl (fun p u hu => by rcases p with _ | _ | p <;> simp at hu <;> subst hu <;> simp [go_sem]) (by intro u hu; simp at hu; rcases hu with rfl | rfl <;> rfl) (by simp only [maxLen]; omega) (by omega) (by have := K.out.e.size; simp; omega) ?_; intro v' w' hown' hgr _)
            have hb9 : Below (W.heap.size + 1) wr w' := Below.grown ((((K.out.e.mono (by omega)).setCell (by show _ ≤ wr.heap.size; omega) _).setCell (by show _ ≤ wr.heap.size; omega) _).alloc (by have := K.out.e.size; simp; omega) _) hgr (by have := K.out.e.size; simp; omega) fun g hg => (HO.out.1.lt g hg).1
            refine ⟨⟨j + 1, by omega, by simp, ⟨?_, HO.out.2.1.upto (by omega) hb9, HO.out.2.2.trans (hb9.mono (by omega))⟩⟩, by simp [intOf]; omega⟩
            rw [HN.out, ← HD.out]
            exact hown'
        · have g3 : (k == 3) = false := by rw [beq_eq_false_iff_ne]; exact fun h => h34 (.inl h)
          have g4 : (k == 4) = false := by rw [beq_eq_false_iff_ne]; exact fun h => h34 (.inr h)
          have HD : Hid (v = va ⟨k, a, b, v⟩ (vfun vs (l.take j)) vs) := by
            show _ = _
            unfold va
            rw [if_neg k2, if_neg (fun h => h34 (.inl h)), if_neg (fun h => h34 (.inr h))]
          have hbw : b0 < wr.heap.size := cell_lt C0
          have n1 : ¬ b0 = wr.heap.size := by omega
          clear hvj h8j h2j HVv h34 k2
          go_wp2_with (at_builtin; refine wpList_append_own _ rfl _ _ 40 rfl (W.heap.size + 1) 34 i0 (.agg #[.int .u64 0, .int .u64 0]) 2 16 Try.underlying40 HI.out.1 HI.out.2.1 HI.out.2.2.1 HI.out.2.2.2 rfl (by decide) _ _ _ rfl (own_below HO.out.1 (by go_grown)) ⟨wr.heap.size + 1, 0, none⟩ 1 1 [.int .u64 (v.1 : Int), .int .u64 (v.2 : Int)] rfl rfl (fun p u hu => by rcases p with _ | _ | p <;> simp at hu <;> subst hu <;> simp [go_sem]) (by intro u hu; simp at hu; rcases hu with rfl | rfl <;> rfl) (by simp only [maxLen]; omega) (by omega) (by simp; omega) ?_; intro v' w' hown' hgr _)
          have hb9 : Below (W.heap.size + 1) wr w' := Below.grown (by go_grown) hgr (by simp; omega) fun g hg => (HO.out.1.lt g hg).1
          refine ⟨⟨j + 1, by omega, by simp, ⟨?_, HO.out.2.1.upto (by omega) hb9, HO.out.2.2.trans (hb9.mono (by omega))⟩⟩, by simp [intOf]; omega⟩
          rw [HN.out, ← HD.out]
          exact hown'
    · obtain rfl : j = i + 1 := by omega
      have e0 : (vls vs (l.take (i + 1))).length = i + 1 := by rw [vls_len, List.length_take]; omega
      obtain ⟨g, cp, hu7, hcell⟩ := own_cell2 e0 HO.out.1 (by omega)
      subst hu7
      obtain ⟨r1, r2⟩ := hcell i (by omega)
      have hyy : el (vls vs (l.take (i + 1))) i = y := HY.out.symm
      rw [hyy] at r1 r2
      obtain ⟨⟨t1, t2⟩, t3, t4⟩ := HO.out.2.1
      have HD : Hid (Below W.heap.size W wr) := HO.out.2.2
      have b1 : (i : Int) < ((i + 1 : Nat) : Int) := by omega
      have b2 : (0 : Int) ≤ (i : Int) := by omega
      clear HO hcell hyy HR HV H2 H8 HVv HY e0
      go_wp2_with fail
      refine bodyPost_ret (v := .agg #[.int .u64 (y.1 : Int), .int .u64 (y.2 : Int)]) (by simp [results, Try.results70, go_sem, *]) rfl ⟨rfl, ?_⟩
      exact (HD.out.setCell (by simp) _).setCell (by simp) _
end Go.Proofs.Ytfhojakhoobnhaa
