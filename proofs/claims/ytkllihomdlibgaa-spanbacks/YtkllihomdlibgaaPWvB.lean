/- The document's products and powers, over the seat's translation. -/
import Derived.Test.YtkllihomdlibgaaPRfA
import Derived.Test.YtkllihomdlibgaaPSlA
import Derived.Test.YtkllihomdlibgaaTwBl
import Derived.Deep.OwnRows
import Derived.BigQuiet
import Derived.Test.YtkllihomdlibgaaTwM
namespace Go.Proofs.Ytkllihomdlibgaa
open Go.RowKit

theorem Below.set2 {B p : Nat} {W w : World} (h : Below B W w) (hp : B ≤ p) (u v : Value) : Below B W ((w.setCell ⟨p, 0, none⟩ u).setCell ⟨p, 1, none⟩ v) := (h.setCell hp _).setCell hp _
/-- What lies in memory while the product is reckoned. -/
structure Pst (W w : World) (ah al bh bl oh ol : Nat) : Prop where
  a : Ew w W.heap.size ah al
  b : Ew w (W.heap.size + 1) bh bl
  r : Ew w (W.heap.size + 1 + 1) 0 0
  o : Ew w (W.heap.size + 1 + 1 + 1) oh ol
  d : Below W.heap.size W w
theorem Pst.below {W w w' : World} {ah al bh bl oh ol : Nat} (h : Pst W w ah al bh bl oh ol) (hb : Below w.heap.size w w') : Pst W w' ah al bh bl oh ol :=
  ⟨h.a.below hb, h.b.below hb, h.r.below hb, h.o.below hb, h.d.trans (hb.mono h.d.size)⟩
theorem Pst.alloc {W w : World} {ah al bh bl oh ol : Nat} (h : Pst W w ah al bh bl oh ol) (o : Obj) : Pst W (w.alloc o) ah al bh bl oh ol := h.below ((Below.refl _ _).alloc (Nat.le_refl _) o)
theorem Pst.other {W w : World} {ah al bh bl oh ol p : Nat} (h : Pst W w ah al bh bl oh ol) (hp : W.heap.size + 1 + 1 + 1 < p) (u v : Value) : Pst W ((w.setCell ⟨p, 0, none⟩ u).setCell ⟨p, 1, none⟩ v) ah al bh bl oh ol :=
  ⟨h.a.other (by omega) _ _, h.b.other (by omega) _ _, h.r.other (by omega) _ _, h.o.other (by omega) _ _, Below.set2 h.d (by omega) _ _⟩
theorem Pst.put {W w : World} {ah al bh bl oh ol : Nat} (h : Pst W w ah al bh bl oh ol) (u v : Nat) : Pst W ((w.setCell ⟨W.heap.size + 1 + 1 + 1, 0, none⟩ (.int .u64 (u : Int))).setCell ⟨W.heap.size + 1 + 1 + 1, 1, none⟩ (.int .u64 (v : Int))) ah al bh bl u v :=
  ⟨h.a.other (by omega) _ _, h.b.other (by omega) _ _, h.r.other (by omega) _ _, h.o.set _ _, Below.set2 h.d (by omega) _ _⟩
theorem bit_i64 (n j : Nat) (hn : n < 128) : bits .and .i64 ((n : Int) / 2 ^ j) 1 = ((n / 2 ^ j % 2 : Nat) : Int) := by
  have h1 : n / 2 ^ j < 128 := Nat.lt_of_le_of_lt (Nat.div_le_self _ _) hn
  have h2 : (n : Int) / 2 ^ j = ((n / 2 ^ j : Nat) : Int) := by rw [Int.natCast_ediv, Int.natCast_pow]; rfl
  rw [h2]
  have H : ∀ m : Nat, m < 128 → bits .and .i64 (m : Int) 1 = ((m % 2 : Nat) : Int) := by decide +kernel
  exact H _ h1

/-- The bit n of a pair, as a number. -/
def bitN (h l n : Nat) : Nat := if n < 64 then l / 2 ^ n % 2 else h / 2 ^ (n - 64) % 2
theorem bitN_has (h l n : Nat) : bitN h l n = 1 ↔ hasB h l n = true := by
  unfold bitN hasB
  by_cases h1 : n < 64
  · rw [if_pos h1, if_pos h1, Nat.testBit_eq_decide_div_mod_eq]; simp
  · rw [if_neg h1, if_neg h1, Nat.testBit_eq_decide_div_mod_eq]; simp
theorem of_bits (k h l : Nat) (hk : k < 8) (hh : h < 2 ^ 64) (hl : l < 2 ^ 64) : (∀ n : Nat, 2 ^ k ≤ n → n < 128 → bitN h l n ≠ 1) ↔ (k = 7 ∨ (h = 0 ∧ l < 2 ^ 2 ^ k)) := by
  constructor
  · intro H
    by_cases h7 : k = 7
    · exact .inl h7
    · have hp : 2 ^ k ≤ 64 := Nat.pow_le_pow_right (n := 2) (by decide) (show k ≤ 6 by omega)
      right
      have H' : ∀ n : Nat, 2 ^ k ≤ n → n < 128 → hasB h l n = false := fun n h1 h2 => by
        have := H n h1 h2
        rw [Ne, bitN_has] at this
        simpa using this
      refine ⟨Nat.eq_of_testBit_eq fun i => ?_, Nat.lt_pow_two_of_testBit _ fun i hi => ?_⟩
      · rw [Nat.zero_testBit]
        by_cases hi : i < 64
        · have := H' (64 + i) (by omega) (by omega)
          unfold hasB at this
          rw [if_neg (by omega), show 64 + i - 64 = i by omega] at this
          exact this
        · exact Nat.testBit_lt_two_pow (Nat.lt_of_lt_of_le hh (Nat.pow_le_pow_right (by decide) (by omega)))
      · by_cases hi2 : i < 64
        · have := H' i hi (by omega)
          unfold hasB at this
          rw [if_pos hi2] at this
          exact this
        · exact Nat.testBit_lt_two_pow (Nat.lt_of_lt_of_le hl (Nat.pow_le_pow_right (by decide) (by omega)))
  · rintro (rfl | ⟨rfl, h2⟩) n h3 h4
    · omega
    · unfold bitN
      by_cases h5 : n < 64
      · rw [if_pos h5, Nat.div_eq_of_lt (Nat.lt_of_lt_of_le h2 (Nat.pow_le_pow_right (by decide) h3))]; decide
      · rw [if_neg h5, Nat.zero_div]; decide
end Go.Proofs.Ytkllihomdlibgaa

/- The document's side of layer 15 over the seat's translation: Log, one, Weight, Value. -/
namespace Go.Proofs.Ytkllihomdlibgaa
open Go.RowKit
open Cb
open Tw (pm)

theorem wtf_snoc : ∀ (p : List (Nat × Nat)) (o x : Nat × Nat) (n : Nat), wtf o (p ++ [x]) n = pm (wtf o p n) (fac x (n / 2 ^ p.length))
  | [], o, x, n => by simp [wtf]
  | y :: p, o, x, n => by
    show wtf (pm o (fac y n)) (p ++ [x]) (n / 2) = pm (wtf (pm o (fac y n)) p (n / 2)) (fac x (n / 2 ^ (p.length + 1)))
    rw [wtf_snoc p, Nat.div_div_eq_div_mul, Nat.pow_succ, Nat.mul_comm 2]
/-- A room, and an element that is worked on. -/
structure Wst (W w : World) (q : Nat) (o : Nat × Nat) : Prop where
  r : Ew w W.heap.size 0 0
  o : Ew w q o.1 o.2
  d : Below W.heap.size W w
theorem Wst.below {W w w' : World} {q : Nat} {o : Nat × Nat} (h : Wst W w q o) (hb : Below w.heap.size w w') : Wst W w' q o := ⟨h.r.below hb, h.o.below hb, h.d.trans (hb.mono h.d.size)⟩
theorem Wst.drew {W w : World} {q : Nat} {o : Nat × Nat} (h : Wst W w q o) : Wst W w.drew q o := ⟨h.r.drew, h.o.drew, h.d.drew⟩
theorem Wst.put {W w : World} {q : Nat} {o : Nat × Nat} (h : Wst W w q o) (hq : W.heap.size < q) (v : Nat × Nat) : Wst W ((w.setCell ⟨q, 0, none⟩ (.int .u64 (v.1 : Int))).setCell ⟨q, 1, none⟩ (.int .u64 (v.2 : Int))) q v :=
  ⟨h.r.other (by omega) _ _, h.o.set _ _, below2 (p := q) h.d (by omega) _ _⟩
theorem Wst.facts {W w : World} {q b i : Nat} {o x : Nat × Nat} (h : Wst W w q o) (A : b < W.heap.size ∧ W.cell? ⟨b, i, none⟩ = some (.int .u64 (x.1 : Int)) ∧ W.cell? ⟨b, i + 1, none⟩ = some (.int .u64 (x.2 : Int))) :
    w.cell? ⟨b, i, none⟩ = some (.int .u64 (x.1 : Int)) ∧ w.cell? ⟨b, i + 1, none⟩ = some (.int .u64 (x.2 : Int)) ∧ w.cell? ⟨q, 0, none⟩ = some (.int .u64 (o.1 : Int)) ∧ w.cell? ⟨q, 1, none⟩ = some (.int .u64 (o.2 : Int)) ∧ w.frozen? ⟨q, 0, none⟩ = false ∧ w.frozen? ⟨q, 1, none⟩ = false :=
  ⟨by rw [h.d.cell (p := ⟨b, i, none⟩) A.1]; exact A.2.1, by rw [h.d.cell (p := ⟨b, i + 1, none⟩) A.1]; exact A.2.2, h.o.hi, h.o.lo, h.o.fhi, h.o.flo⟩
theorem rsum (a b : Nat × Nat) (ha : lt2 a) (hb : lt2 b) : Ret 42 #[.agg #[.int .u64 (a.1 : Int), .int .u64 (a.2 : Int)], .agg #[.int .u64 (b.1 : Int), .int .u64 (b.2 : Int)]] (.agg #[.int .u64 ((xa a b).1 : Int), .int .u64 ((xa a b).2 : Int)]) := radd _ _ _ _ ha.1 ha.2 hb.1 hb.2
end Go.Proofs.Ytkllihomdlibgaa

/- Contracts of weave.joined over the seat's translation: halves joined to one element. -/
namespace Go.Proofs.Ytkllihomdlibgaa
open Go.RowKit

/-- Two halves as one element of the level k. -/
def jn (k : Nat) (x y : Nat × Nat) : Nat × Nat := if k = 7 then (x.2, y.2) else (0, 2 ^ 2 ^ (k - 1) * x.2 + y.2)
def jnd : Nat → Nat → List (Nat × Nat) → Nat × Nat
  | 0, _, es => es.getD 0 (0, 0)
  | d + 1, k, es => jn k (jnd d (k - 1) (es.drop (2 ^ d))) (jnd d (k - 1) (es.take (2 ^ d)))
theorem ERow.drop {w : World} {b off n : Nat} {es : List (Nat × Nat)} (h : ERow w (some ⟨b, off, none⟩) es) : ERow w (some ⟨b, off + n * 2, none⟩) (es.drop n) := ⟨fun i hi => by
  have hi' : n + i < es.length := by simp at hi; omega
  obtain ⟨b', o', e, h1, h2, h3⟩ := h.cells (n + i) hi'
  simp only [Option.some.injEq, Addr.mk.injEq] at e
  obtain ⟨rfl, rfl, _⟩ := e
  have eg : (es.drop n).getD i (0, 0) = es.getD (n + i) (0, 0) := by simp [List.getD]
  refine ⟨_, _, rfl, h1, ?_, ?_⟩
  · rw [eg, ← h2]; congr 2; omega
  · rw [eg, ← h3]; congr 2; omega⟩
theorem ERow.take {w : World} {a : Option Addr} {n : Nat} {es : List (Nat × Nat)} (h : ERow w a es) : ERow w a (es.take n) := ⟨fun i hi => by
  have hi' : i < es.length ∧ i < n := by simp at hi; omega
  obtain ⟨b', o', e, h1, h2, h3⟩ := h.cells i hi'.1
  have eg : (es.take n).getD i (0, 0) = es.getD i (0, 0) := by simp [List.getD, hi'.2]
  exact ⟨_, _, e, h1, by rw [eg]; exact h2, by rw [eg]; exact h3⟩⟩
end Go.Proofs.Ytkllihomdlibgaa

/- Contracts of weave.cut and of weave.Gather over the seat's translation, where nothing hinders it. -/
namespace Go.Proofs.Ytkllihomdlibgaa
open Go.RowKit

/-- The pieces: slices into the list's own row. -/
def pcs (b off wide j : Nat) : List Value := (List.range j).map fun i => .slice (some ⟨b, off + i * wide * 2, none⟩) wide wide
theorem pcs_len (b off wide j : Nat) : (pcs b off wide j).length = j := by simp [pcs]
theorem pcs_snoc (b off wide j : Nat) : pcs b off wide (j + 1) = pcs b off wide j ++ [.slice (some ⟨b, off + j * wide * 2, none⟩) wide wide] := by simp [pcs, List.range_succ]
theorem info_row : ∃ i, Try.prog.info? 22 = some i ∧ i.zero = some (.slice none 0 0) ∧ i.size = 1 ∧ i.bytes = 24 := by
  have h : (Try.prog.info? 22).map (fun i => (i.zero, i.size, i.bytes)) = some (some (.slice none 0 0), 1, 24) := by kernel_rfl
  obtain ⟨i, hi, he⟩ := Option.map_eq_some_iff.1 h
  simp only [Prod.mk.injEq] at he
  exact ⟨i, hi, he.1, he.2.1, he.2.2⟩
theorem own_pcs {w : World} {base b off wide q : Nat} {v : Value} (h : w.ownsRow base 22 1 v q (pcs b off wide q)) :
    ∃ a' cap', v = .slice a' q cap' ∧ ∀ i, i < q → ∃ g, a' = some ⟨g, 0, none⟩ ∧ base ≤ g ∧ g < w.heap.size ∧ w.cell? ⟨g, i, none⟩ = some (.slice (some ⟨b, off + i * wide * 2, none⟩) wide wide) := by
  have hlt := h.lt
  rcases h.2 with ⟨h1, h0⟩ | ⟨g, cap, cur, rfl, hb, _⟩
  · exact ⟨none, 0, by rw [h1, h0], fun i hi => by omega⟩
  · refine ⟨_, cap, rfl, fun i hi => ⟨g, rfl, ?_, ?_, ?_⟩⟩
    · exact (hlt g rfl).1
    · exact (hlt g rfl).2
    · have := h.cellAt i (by omega)
      rw [this]
      simp [pcs, hi]
theorem own_isRow {w : World} {base : Nat} {T : TypeId} {g n c : Nat} {xs : List Value} (h : w.ownsRow base T 2 (.slice (some ⟨g, 0, none⟩) n n) n xs) (hc : c = n * 2) : ∃ f, w.rowIs g T c f := by
  subst hc
  rcases h.2 with ⟨h1, _⟩ | ⟨g', cap, cur, e, _, hg, _, _, hs, _⟩
  · injection h1 with h2; cases h2
  · injection e with e1 e2 e3
    obtain rfl : g = g' := by injection e1 with e4; injection e4
    subst e3
    exact ⟨fun i => cur.getD i undef, cur, hg, hs, fun i hi => by
      show cur[i]? = some (cur.getD i undef)
      rw [Array.getD_eq_getD_getElem?, Array.getElem?_eq_getElem (by omega)]; rfl⟩
/-- The cells of elements. -/
def gcell (gs : List (Nat × Nat)) (p : Nat) : Value := if p % 2 = 0 then .int .u64 ((gs.getD (p / 2) (0, 0)).1 : Nat) else .int .u64 ((gs.getD (p / 2) (0, 0)).2 : Nat)
theorem row_g {w : World} {g n : Nat} {T : TypeId} {f : Nat → Value} {gs : List (Nat × Nat)} (hn : gs.length = n) (h : w.rowIs g T (n * 2) f) (hf : ∀ p, p < n * 2 → f p = gcell gs p) : ERow w (some ⟨g, 0, none⟩) gs := ⟨fun i hi => by
  have h1 := h.cell (i := i * 2) (by omega)
  have h2 := h.cell (i := i * 2 + 1) (by omega)
  rw [hf _ (by omega)] at h1 h2
  unfold gcell at h1 h2
  rw [if_pos (by omega), show i * 2 / 2 = i by omega] at h1
  rw [if_neg (by omega), show (i * 2 + 1) / 2 = i by omega] at h2
  refine ⟨g, 0, rfl, h.lt, by rw [Nat.zero_add]; exact h1, by rw [Nat.zero_add]; exact h2⟩⟩
end Go.Proofs.Ytkllihomdlibgaa

/- The walk of tower.inverse over the seat's translation, one level. -/
namespace Go.Proofs.Ytkllihomdlibgaa
open Go.RowKit

end Go.Proofs.Ytkllihomdlibgaa

/- Contracts of tower.inverse, Inv and Div over the seat's translation: the inverse of the field. -/
namespace Go.Proofs.Ytkllihomdlibgaa
open Go.RowKit
open Tw (px ik gn)

theorem add_ret (ah al bh bl : Nat) (h1 : ah < 2 ^ 64) (h2 : al < 2 ^ 64) (h3 : bh < 2 ^ 64) (h4 : bl < 2 ^ 64) : Ret 24 #[.agg #[.int .u64 (ah : Int), .int .u64 (al : Int)], .agg #[.int .u64 (bh : Int), .int .u64 (bl : Int)]] (.agg #[.int .u64 (ah ^^^ bh : Nat), .int .u64 (al ^^^ bl : Nat)]) := fun W => add_any ah al bh bl h1 h2 h3 h4 W
theorem add_low (a b : Nat) (h2 : a < 2 ^ 64) (h4 : b < 2 ^ 64) : Ret 24 #[.agg #[.int .u64 ((0 : Nat) : Int), .int .u64 (a : Int)], .agg #[.int .u64 ((0 : Nat) : Int), .int .u64 (b : Int)]] (.agg #[.int .u64 ((0 : Nat) : Int), .int .u64 (a ^^^ b : Nat)]) := add_ret 0 a 0 b (by decide) h2 (by decide) h4
theorem div_int (a D : Nat) : (a : Int) / (D : Int) = ((a / D : Nat) : Int) := by simp
theorem or_join (u v m : Nat) (hu : u * 2 ^ m < 2 ^ 64) (hv : v < 2 ^ m) (hv2 : v < 2 ^ 64) : bits .or .u64 ((u * 2 ^ m : Nat) : Int) (v : Int) = ((2 ^ m * u + v : Nat) : Int) := by
  rw [u64_or_nat _ _ hu hv2, Nat.mul_comm u, Nat.two_pow_add_eq_or_of_lt hv]

theorem ik0 (a : Nat) (h : a < 2) : ik 0 a = a := by
  have h2 : a = 0 ∨ a = 1 := by omega
  rcases h2 with rfl | rfl <;> decide
end Go.Proofs.Ytkllihomdlibgaa

/- Contracts of tower.Join at any level, weave.joined of any parts and weave.allOf over the seat's translation. -/
namespace Go.Proofs.Ytkllihomdlibgaa
open Go.RowKit

theorem jn_of (k : Nat) (h1 : 1 ≤ k) (hk : k < 8) (x y : Nat × Nat) (ox : ofB ((k - 1 : Nat) : Int) (x.1 : Int) (x.2 : Int) = true) (oy : ofB ((k - 1 : Nat) : Int) (y.1 : Int) (y.2 : Int) = true) : ofB (k : Int) ((jn k x y).1 : Nat) ((jn k x y).2 : Nat) = true := by
  rw [ofB_iff _ _ _ (by omega)] at ox oy
  rw [ofB_iff _ _ _ hk]
  by_cases h7 : k = 7
  · exact .inl h7
  · right
    have ox := ox.resolve_left (by omega)
    have oy := oy.resolve_left (by omega)
    unfold jn
    rw [if_neg h7]
    refine ⟨rfl, ?_⟩
    show 2 ^ 2 ^ (k - 1) * x.2 + y.2 < 2 ^ 2 ^ k
    have e : 2 ^ 2 ^ k = 2 ^ 2 ^ (k - 1) * 2 ^ 2 ^ (k - 1) := by
      rw [← Nat.pow_add]; congr 1; obtain ⟨j, rfl⟩ : ∃ j, k = j + 1 := ⟨k - 1, by omega⟩; rw [Nat.add_sub_cancel, Nat.pow_succ]; omega
    rw [e]
    generalize 2 ^ 2 ^ (k - 1) = P at *
    have := Nat.mul_le_mul_left P (show x.2 + 1 ≤ P from ox.2)
    rw [Nat.mul_add, Nat.mul_one] at this
    omega
theorem of_lt64 {k : Nat} (hk : k < 7) {h l : Nat} (o : ofB (k : Int) (h : Int) (l : Int) = true) : h < 2 ^ 64 ∧ l < 2 ^ 64 := by
  rw [ofB_iff _ _ _ (by omega)] at o
  have o := o.resolve_left (by omega)
  refine ⟨by rw [o.1]; exact Nat.two_pow_pos 64, Nat.lt_of_lt_of_le o.2 ?_⟩
  exact Nat.pow_le_pow_right (by decide) (show 2 ^ k ≤ 2 ^ 6 from Nat.pow_le_pow_right (by decide) (by omega))
theorem jnd_of : ∀ (d k : Nat) (es : List (Nat × Nat)), d ≤ k → k < 8 → es.length = 2 ^ d → (∀ e ∈ es, ofB ((k - d : Nat) : Int) (e.1 : Int) (e.2 : Int) = true) → ofB (k : Int) ((jnd d k es).1 : Nat) ((jnd d k es).2 : Nat) = true := by
  intro d
  induction d with
  | zero =>
    intro k es _ _ hl ho
    cases es with
    | nil => simp at hl
    | cons e l => exact ho e (by simp)
  | succ d ih =>
    intro k es hd hk hl ho
    have hp : 2 ^ (d + 1) = 2 ^ d + 2 ^ d := by rw [Nat.pow_succ]; omega
    have hs : k - 1 - d = k - (d + 1) := by omega
    exact jn_of k (by omega) hk _ _ (ih (k - 1) _ (by omega) (by omega) (by rw [List.length_drop]; omega) (fun e he => by rw [hs]; exact ho e (List.mem_of_mem_drop he)))
      (ih (k - 1) _ (by omega) (by omega) (by rw [List.length_take]; omega) (fun e he => by rw [hs]; exact ho e (List.mem_of_mem_take he)))
end Go.Proofs.Ytkllihomdlibgaa
