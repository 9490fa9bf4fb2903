/- The document's side of layer 15 over the seat's translation: Log, one, Weight, Value. -/
import Derived.Test.YtakaconhoodigaaPCbF
import Derived.Test.YtakaconhoodigaaRfE
import Derived.Test.YtakaconhoodigaaPSlA
import Derived.Test.YtakaconhoodigaaTwBl
import Derived.Deep.OwnRows
import Derived.BigQuiet
import Derived.Test.YtakaconhoodigaaTwM
namespace Go.Proofs.Ytakaconhoodigaa
open Go.RowKit
open Cb
open Tw (pm)

theorem wtf_snoc : ∀ (p : List (Nat × Nat)) (o x : Nat × Nat) (n : Nat), wtf o (p ++ [x]) n = pm (wtf o p n) (fac x (n / 2 ^ p.length))
  | [], o, x, n => by simp [wtf]
  | y :: p, o, x, n => by
    show wtf (pm o (fac y n)) (p ++ [x]) (n / 2) = pm (wtf (pm o (fac y n)) p (n / 2)) (fac x (n / 2 ^ (p.length + 1)))
    rw [wtf_snoc p, Nat.div_div_eq_div_mul, Nat.pow_succ, Nat.mul_comm 2]
/-- A room, and an element that is worked on. -/
structure Wst (W w : World) (q : Nat) (o : Nat × Nat) : Prop where
  r : Ew w W.heap.size 0 0
  o : Ew w q o.1 o.2
  d : Below W.heap.size W w
theorem Wst.below {W w w' : World} {q : Nat} {o : Nat × Nat} (h : Wst W w q o) (hb : Below w.heap.size w w') : Wst W w' q o := ⟨h.r.below hb, h.o.below hb, h.d.trans (hb.mono h.d.size)⟩
theorem Wst.drew {W w : World} {q : Nat} {o : Nat × Nat} (h : Wst W w q o) : Wst W w.drew q o := ⟨h.r.drew, h.o.drew, h.d.drew⟩
theorem Wst.put {W w : World} {q : Nat} {o : Nat × Nat} (h : Wst W w q o) (hq : W.heap.size < q) (v : Nat × Nat) : Wst W ((w.setCell ⟨q, 0, none⟩ (.int .u64 (v.1 : Int))).setCell ⟨q, 1, none⟩ (.int .u64 (v.2 : Int))) q v :=
  ⟨h.r.other (by omega) _ _, h.o.set _ _, below2 (p := q) h.d (by omega) _ _⟩
theorem Wst.facts {W w : World} {q b i : Nat} {o x : Nat × Nat} (h : Wst W w q o) (A : b < W.heap.size ∧ W.cell? ⟨b, i, none⟩ = some (.int .u64 (x.1 : Int)) ∧ W.cell? ⟨b, i + 1, none⟩ = some (.int .u64 (x.2 : Int))) :
    w.cell? ⟨b, i, none⟩ = some (.int .u64 (x.1 : Int)) ∧ w.cell? ⟨b, i + 1, none⟩ = some (.int .u64 (x.2 : Int)) ∧ w.cell? ⟨q, 0, none⟩ = some (.int .u64 (o.1 : Int)) ∧ w.cell? ⟨q, 1, none⟩ = some (.int .u64 (o.2 : Int)) ∧ w.frozen? ⟨q, 0, none⟩ = false ∧ w.frozen? ⟨q, 1, none⟩ = false :=
  ⟨by rw [h.d.cell (p := ⟨b, i, none⟩) A.1]; exact A.2.1, by rw [h.d.cell (p := ⟨b, i + 1, none⟩) A.1]; exact A.2.2, h.o.hi, h.o.lo, h.o.fhi, h.o.flo⟩
theorem rprod (a b : Nat × Nat) (ha : lt2 a) (hb : lt2 b) : Ret 16 #[.agg #[.int .u64 (a.1 : Int), .int .u64 (a.2 : Int)], .agg #[.int .u64 (b.1 : Int), .int .u64 (b.2 : Int)]] (.agg #[.int .u64 ((pm a b).1 : Int), .int .u64 ((pm a b).2 : Int)]) := rproduct_any _ _ _ _ ha.1 ha.2 hb.1 hb.2
theorem rsum (a b : Nat × Nat) (ha : lt2 a) (hb : lt2 b) : Ret 29 #[.agg #[.int .u64 (a.1 : Int), .int .u64 (a.2 : Int)], .agg #[.int .u64 (b.1 : Int), .int .u64 (b.2 : Int)]] (.agg #[.int .u64 ((xa a b).1 : Int), .int .u64 ((xa a b).2 : Int)]) := radd _ _ _ _ ha.1 ha.2 hb.1 hb.2
end Go.Proofs.Ytakaconhoodigaa

/- Contracts of weave.joined over the seat's translation: halves joined to one element. -/
namespace Go.Proofs.Ytakaconhoodigaa
open Go.RowKit

/-- Two halves as one element of the level k. -/
def jn (k : Nat) (x y : Nat × Nat) : Nat × Nat := if k = 7 then (x.2, y.2) else (0, 2 ^ 2 ^ (k - 1) * x.2 + y.2)
def jnd : Nat → Nat → List (Nat × Nat) → Nat × Nat
  | 0, _, es => es.getD 0 (0, 0)
  | d + 1, k, es => jn k (jnd d (k - 1) (es.drop (2 ^ d))) (jnd d (k - 1) (es.take (2 ^ d)))
theorem ERow.drop {w : World} {b off n : Nat} {es : List (Nat × Nat)} (h : ERow w (some ⟨b, off, none⟩) es) : ERow w (some ⟨b, off + n * 2, none⟩) (es.drop n) := ⟨fun i hi => by
  have hi' : n + i < es.length := by simp at hi; omega
  obtain ⟨b', o', e, h1, h2, h3⟩ := h.cells (n + i) hi'
  simp only [Option.some.injEq, Addr.mk.injEq] at e
  obtain ⟨rfl, rfl, _⟩ := e
  have eg : (es.drop n).getD i (0, 0) = es.getD (n + i) (0, 0) := by simp [List.getD]
  refine ⟨_, _, rfl, h1, ?_, ?_⟩
  · rw [eg, ← h2]; congr 2; omega
  · rw [eg, ← h3]; congr 2; omega⟩
theorem ERow.take {w : World} {a : Option Addr} {n : Nat} {es : List (Nat × Nat)} (h : ERow w a es) : ERow w a (es.take n) := ⟨fun i hi => by
  have hi' : i < es.length ∧ i < n := by simp at hi; omega
  obtain ⟨b', o', e, h1, h2, h3⟩ := h.cells i hi'.1
  have eg : (es.take n).getD i (0, 0) = es.getD i (0, 0) := by simp [List.getD, hi'.2]
  exact ⟨_, _, e, h1, by rw [eg]; exact h2, by rw [eg]; exact h3⟩⟩
end Go.Proofs.Ytakaconhoodigaa

/- Contracts of weave.cut and of weave.Gather over the seat's translation, where nothing hinders it. -/
namespace Go.Proofs.Ytakaconhoodigaa
open Go.RowKit

/-- The pieces: slices into the list's own row. -/
def pcs (b off wide j : Nat) : List Value := (List.range j).map fun i => .slice (some ⟨b, off + i * wide * 2, none⟩) wide wide
theorem pcs_len (b off wide j : Nat) : (pcs b off wide j).length = j := by simp [pcs]
theorem pcs_snoc (b off wide j : Nat) : pcs b off wide (j + 1) = pcs b off wide j ++ [.slice (some ⟨b, off + j * wide * 2, none⟩) wide wide] := by simp [pcs, List.range_succ]
theorem info_row : ∃ i, Try.prog.info? 35 = some i ∧ i.zero = some (.slice none 0 0) ∧ i.size = 1 ∧ i.bytes = 24 := by
  have h : (Try.prog.info? 35).map (fun i => (i.zero, i.size, i.bytes)) = some (some (.slice none 0 0), 1, 24) := by kernel_rfl
  obtain ⟨i, hi, he⟩ := Option.map_eq_some_iff.1 h
  simp only [Prod.mk.injEq] at he
  exact ⟨i, hi, he.1, he.2.1, he.2.2⟩
theorem own_pcs {w : World} {base b off wide q : Nat} {v : Value} (h : w.ownsRow base 35 1 v q (pcs b off wide q)) :
    ∃ a' cap', v = .slice a' q cap' ∧ ∀ i, i < q → ∃ g, a' = some ⟨g, 0, none⟩ ∧ base ≤ g ∧ g < w.heap.size ∧ w.cell? ⟨g, i, none⟩ = some (.slice (some ⟨b, off + i * wide * 2, none⟩) wide wide) := by
  have hlt := h.lt
  rcases h.2 with ⟨h1, h0⟩ | ⟨g, cap, cur, rfl, hb, _⟩
  · exact ⟨none, 0, by rw [h1, h0], fun i hi => by omega⟩
  · refine ⟨_, cap, rfl, fun i hi => ⟨g, rfl, ?_, ?_, ?_⟩⟩
    · exact (hlt g rfl).1
    · exact (hlt g rfl).2
    · have := h.cellAt i (by omega)
      rw [this]
      simp [pcs, hi]
theorem own_isRow {w : World} {base : Nat} {T : TypeId} {g n c : Nat} {xs : List Value} (h : w.ownsRow base T 2 (.slice (some ⟨g, 0, none⟩) n n) n xs) (hc : c = n * 2) : ∃ f, w.rowIs g T c f := by
  subst hc
  rcases h.2 with ⟨h1, _⟩ | ⟨g', cap, cur, e, _, hg, _, _, hs, _⟩
  · injection h1 with h2; cases h2
  · injection e with e1 e2 e3
    obtain rfl : g = g' := by injection e1 with e4; injection e4
    subst e3
    exact ⟨fun i => cur.getD i undef, cur, hg, hs, fun i hi => by
      show cur[i]? = some (cur.getD i undef)
      rw [Array.getD_eq_getD_getElem?, Array.getElem?_eq_getElem (by omega)]; rfl⟩
/-- The cells of elements. -/
def gcell (gs : List (Nat × Nat)) (p : Nat) : Value := if p % 2 = 0 then .int .u64 ((gs.getD (p / 2) (0, 0)).1 : Nat) else .int .u64 ((gs.getD (p / 2) (0, 0)).2 : Nat)
theorem row_g {w : World} {g n : Nat} {T : TypeId} {f : Nat → Value} {gs : List (Nat × Nat)} (hn : gs.length = n) (h : w.rowIs g T (n * 2) f) (hf : ∀ p, p < n * 2 → f p = gcell gs p) : ERow w (some ⟨g, 0, none⟩) gs := ⟨fun i hi => by
  have h1 := h.cell (i := i * 2) (by omega)
  have h2 := h.cell (i := i * 2 + 1) (by omega)
  rw [hf _ (by omega)] at h1 h2
  unfold gcell at h1 h2
  rw [if_pos (by omega), show i * 2 / 2 = i by omega] at h1
  rw [if_neg (by omega), show (i * 2 + 1) / 2 = i by omega] at h2
  refine ⟨g, 0, rfl, h.lt, by rw [Nat.zero_add]; exact h1, by rw [Nat.zero_add]; exact h2⟩⟩
end Go.Proofs.Ytakaconhoodigaa

/- The walk of tower.inverse over the seat's translation, one level. -/
namespace Go.Proofs.Ytakaconhoodigaa
open Go.RowKit

end Go.Proofs.Ytakaconhoodigaa

/- Contracts of tower.inverse, Inv and Div over the seat's translation: the inverse of the field. -/
namespace Go.Proofs.Ytakaconhoodigaa
open Go.RowKit
open Tw (px ik gn)

theorem level_ret (hi lo : Nat) (hl : lo < 2 ^ 64) : Ret 45 #[.agg #[.int .u64 (hi : Int), .int .u64 (lo : Int)]] (.int .i64 (lvl hi lo)) := fun W => (level_any hi lo hl W).mono fun _ _ ⟨h1, h2⟩ => ⟨h1, by rw [h2]; exact (Below.refl _ _).alloc (Nat.le_refl _) _⟩

theorem add_ret (ah al bh bl : Nat) (h1 : ah < 2 ^ 64) (h2 : al < 2 ^ 64) (h3 : bh < 2 ^ 64) (h4 : bl < 2 ^ 64) : Ret 26 #[.agg #[.int .u64 (ah : Int), .int .u64 (al : Int)], .agg #[.int .u64 (bh : Int), .int .u64 (bl : Int)]] (.agg #[.int .u64 (ah ^^^ bh : Nat), .int .u64 (al ^^^ bl : Nat)]) := fun W => add_any ah al bh bl h1 h2 h3 h4 W
theorem add_low (a b : Nat) (h2 : a < 2 ^ 64) (h4 : b < 2 ^ 64) : Ret 26 #[.agg #[.int .u64 ((0 : Nat) : Int), .int .u64 (a : Int)], .agg #[.int .u64 ((0 : Nat) : Int), .int .u64 (b : Int)]] (.agg #[.int .u64 ((0 : Nat) : Int), .int .u64 (a ^^^ b : Nat)]) := add_ret 0 a 0 b (by decide) h2 (by decide) h4
theorem product_low (a b : Nat) (h2 : a < 2 ^ 64) (h4 : b < 2 ^ 64) : Ret 41 #[.agg #[.int .u64 ((0 : Nat) : Int), .int .u64 (a : Int)], .agg #[.int .u64 ((0 : Nat) : Int), .int .u64 (b : Int)]] (.agg #[.int .u64 ((0 : Nat) : Int), .int .u64 (px a b : Nat)]) := fun W => by
  have := product_any 0 a 0 b (by decide) h2 (by decide) h4 W
  rwa [Tw.pmh_low, Tw.pml_low] at this
theorem square_low (a : Nat) (h2 : a < 2 ^ 64) : Ret 53 #[.agg #[.int .u64 ((0 : Nat) : Int), .int .u64 (a : Int)]] (.agg #[.int .u64 ((0 : Nat) : Int), .int .u64 (px a a : Nat)]) := fun W => by
  have := square_any 0 a (by decide) h2 W
  rwa [Tw.pmh_low, Tw.pml_low] at this
theorem of_low_ret (l : Nat) (hl : l < 8) (a : Nat) (h : a < 2 ^ 2 ^ l) (h2 : a < 2 ^ 64) : Ret 15 #[.int .i64 (l : Int), .agg #[.int .u64 ((0 : Nat) : Int), .int .u64 (a : Int)]] (.bool true) := by
  have := of_ret l 0 a h2
  rwa [(ofB_iff l 0 a hl).2 (.inr ⟨rfl, h⟩)] at this
theorem div_int (a D : Nat) : (a : Int) / (D : Int) = ((a / D : Nat) : Int) := by simp
theorem or_join (u v m : Nat) (hu : u * 2 ^ m < 2 ^ 64) (hv : v < 2 ^ m) (hv2 : v < 2 ^ 64) : bits .or .u64 ((u * 2 ^ m : Nat) : Int) (v : Int) = ((2 ^ m * u + v : Nat) : Int) := by
  rw [u64_or_nat _ _ hu hv2, Nat.mul_comm u, Nat.two_pow_add_eq_or_of_lt hv]

theorem ik0 (a : Nat) (h : a < 2) : ik 0 a = a := by
  have h2 : a = 0 ∨ a = 1 := by omega
  rcases h2 with rfl | rfl <;> decide
end Go.Proofs.Ytakaconhoodigaa

/- Contracts of tower.Join at any level, weave.joined of any parts and weave.allOf over the seat's translation. -/
namespace Go.Proofs.Ytakaconhoodigaa
open Go.RowKit

theorem jn_of (k : Nat) (h1 : 1 ≤ k) (hk : k < 8) (x y : Nat × Nat) (ox : ofB ((k - 1 : Nat) : Int) (x.1 : Int) (x.2 : Int) = true) (oy : ofB ((k - 1 : Nat) : Int) (y.1 : Int) (y.2 : Int) = true) : ofB (k : Int) ((jn k x y).1 : Nat) ((jn k x y).2 : Nat) = true := by
  rw [ofB_iff _ _ _ (by omega)] at ox oy
  rw [ofB_iff _ _ _ hk]
  by_cases h7 : k = 7
  · exact .inl h7
  · right
    have ox := ox.resolve_left (by omega)
    have oy := oy.resolve_left (by omega)
    unfold jn
    rw [if_neg h7]
    refine ⟨rfl, ?_⟩
    show 2 ^ 2 ^ (k - 1) * x.2 + y.2 < 2 ^ 2 ^ k
    have e : 2 ^ 2 ^ k = 2 ^ 2 ^ (k - 1) * 2 ^ 2 ^ (k - 1) := by
      rw [← Nat.pow_add]; congr 1; obtain ⟨j, rfl⟩ : ∃ j, k = j + 1 := ⟨k - 1, by omega⟩; rw [Nat.add_sub_cancel, Nat.pow_succ]; omega
    rw [e]
    generalize 2 ^ 2 ^ (k - 1) = P at *
    have := Nat.mul_le_mul_left P (show x.2 + 1 ≤ P from ox.2)
    rw [Nat.mul_add, Nat.mul_one] at this
    omega
theorem of_lt64 {k : Nat} (hk : k < 7) {h l : Nat} (o : ofB (k : Int) (h : Int) (l : Int) = true) : h < 2 ^ 64 ∧ l < 2 ^ 64 := by
  rw [ofB_iff _ _ _ (by omega)] at o
  have o := o.resolve_left (by omega)
  refine ⟨by rw [o.1]; exact Nat.two_pow_pos 64, Nat.lt_of_lt_of_le o.2 ?_⟩
  exact Nat.pow_le_pow_right (by decide) (show 2 ^ k ≤ 2 ^ 6 from Nat.pow_le_pow_right (by decide) (by omega))
theorem jnd_of : ∀ (d k : Nat) (es : List (Nat × Nat)), d ≤ k → k < 8 → es.length = 2 ^ d → (∀ e ∈ es, ofB ((k - d : Nat) : Int) (e.1 : Int) (e.2 : Int) = true) → ofB (k : Int) ((jnd d k es).1 : Nat) ((jnd d k es).2 : Nat) = true := by
  intro d
  induction d with
  | zero =>
    intro k es _ _ hl ho
    cases es with
    | nil => simp at hl
    | cons e l => exact ho e (by simp)
  | succ d ih =>
    intro k es hd hk hl ho
    have hp : 2 ^ (d + 1) = 2 ^ d + 2 ^ d := by rw [Nat.pow_succ]; omega
    have hs : k - 1 - d = k - (d + 1) := by omega
    exact jn_of k (by omega) hk _ _ (ih (k - 1) _ (by omega) (by omega) (by rw [List.length_drop]; omega) (fun e he => by rw [hs]; exact ho e (List.mem_of_mem_drop he)))
      (ih (k - 1) _ (by omega) (by omega) (by rw [List.length_take]; omega) (fun e he => by rw [hs]; exact ho e (List.mem_of_mem_take he)))
end Go.Proofs.Ytakaconhoodigaa

/- Contracts of slices.Clone, weave.Cut and steeplelaw09.awake over the seat's translation. -/
namespace Go.Proofs.Ytakaconhoodigaa
open Go.RowKit

theorem flat_ones (es : List (Nat × Nat)) : ∀ u ∈ flat es, u.oneCell' = true := by
  intro u hu
  unfold flat at hu
  obtain ⟨e, _, he⟩ := List.mem_flatMap.1 hu
  simp at he
  rcases he with rfl | rfl <;> rfl
theorem ERow.flatOn {w : World} {b off : Nat} {es : List (Nat × Nat)} (h : ERow w (some ⟨b, off, none⟩) es) (j : Nat) (u : Value) (hu : (flat es)[j]? = some u) : w.cell? ((⟨b, off, none⟩ : Addr).add j) = some u := by
  have hj : j < es.length * 2 := by
    rw [← flat_len]
    obtain ⟨h1, _⟩ := List.getElem?_eq_some_iff.1 hu
    exact h1
  have ha : (⟨b, off, none⟩ : Addr).add j = ⟨b, off + j, none⟩ := by unfold Addr.add; split <;> simp_all
  rw [ha]
  have hi : j / 2 < es.length := by omega
  obtain ⟨b2, off2, e, _, c1, c0⟩ := h.cells (j / 2) hi
  have hf := flat_at es (j / 2) hi
  simp only [Option.some.injEq, Addr.mk.injEq] at e
  obtain ⟨rfl, rfl, _⟩ := e
  rcases Nat.mod_two_eq_zero_or_one j with h2 | h2
  · have e2 : j / 2 * 2 = j := by omega
    rw [e2] at c1 hf
    rw [hf.1] at hu
    rw [c1]; exact hu
  · have e2 : j / 2 * 2 + 1 = j := by omega
    rw [Nat.add_assoc, e2] at c0
    rw [e2] at hf
    rw [hf.2] at hu
    rw [c0]; exact hu
/-- A row of one's own, as elements. -/
theorem own_elems {w : World} {base : Nat} {T : TypeId} {v : Value} {es : List (Nat × Nat)} (h : w.ownsRow base T 2 v es.length (flat es)) :
    ∃ a b cap, v = .slice a es.length cap ∧ (es.length = 0 ∨ a = some ⟨b, 0, none⟩) ∧ es.length ≤ cap ∧ ERow w a es := by
  obtain ⟨a', cap', e, hE⟩ := own_row h
  rcases h.2 with ⟨h1, h0⟩ | ⟨g, cap, cur, e2, _, _, hn, _⟩
  · refine ⟨a', 0, cap', e, .inl h0, by omega, hE⟩
  · rw [e2] at e
    injection e with e3 e4 e5
    subst e3 e5
    exact ⟨_, g, cap, e2, .inr rfl, hn, hE⟩
theorem own_base {w : World} {base base' : Nat} {T : TypeId} {size n : Nat} {v : Value} {xs : List Value} (h : w.ownsRow base T size v n xs) (hb : base' ≤ base) : w.ownsRow base' T size v n xs := by
  obtain ⟨h1, h2⟩ := h
  refine ⟨h1, ?_⟩
  rcases h2 with h3 | ⟨g, cap, cur, e, hbb, rest⟩
  · exact .inl h3
  · exact .inr ⟨g, cap, cur, e, Nat.le_trans hb hbb, rest⟩
end Go.Proofs.Ytakaconhoodigaa

/- Contract of tower.Bits over the seat's translation: the walks, level by level. -/
namespace Go.Proofs.Ytakaconhoodigaa
open Go.RowKit

theorem info_bool : ∃ i, Try.prog.info? 4 = some i ∧ i.zero = some (.bool false) ∧ i.size = 1 ∧ i.bytes = 1 := by
  have h : (Try.prog.info? 4).map (fun i => (i.zero, i.size, i.bytes)) = some (some (.bool false), 1, 1) := by kernel_rfl
  obtain ⟨i, hi, he⟩ := Option.map_eq_some_iff.1 h
  simp only [Prod.mk.injEq] at he
  exact ⟨i, hi, he.1, he.2.1, he.2.2⟩
theorem rowIs_below {w w' : World} {b : Nat} {t : TypeId} {n : Nat} {f : Nat → Value} (h : w.rowIs b t n f) (hb : Below w.heap.size w w') : w'.rowIs b t n f := h.of_block (hb.block b h.lt)
theorem row_step {w : World} {g : Nat} {t : TypeId} {n j : Nat} {hb : Nat → Bool} {b : Bool} (h : w.rowIs g t n fun i => .bool (decide (i < j) && hb i)) (e : hb j = b) : (w.setCell ⟨g, j, none⟩ (.bool b)).rowIs g t n fun i => .bool (decide (i < j + 1) && hb i) :=
  (h.set j (.bool b)).congr fun i _ => by
    show (if i = j then Value.bool b else Value.bool (decide (i < j) && hb i)) = _
    by_cases h1 : i = j
    · subst h1; rw [if_pos rfl, e, show decide (i < i + 1) = true by simp]; rfl
    · rw [if_neg h1]
      have : decide (i < j + 1) = decide (i < j) := by rw [decide_eq_decide]; omega
      rw [this]
end Go.Proofs.Ytakaconhoodigaa

/- The contract of tower.Bits over the seat's translation, at any level. -/
namespace Go.Proofs.Ytakaconhoodigaa
open Go.RowKit

theorem hasB_bit (h l j : Nat) (hj : j < 64) (hl : l < 2 ^ 64) : bits .and .u64 ((l : Int) / 2 ^ j) 1 = if hasB h l j = true then 1 else 0 := by
  rw [bit_nat l j hl]
  unfold hasB
  rw [if_pos hj, Nat.testBit_eq_decide_div_mod_eq]
  have := Nat.mod_two_eq_zero_or_one (l / 2 ^ j)
  rcases this with h1 | h1 <;> simp [h1]
theorem hasB_bit2 (h l j : Nat) (hj : ¬ j < 64) (hh : h < 2 ^ 64) : bits .and .u64 ((h : Int) / 2 ^ (j - 64)) 1 = if hasB h l j = true then 1 else 0 := by
  rw [bit_nat h (j - 64) hh]
  unfold hasB
  rw [if_neg hj, Nat.testBit_eq_decide_div_mod_eq]
  have := Nat.mod_two_eq_zero_or_one (h / 2 ^ (j - 64))
  rcases this with h1 | h1 <;> simp [h1]
end Go.Proofs.Ytakaconhoodigaa
