/- The bits of parts that are joined; contracts of weave.Gather's errors and of weave.Bits over the seat's translation. -/
import Derived.Test.YtjdfbjdbfncofaaPTwBa
import Derived.Test.YtjdfbjdbfncofaaPWvA
import Derived.Test.YtjdfbjdbfncofaaPSlA
import Derived.Test.YtjdfbjdbfncofaaTwX
namespace Go.Proofs.Ytjdfbjdbfncofaa
open Go.RowKit

theorem jn_has (k : Nat) (h1 : 1 ≤ k) (hk : k < 8) (x y : Nat × Nat) (oy : ofB ((k - 1 : Nat) : Int) (y.1 : Int) (y.2 : Int) = true) (n : Nat) (hn : n < 2 ^ k) :
    hasB (jn k x y).1 (jn k x y).2 n = if n < 2 ^ (k - 1) then hasB y.1 y.2 n else hasB x.1 x.2 (n - 2 ^ (k - 1)) := by
  unfold jn
  by_cases h7 : k = 7
  · subst h7
    rw [if_pos rfl]
    have e : (2 : Nat) ^ (7 - 1) = 64 := by decide
    have e2 : (2 : Nat) ^ 7 = 128 := by decide
    rw [e]; rw [e2] at hn
    unfold hasB
    by_cases h : n < 64
    · rw [if_pos h, if_pos h, if_pos h]
    · rw [if_neg h, if_neg h, if_pos (by omega)]
  · rw [if_neg h7]
    have h6 : 2 ^ k ≤ 2 ^ 6 := Nat.pow_le_pow_right (by decide) (by omega)
    have e : (2 : Nat) ^ 6 = 64 := by decide
    have hf : 0 < 2 ^ (k - 1) := Nat.two_pow_pos _
    rw [ofB_iff _ _ _ (by omega)] at oy
    have oy := oy.resolve_left (by omega)
    unfold hasB
    rw [if_pos (by omega)]
    show (2 ^ 2 ^ (k - 1) * x.2 + y.2).testBit n = _
    rw [Nat.testBit_two_pow_mul_add _ oy.2]
    by_cases h : n < 2 ^ (k - 1)
    · rw [if_pos h, if_pos h, if_pos (by omega)]
    · rw [if_neg h, if_neg h, if_pos (by omega)]
theorem getD_take {α : Type} (l : List α) (n i : Nat) (z : α) (h : i < n) : (l.take n).getD i z = l.getD i z := by simp [List.getD, h]
theorem getD_drop {α : Type} (l : List α) (n i : Nat) (z : α) : (l.drop n).getD i z = l.getD (n + i) z := by simp [List.getD]
/-- The bits of parts that are joined: those of the parts, one behind the other. -/
theorem jnd_has : ∀ (d k : Nat) (es : List (Nat × Nat)), d ≤ k → k < 8 → es.length = 2 ^ d → (∀ e ∈ es, ofB ((k - d : Nat) : Int) (e.1 : Int) (e.2 : Int) = true) → ∀ n, n < 2 ^ k →
    hasB (jnd d k es).1 (jnd d k es).2 n = hasB (es.getD (n / 2 ^ (k - d)) (0, 0)).1 (es.getD (n / 2 ^ (k - d)) (0, 0)).2 (n % 2 ^ (k - d)) := by
  intro d
  induction d with
  | zero =>
    intro k es _ _ hl _ n hn
    rw [Nat.sub_zero, Nat.div_eq_of_lt hn, Nat.mod_eq_of_lt hn]
    rfl
  | succ d ih =>
    intro k es hd hk hl ho n hn
    have hp : 2 ^ (d + 1) = 2 ^ d + 2 ^ d := by rw [Nat.pow_succ]; omega
    have hs : k - 1 - d = k - (d + 1) := by omega
    have ll : (es.take (2 ^ d)).length = 2 ^ d := by rw [List.length_take]; omega
    have lh : (es.drop (2 ^ d)).length = 2 ^ d := by rw [List.length_drop]; omega
    have oh : ∀ e ∈ es.drop (2 ^ d), ofB ((k - 1 - d : Nat) : Int) (e.1 : Int) (e.2 : Int) = true := fun e he => by rw [hs]; exact ho e (List.mem_of_mem_drop he)
    have ol : ∀ e ∈ es.take (2 ^ d), ofB ((k - 1 - d : Nat) : Int) (e.1 : Int) (e.2 : Int) = true := fun e he => by rw [hs]; exact ho e (List.mem_of_mem_take he)
    have hP : 2 ^ (k - 1) = 2 ^ d * 2 ^ (k - (d + 1)) := by rw [← Nat.pow_add]; congr 1; omega
    have hQ : 0 < 2 ^ (k - (d + 1)) := Nat.two_pow_pos _
    have hkk : 2 ^ k = 2 ^ (k - 1) + 2 ^ (k - 1) := by
      obtain ⟨j, rfl⟩ : ∃ j, k = j + 1 := ⟨k - 1, by omega⟩
      rw [Nat.add_sub_cancel, Nat.pow_succ]; omega
    show hasB (jn k _ _).1 (jn k _ _).2 n = _
    rw [jn_has k (by omega) hk _ _ (jnd_of d (k - 1) _ (by omega) (by omega) ll ol) n hn]
    by_cases h : n < 2 ^ (k - 1)
    · rw [if_pos h, ih (k - 1) _ (by omega) (by omega) ll ol n h, hs, getD_take _ _ _ _ (by rw [Nat.div_lt_iff_lt_mul hQ, ← hP]; exact h)]
    · rw [if_neg h, ih (k - 1) _ (by omega) (by omega) lh oh (n - 2 ^ (k - 1)) (by omega), hs, getD_drop]
      have e1 : 2 ^ d + (n - 2 ^ (k - 1)) / 2 ^ (k - (d + 1)) = n / 2 ^ (k - (d + 1)) := by
        conv => rhs; rw [show n = (n - 2 ^ (k - 1)) + 2 ^ d * 2 ^ (k - (d + 1)) by omega]
        rw [Nat.add_mul_div_right _ _ hQ]; omega
      have e2 : (n - 2 ^ (k - 1)) % 2 ^ (k - (d + 1)) = n % 2 ^ (k - (d + 1)) := by
        conv => rhs; rw [show n = (n - 2 ^ (k - 1)) + 2 ^ d * 2 ^ (k - (d + 1)) by omega]
        rw [Nat.add_mul_mod_self_right]
      rw [e1, e2]
/-- Bits as elements. -/
def bE (bs : List Bool) : List (Nat × Nat) := bs.map fun b => if b then (0, 1) else (0, 0)
theorem bE_len (bs : List Bool) : (bE bs).length = bs.length := by simp [bE]
theorem bE_at (bs : List Bool) (i : Nat) : (bE bs).getD i (0, 0) = if bs.getD i false then (0, 1) else (0, 0) := by
  unfold bE
  by_cases h : i < bs.length
  · simp [List.getD, h]
  · simp [List.getD, h]
theorem bE_of (bs : List Bool) : ∀ e ∈ bE bs, ofB ((0 : Nat) : Int) (e.1 : Int) (e.2 : Int) = true := by
  intro e he
  unfold bE at he
  obtain ⟨b, _, rfl⟩ := List.mem_map.1 he
  cases b <;> decide
theorem bE_lt (bs : List Bool) : ltE (bE bs) := by
  intro e he
  unfold bE at he
  obtain ⟨b, _, rfl⟩ := List.mem_map.1 he
  cases b <;> decide
theorem isUp_no (f t : Int) (h : ¬ (0 ≤ f ∧ f ≤ t ∧ t ≤ 7)) : Ret 64 #[.int .i64 f, .int .i64 t] (.bool false) := by
  intro W
  by_cases h0 : 0 ≤ f
  · by_cases h1 : f ≤ t
    · have h2 : ¬ t ≤ 7 := fun h2 => h ⟨h0, h1, h2⟩
      clear h
      go_enter Try.func64, Try.ntmps64
      go_wp2
      refine bodyPost_ret (v := .bool false) (by simp [results, Try.results64, go_sem, *]) rfl ⟨rfl, ?_⟩
      first | exact Below.refl _ _ | go_grown
    · clear h
      go_enter Try.func64, Try.ntmps64
      go_wp2
      refine bodyPost_ret (v := .bool false) (by simp [results, Try.results64, go_sem, *]) rfl ⟨rfl, ?_⟩
      first | exact Below.refl _ _ | go_grown
  · clear h
    go_enter Try.func64, Try.ntmps64
    go_wp2
    refine bodyPost_ret (v := .bool false) (by simp [results, Try.results64, go_sem, *]) rfl ⟨rfl, ?_⟩
    first | exact Below.refl _ _ | go_grown
set_option maxHeartbeats 400000 in
theorem gather_arg (f t : Int) (h : ¬ (0 ≤ f ∧ f ≤ t ∧ t ≤ 7)) (v : Value) : Ret 52 #[.int .i64 f, .int .i64 t, v] (.tuple #[.slice none 0 0, .int .i64 1]) := by
  intro W
  have HU := isUp_no f t h
  clear h
  go_enter Try.func52, Try.ntmps52
  go_wp2_with fail
  refine (HU.go _).mono ?_
  rintro e w1 ⟨rfl, hb1⟩
  go_wp2
  refine bodyPost_ret (v := .tuple #[.slice none 0 0, .int .i64 1]) (by simp [results, Try.results52, go_sem]) rfl ⟨rfl, ?_⟩
  exact hb1
set_option maxHeartbeats 400000 in
theorem gather_size (f t d each : Nat) (hd : f + d = t) (ht : t < 8) (he : each = 2 ^ d) (a : Option Addr) (n cap : Nat) (hn : ¬ n % each = 0) : Ret 52 #[.int .i64 (f : Int), .int .i64 (t : Int), .slice a n cap] (.tuple #[.slice none 0 0, .int .i64 6]) := by
  intro W
  have HU : Hid (Ret 64 #[.int .i64 (f : Int), .int .i64 (t : Int)] (.bool true)) := isUp_ok _ _ (by omega) (by omega) (by omega)
  have hep : 0 < each := by rw [he]; exact Nat.two_pow_pos d
  have h1 : IntKind.i64.wrap ((t : Int) - f) = (d : Int) := by rw [IntKind.wrap_i64]; omega
  have h2 : IntKind.i64.wrap (2 ^ d) = (each : Int) := by
    have h1 : 2 ^ d < 2 ^ 8 := Nat.pow_lt_pow_right (by decide) (by omega)
    rw [IntKind.wrap_i64, show (2 : Int) ^ d = ((2 ^ d : Nat) : Int) by simp, he]
    generalize 2 ^ d = p at *
    omega
  obtain ⟨m, hm⟩ : ∃ m : Nat, n % each = m := ⟨_, rfl⟩
  have h3 : (n : Int).tmod (each : Int) = (m : Int) := by rw [Int.tmod_eq_emod_of_nonneg (by omega), ← hm]; simp
  have h4 : ¬ (m : Int) = 0 := by omega
  have h5 : ¬ (each : Int) = 0 := by omega
  have h6 : (0 : Int) ≤ (d : Int) := by omega
  have h7 : (d : Int) < 64 := by omega
  clear he hd hn hm
  go_enter Try.func52, Try.ntmps52
  go_wp2_with fail
  refine (HU.out.go _).mono ?_
  rintro e w1 ⟨rfl, hb1⟩
  have HB : Hid (Below W.heap.size W w1) := hb1
  clear hb1
  go_wp2
  refine bodyPost_ret (v := .tuple #[.slice none 0 0, .int .i64 6]) (by simp [results, Try.results52, go_sem]) rfl ⟨rfl, ?_⟩
  exact HB.out

/-- Bits in memory, as a slice has them. -/
structure BRow (w : World) (a : Option Addr) (bs : List Bool) : Prop where
  cells : ∀ i, i < bs.length → ∃ b off : Nat, a = some ⟨b, off, none⟩ ∧ b < w.heap.size ∧ w.cell? ⟨b, off + i, none⟩ = some (.bool (bs.getD i false))
theorem BRow.below {w w' : World} {a : Option Addr} {bs : List Bool} (h : BRow w a bs) (hb : Below w.heap.size w w') : BRow w' a bs := ⟨fun i hi => by
  obtain ⟨b, off, h1, h2, h3⟩ := h.cells i hi
  exact ⟨b, off, h1, Nat.lt_of_lt_of_le h2 hb.size, keepc hb h3⟩⟩
theorem own_zero {w : World} {base : Nat} {T : TypeId} {g n : Nat} (h : w.ownsRow base T 2 (.slice (some ⟨g, 0, none⟩) n n) n (madeCells (Value.agg #[.int .u64 0, .int .u64 0]).cells (n * 2)).toList) : ∃ f, w.rowIs g T (n * 2) f ∧ ∀ i, i < n * 2 → f i = .int .u64 0 := by
  obtain ⟨f, hf⟩ := own_isRow h (rfl : n * 2 = n * 2)
  refine ⟨f, hf, fun i hi => ?_⟩
  have h1 := h.cellAt i hi
  rw [hf.cell hi] at h1
  have h2 : ((madeCells (Value.agg #[.int .u64 0, .int .u64 0]).cells (n * 2)).toList)[i]? = some (.int .u64 0) := by
    have hc : (Value.agg #[.int .u64 0, .int .u64 0]).cells = #[.int .u64 0, .int .u64 0] := by simp [Value.cells]
    unfold madeCells
    rw [hc]
    rcases Nat.mod_two_eq_zero_or_one i with h | h <;> simp [hi, h]
  rw [h2] at h1
  exact Option.some.inj h1
set_option maxHeartbeats 1000000 in
set_option maxRecDepth 100000 in
theorem wbits_core (l : Int) (a : Option Addr) (cap : Nat) (bs : List Bool) (hn : bs.length ≤ 1000) (W : World) (hr : BRow W a bs) (Q : Value → Value → World → Prop)
    (HG : Hid (∀ (w : World) (g : Nat), Below W.heap.size W w → ERow w (some ⟨g, 0, none⟩) (bE bs) → Calls Try.prog 52 #[.int .i64 0, .int .i64 l, .slice (some ⟨g, 0, none⟩) bs.length bs.length] w fun e w' => ∃ x y, e = .returned (.tuple #[x, y]) ∧ Q x y w' ∧ Below w.heap.size w w')) :
    Calls Try.prog 32 #[.int .i64 l, .slice a bs.length cap] W fun e w' => ∃ x y, e = .returned (.tuple #[x, y]) ∧ Q x y w' ∧ Below W.heap.size W w' := by
  obtain ⟨i0, hi, hz0, hz1, hz2⟩ := info_elem
  have HN : Hid (Try.prog.info? 24 = some i0 ∧ i0.zero = some (.agg #[.int .u64 0, .int .u64 0]) ∧ i0.size = 2 ∧ i0.bytes = 16) := ⟨hi, hz0, hz1, hz2⟩
  have HR : Hid (BRow W a bs) := hr
  have H1 : Hid (Ret 16 #[] (.agg #[.int .u64 0, .int .u64 1])) := one_any
  clear hi hz0 hz1 hz2 hr
  go_enter Try.func32, Try.ntmps32
  go_wp2_with (at_make; refine wpList_make_full _ rfl _ _ 26 rfl W.heap.size 24 i0 (.agg #[.int .u64 0, .int .u64 0]) 2 Try.underlying26 HN.out.1 HN.out.2.1 HN.out.2.2.1 .i64 .i64 _ _ bs.length rfl rfl rfl rfl (by rw [HN.out.2.2.2]; omega) (by simp only [maxLen]; omega) (Nat.le_refl _) ?_; intro w2 own2 hgr2)
  obtain ⟨f0, R0, Z0⟩ := own_zero own2
  have D : Hid (Below W.heap.size W w2) := (Below.refl _ _).grown hgr2 (Nat.le_refl _) (fun k hk => by cases hk)
  have HR0 : Hid (w2.rowIs W.heap.size 24 (bs.length * 2) f0) := R0
  have HZ0 : Hid (∀ i, i < bs.length * 2 → f0 i = .int .u64 0) := Z0
  clear own2 hgr2 R0 Z0 HN
  go_loopw [14] (fun u wr => ∃ (j : Nat) (F : Nat → Value), j ≤ bs.length ∧ u = .int .i64 j ∧ wr.rowIs W.heap.size 24 (bs.length * 2) F ∧ Hid (∀ i, i < bs.length * 2 → F i = if i < j * 2 then gcell (bE bs) i else .int .u64 0) ∧ Below W.heap.size W wr) (fun u _ => bs.length - (intOf u).toNat)
  case atStart => exact ⟨0, f0, Nat.zero_le _, rfl, HR0.out, (fun i hi => by rw [if_neg (by omega)]; exact HZ0.out i hi), D.out⟩
  case round =>
    obtain ⟨j, F, hj, rfl, hR, HF, hD⟩ := hrel
    clear HR0 HZ0 D
    have HRr : Hid (wr.rowIs W.heap.size 24 (bs.length * 2) F) := hR
    have HD : Hid (Below W.heap.size W wr) := hD
    have hps : W.heap.size < wr.heap.size := hR.lt
    clear hR hD
    by_cases hlt : j < bs.length
    · obtain ⟨b, off, rfl, hb, cb⟩ := HR.out.cells j hlt
      have db : wr.cell? ⟨b, off + j, none⟩ = some (.bool (bs.getD j false)) := by rw [HD.out.cell (p := ⟨b, off + j, none⟩) hb]; exact cb
      have HE : Hid ((bE bs).getD j (0, 0) = if bs.getD j false then (0, 1) else (0, 0)) := bE_at bs j
      clear cb
      generalize bs.getD j false = x at *
      cases x with
      | false =>
        go_wp2
        refine ⟨⟨j + 1, F, hlt, by simp, HRr.out, fun i hi => ?_, HD.out⟩, by simp [intOf]; omega⟩
        have hF := HF.out i hi
        rw [hF]
        by_cases h1 : i < j * 2
        · rw [if_pos h1, if_pos (by omega)]
        · rw [if_neg h1]
          by_cases h2 : i < (j + 1) * 2
          · rw [if_pos h2]; unfold gcell; rw [show i / 2 = j by omega, HE.out]; split <;> rfl
          · rw [if_neg h2]
      | true =>
        go_wp2_with (go_at_call 16; refine (H1.out.go _).mono ?_; rintro e w5 ⟨rfl, hb5⟩; have R5 : Hid (w5.rowIs W.heap.size 24 (bs.length * 2) F) := (HRr.out.of_block (hb5.block W.heap.size hps)); have c1 := R5.out.cell (i := j * 2) (by omega); have c0 := R5.out.cell (i := j * 2 + 1) (by omega); have z1 := R5.out.frozen (j * 2); have z0 := R5.out.frozen (j * 2 + 1))
        refine ⟨⟨j + 1, _, hlt, by simp, (R5.out.set (j * 2) _).set (j * 2 + 1) _, fun i hi => ?_, ((HD.out.trans (hb5.mono HD.out.size)).setCell (Nat.le_refl _) _).setCell (Nat.le_refl _) _⟩, by simp [intOf]; omega⟩
        have hF := HF.out i hi
        by_cases e1 : i = j * 2 + 1
        · rw [if_pos e1, if_pos (by omega)]; unfold gcell; rw [if_neg (by omega), show i / 2 = j by omega, HE.out]; rfl
        · rw [if_neg e1]
          by_cases e2 : i = j * 2
          · rw [if_pos e2, if_pos (by omega)]; unfold gcell; rw [if_pos (by omega), show i / 2 = j by omega, HE.out]; rfl
          · rw [if_neg e2, hF]
            by_cases h1 : i < j * 2
            · rw [if_pos h1, if_pos (by omega)]
            · rw [if_neg h1, if_neg (by omega)]
    · obtain rfl : j = bs.length := by omega
      have HE : Hid (ERow wr (some ⟨W.heap.size, 0, none⟩) (bE bs)) := row_g (bE_len bs) HRr.out (fun i hi => by rw [HF.out i hi, if_pos hi])
      go_wp2_with (go_at_call 52; refine (HG.out _ _ HD.out HE.out).mono ?_; rintro e w5 ⟨x, y, rfl, hQ, hb5⟩)
      refine bodyPost_ret (v := .tuple #[x, y]) (by simp [results, Try.results32, go_sem, *]) rfl ?_
      exact ⟨x, y, rfl, hQ, HD.out.trans (hb5.mono HD.out.size)⟩
end Go.Proofs.Ytjdfbjdbfncofaa

/- The walk of WeaveBits over the seat's translation, level by level. -/
namespace Go.Proofs.Ytjdfbjdbfncofaa
open Go.RowKit

/-- Bits, gathered. -/
def gB (k q : Nat) (bs : List Bool) : List (Nat × Nat) := (List.range q).map fun i => jnd k k (((bE bs).drop (i * 2 ^ k)).take (2 ^ k))
theorem gB_len (k q : Nat) (bs : List Bool) : (gB k q bs).length = q := by simp [gB]
theorem gB_at (k q : Nat) (bs : List Bool) (i : Nat) (hi : i < q) : (gB k q bs).getD i (0, 0) = jnd k k (((bE bs).drop (i * 2 ^ k)).take (2 ^ k)) := by simp [gB, List.getD, hi]
theorem gB_part (k q : Nat) (bs : List Bool) (hq : bs.length = q * 2 ^ k) (i : Nat) (hi : i < q) : (((bE bs).drop (i * 2 ^ k)).take (2 ^ k)).length = 2 ^ k := by
  have hlt : (i + 1) * 2 ^ k ≤ bs.length := by rw [hq]; exact Nat.mul_le_mul_right _ hi
  rw [Nat.add_mul, Nat.one_mul] at hlt
  rw [List.length_take, List.length_drop, bE_len]; omega
theorem gB_parts (k : Nat) (bs : List Bool) (i : Nat) : ∀ e ∈ ((bE bs).drop (i * 2 ^ k)).take (2 ^ k), ofB ((k - k : Nat) : Int) (e.1 : Int) (e.2 : Int) = true := fun e he => by
  rw [Nat.sub_self]; exact bE_of bs e (List.mem_of_mem_drop (List.mem_of_mem_take he))
theorem gB_of (k q : Nat) (hk : k < 8) (bs : List Bool) (hq : bs.length = q * 2 ^ k) (i : Nat) (hi : i < q) : ofB (k : Int) (((gB k q bs).getD i (0, 0)).1 : Nat) (((gB k q bs).getD i (0, 0)).2 : Nat) = true := by
  rw [gB_at k q bs i hi]
  exact jnd_of k k _ (Nat.le_refl _) hk (gB_part k q bs hq i hi) (gB_parts k bs i)
theorem jn_lt (k : Nat) (hk : k < 8) (x y : Nat × Nat) (hx : x.2 < 2 ^ 64) (hy : y.2 < 2 ^ 64) (o : ofB (k : Int) ((jn k x y).1 : Nat) ((jn k x y).2 : Nat) = true) : (jn k x y).1 < 2 ^ 64 ∧ (jn k x y).2 < 2 ^ 64 := by
  by_cases h7 : k = 7
  · subst h7; exact ⟨hx, hy⟩
  · exact of_lt64 (by omega) o
theorem jnd_lt : ∀ (d k : Nat) (es : List (Nat × Nat)), d ≤ k → k < 8 → es.length = 2 ^ d → ltE es → (∀ e ∈ es, ofB ((k - d : Nat) : Int) (e.1 : Int) (e.2 : Int) = true) → (jnd d k es).1 < 2 ^ 64 ∧ (jnd d k es).2 < 2 ^ 64 := by
  intro d
  induction d with
  | zero => intro k es _ _ _ h _; exact h.at 0
  | succ d ih =>
    intro k es hd hk hl hes ho
    have hp : 2 ^ (d + 1) = 2 ^ d + 2 ^ d := by rw [Nat.pow_succ]; omega
    have hs : k - 1 - d = k - (d + 1) := by omega
    exact jn_lt k hk _ _ (ih (k - 1) _ (by omega) (by omega) (by rw [List.length_drop]; omega) (fun e he => hes e (List.mem_of_mem_drop he)) (fun e he => by rw [hs]; exact ho e (List.mem_of_mem_drop he))).2
      (ih (k - 1) _ (by omega) (by omega) (by rw [List.length_take]; omega) (fun e he => hes e (List.mem_of_mem_take he)) (fun e he => by rw [hs]; exact ho e (List.mem_of_mem_take he))).2 (jnd_of (d + 1) k es hd hk hl ho)
theorem gB_lt (k q : Nat) (hk : k < 8) (bs : List Bool) (hq : bs.length = q * 2 ^ k) (i : Nat) (hi : i < q) : ((gB k q bs).getD i (0, 0)).1 < 2 ^ 64 ∧ ((gB k q bs).getD i (0, 0)).2 < 2 ^ 64 := by
  rw [gB_at k q bs i hi]
  exact jnd_lt k k _ (Nat.le_refl _) hk (gB_part k q bs hq i hi) (fun e he => bE_lt bs e (List.mem_of_mem_drop (List.mem_of_mem_take he))) (gB_parts k bs i)
theorem gB_bit (k q : Nat) (hk : k < 8) (bs : List Bool) (hq : bs.length = q * 2 ^ k) (i : Nat) (hi : i < q) (m : Nat) (hm : m < 2 ^ k) : hasB ((gB k q bs).getD i (0, 0)).1 ((gB k q bs).getD i (0, 0)).2 m = bs.getD (i * 2 ^ k + m) false := by
  rw [gB_at k q bs i hi, jnd_has k k _ (Nat.le_refl _) hk (gB_part k q bs hq i hi) (gB_parts k bs i) m hm, Nat.sub_self, show (2 : Nat) ^ 0 = 1 by decide, Nat.div_one, Nat.mod_one, getD_take _ _ _ _ hm, getD_drop, bE_at]
  cases bs.getD (i * 2 ^ k + m) false <;> decide
theorem wbits_ok (k q : Nat) (hk : k < 8) (a : Option Addr) (cap : Nat) (bs : List Bool) (hn : bs.length ≤ 1000) (hq : bs.length = q * 2 ^ k) (W : World) (hr : BRow W a bs) :
    Calls Try.prog 32 #[.int .i64 (k : Int), .slice a bs.length cap] W fun e w' => ∃ p, e = .returned (.tuple #[.slice (some ⟨p, 0, none⟩) q q, .int .i64 0]) ∧ ERow w' (some ⟨p, 0, none⟩) (gB k q bs) ∧ Below W.heap.size W w' := by
  refine (wbits_core (k : Int) a cap bs hn W hr (fun x y w' => ∃ p, x = .slice (some ⟨p, 0, none⟩) q q ∧ y = .int .i64 0 ∧ ERow w' (some ⟨p, 0, none⟩) (gB k q bs)) ?_).mono ?_
  · intro w g hb hE
    have := gather_ok 0 k k q (Nat.zero_add k) hk (some ⟨g, 0, none⟩) g 0 bs.length (bE bs) (gB k q bs) (.inr rfl) (by rw [bE_len]; exact hq) (by rw [bE_len]; omega) (by rw [bE_len]; exact Nat.le_refl _) (bE_lt bs) (List.all_eq_true.2 (bE_of bs)) (gB_len k q bs) (fun i hi => gB_at k q bs i hi) w hE
    rw [bE_len] at this
    refine this.mono ?_
    rintro e w' ⟨p, rfl, h1, _, h2⟩
    exact ⟨_, _, rfl, ⟨p, rfl, rfl, h1⟩, h2⟩
  · rintro e w' ⟨x, y, rfl, ⟨p, rfl, rfl, h1⟩, h2⟩
    exact ⟨p, rfl, h1, h2⟩
theorem wbits_size (k : Nat) (hk : k < 8) (a : Option Addr) (cap : Nat) (bs : List Bool) (hn : bs.length ≤ 1000) (hq : ¬ bs.length % 2 ^ k = 0) (W : World) (hr : BRow W a bs) :
    Calls Try.prog 32 #[.int .i64 (k : Int), .slice a bs.length cap] W fun e w' => e = .returned (.tuple #[.slice none 0 0, .int .i64 6]) ∧ Below W.heap.size W w' := by
  refine (wbits_core (k : Int) a cap bs hn W hr (fun x y _ => x = .slice none 0 0 ∧ y = .int .i64 6) ?_).mono ?_
  · intro w g hb hE
    refine (gather_size 0 k k (2 ^ k) (Nat.zero_add k) hk rfl (some ⟨g, 0, none⟩) bs.length bs.length hq w).mono ?_
    rintro e w' ⟨rfl, h2⟩
    exact ⟨_, _, rfl, ⟨rfl, rfl⟩, h2⟩
  · rintro e w' ⟨x, y, rfl, ⟨rfl, rfl⟩, h2⟩
    exact ⟨rfl, h2⟩
theorem wbits_arg (l : Int) (hl : ¬ (0 ≤ l ∧ l ≤ 7)) (a : Option Addr) (cap : Nat) (bs : List Bool) (hn : bs.length ≤ 1000) (W : World) (hr : BRow W a bs) :
    Calls Try.prog 32 #[.int .i64 l, .slice a bs.length cap] W fun e w' => e = .returned (.tuple #[.slice none 0 0, .int .i64 1]) ∧ Below W.heap.size W w' := by
  refine (wbits_core l a cap bs hn W hr (fun x y _ => x = .slice none 0 0 ∧ y = .int .i64 1) ?_).mono ?_
  · intro w g hb hE
    refine (gather_arg 0 l (by omega) _ w).mono ?_
    rintro e w' ⟨rfl, h2⟩
    exact ⟨_, _, rfl, ⟨rfl, rfl⟩, h2⟩
  · rintro e w' ⟨x, y, rfl, ⟨rfl, rfl⟩, h2⟩
    exact ⟨rfl, h2⟩
end Go.Proofs.Ytjdfbjdbfncofaa

/- Contracts of steepleref02.Mul and X over the seat's translation. -/
namespace Go.Proofs.Ytjdfbjdbfncofaa
open Go.RowKit
open Tw (pm)

/-- Two elements and a room, as Mul lays them. -/
structure Mst (W w : World) (ah al bh bl : Nat) : Prop where
  a : Ew w W.heap.size ah al
  b : Ew w (W.heap.size + 1) bh bl
  r : Ew w (W.heap.size + 1 + 1) 0 0
  d : Below W.heap.size W w
theorem Mst.below {W w w' : World} {ah al bh bl : Nat} (h : Mst W w ah al bh bl) (hb : Below w.heap.size w w') : Mst W w' ah al bh bl :=
  ⟨h.a.below hb, h.b.below hb, h.r.below hb, h.d.trans (hb.mono h.d.size)⟩
theorem mst_new (W : World) (ah al bh bl : Nat) : Mst W (((W.alloc (Obj.cells #[.int .u64 (ah : Int), .int .u64 (al : Int)] 30)).alloc (Obj.cells #[.int .u64 (bh : Int), .int .u64 (bl : Int)] 30)).alloc (Obj.cells #[.int .u64 0, .int .u64 0] 30)) ah al bh bl :=
  ⟨⟨⟨by simp [go_sem], by simp [go_sem]⟩, by simp [go_sem], by simp [go_sem]⟩, ⟨⟨by simp [go_sem], by simp [go_sem]⟩, by simp [go_sem], by simp [go_sem]⟩, ⟨⟨by simp [go_sem], by simp [go_sem]⟩, by simp [go_sem], by simp [go_sem]⟩, by go_grown⟩
end Go.Proofs.Ytjdfbjdbfncofaa

/- Contracts of tower.Bit, Bits, Split and Join, and of steepleref02.Bit and Level, over the seat's translation. -/
namespace Go.Proofs.Ytjdfbjdbfncofaa
open Go.RowKit
open Tw (px pm)

/-- The pair with the bit n alone: none, where there is no such bit. -/
def bv (n : Int) : Nat × Nat := if 0 ≤ n ∧ n ≤ 127 then Tw.bitp n.toNat else (0, 0)
set_option maxHeartbeats 400000 in
theorem bit_low (n : Nat) (hn : n < 64) : Ret 21 #[.int .i64 (n : Int)] (.agg #[.int .u64 0, .int .u64 ((2 ^ n : Nat) : Int)]) := by
  intro W
  go_enter Try.func21, Try.ntmps21
  go_wp2
  refine bodyPost_ret (v := .agg #[.int .u64 0, .int .u64 (IntKind.u64.wrap (2 ^ n))]) (by simp [results, Try.results21, go_sem]) rfl ⟨by rw [wrap_pow n hn], ?_⟩
  go_grown
set_option maxHeartbeats 400000 in
theorem bit_high (n : Nat) (hn : 64 ≤ n) (hn2 : n < 128) : Ret 21 #[.int .i64 (n : Int)] (.agg #[.int .u64 ((2 ^ (n - 64) : Nat) : Int), .int .u64 0]) := by
  intro W
  go_enter Try.func21, Try.ntmps21
  go_wp2
  refine bodyPost_ret (v := .agg #[.int .u64 (IntKind.u64.wrap (2 ^ (n - 64))), .int .u64 0]) (by simp [results, Try.results21, go_sem]) rfl ⟨by rw [wrap_pow (n - 64) (by omega)], ?_⟩
  go_grown
set_option maxHeartbeats 800000 in
theorem bit_none (n : Int) (h : ¬ (0 ≤ n ∧ n ≤ 127)) : Ret 21 #[.int .i64 n] (.agg #[.int .u64 0, .int .u64 0]) := by
  intro W
  by_cases h0 : 0 ≤ n
  · have h7 : ¬ n ≤ 127 := fun h7 => h ⟨h0, h7⟩
    clear h
    go_enter Try.func21, Try.ntmps21
    go_wp2
    refine bodyPost_ret (v := .agg #[.int .u64 0, .int .u64 0]) (by simp [results, Try.results21, go_sem]) rfl ⟨rfl, ?_⟩
    go_grown
  · clear h
    go_enter Try.func21, Try.ntmps21
    go_wp2
    refine bodyPost_ret (v := .agg #[.int .u64 0, .int .u64 0]) (by simp [results, Try.results21, go_sem]) rfl ⟨rfl, ?_⟩
    go_grown
set_option maxHeartbeats 800000 in
theorem rbit_none (n : Int) (h : ¬ (0 ≤ n ∧ n ≤ 127)) : Ret 28 #[.int .i64 n] (.agg #[.int .u64 0, .int .u64 0]) := by
  intro W
  by_cases h0 : 0 ≤ n
  · have h7 : ¬ n ≤ 127 := fun h7 => h ⟨h0, h7⟩
    clear h
    go_enter Try.func28, Try.ntmps28
    go_wp2
    refine bodyPost_ret (v := .agg #[.int .u64 0, .int .u64 0]) (by simp [results, Try.results28, go_sem]) rfl ⟨rfl, ?_⟩
    go_grown
  · clear h
    go_enter Try.func28, Try.ntmps28
    go_wp2
    refine bodyPost_ret (v := .agg #[.int .u64 0, .int .u64 0]) (by simp [results, Try.results28, go_sem]) rfl ⟨rfl, ?_⟩
    go_grown
theorem bit_any (n : Int) : Ret 21 #[.int .i64 n] (.agg #[.int .u64 ((bv n).1 : Int), .int .u64 ((bv n).2 : Int)]) := by
  unfold bv
  by_cases h : 0 ≤ n ∧ n ≤ 127
  · rw [if_pos h]
    obtain ⟨m, rfl⟩ : ∃ m : Nat, n = (m : Int) := ⟨n.toNat, by omega⟩
    rw [Int.toNat_natCast]
    unfold Tw.bitp
    by_cases h2 : m < 64
    · rw [if_pos h2]; exact bit_low m h2
    · rw [if_neg h2]; exact bit_high m (by omega) (by omega)
  · rw [if_neg h]; exact bit_none n h
theorem rbit_any (n : Int) : Ret 28 #[.int .i64 n] (.agg #[.int .u64 ((bv n).1 : Int), .int .u64 ((bv n).2 : Int)]) := by
  unfold bv
  by_cases h : 0 ≤ n ∧ n ≤ 127
  · rw [if_pos h]
    obtain ⟨m, rfl⟩ : ∃ m : Nat, n = (m : Int) := ⟨n.toNat, by omega⟩
    rw [Int.toNat_natCast]
    unfold Tw.bitp
    by_cases h2 : m < 64
    · rw [if_pos h2]; exact rbit_low m h2
    · rw [if_neg h2]; exact rbit_high m (by omega) (by omega)
  · rw [if_neg h]; exact rbit_none n h

end Go.Proofs.Ytjdfbjdbfncofaa

/- Elements bit by bit: the sum of the bits that are set is the element; the parts of an element. No Go but the names. -/
namespace Go.Proofs.Ytjdfbjdbfncofaa
open Go.RowKit

/-- The sum of the first n bits of which f holds. -/
def rx (f : Nat → Bool) : Nat → Nat × Nat
  | 0 => (0, 0)
  | n + 1 => if f n then ((rx f n).1 ^^^ (bv (n : Int)).1, (rx f n).2 ^^^ (bv (n : Int)).2) else rx f n
theorem bv_has (n m : Nat) (hn : n < 128) (hm : m < 128) : hasB (bv (n : Int)).1 (bv (n : Int)).2 m = decide (m = n) := by
  unfold bv
  rw [if_pos (by omega), Int.toNat_natCast]
  unfold Tw.bitp hasB
  by_cases h1 : n < 64
  · rw [if_pos h1]
    by_cases h2 : m < 64
    · rw [if_pos h2]; simp only [Nat.testBit_two_pow]; exact decide_eq_decide.2 eq_comm
    · rw [if_neg h2]; simp only [Nat.zero_testBit]; exact (decide_eq_false (by omega)).symm
  · rw [if_neg h1]
    by_cases h2 : m < 64
    · rw [if_pos h2]; simp only [Nat.zero_testBit]; exact (decide_eq_false (by omega)).symm
    · rw [if_neg h2]; simp only [Nat.testBit_two_pow]; exact decide_eq_decide.2 (by omega)
theorem bv_lt2 (n : Int) : (bv n).1 < 2 ^ 64 ∧ (bv n).2 < 2 ^ 64 := by
  unfold bv
  split
  · unfold Tw.bitp
    split
    · exact ⟨Nat.two_pow_pos 64, Nat.pow_lt_pow_right (by decide) (by omega)⟩
    · exact ⟨Nat.pow_lt_pow_right (by decide) (by omega), Nat.two_pow_pos 64⟩
  · exact ⟨Nat.two_pow_pos 64, Nat.two_pow_pos 64⟩
theorem hasB_xor (a b c d m : Nat) : hasB (a ^^^ b) (c ^^^ d) m = (hasB a c m ^^ hasB b d m) := by
  unfold hasB
  split <;> rw [Nat.testBit_xor]
theorem rx_has (f : Nat → Bool) : ∀ n, n ≤ 128 → ∀ m, m < 128 → hasB (rx f n).1 (rx f n).2 m = (decide (m < n) && f m)
  | 0, _, m, _ => by simp [rx, hasB]
  | n + 1, hn, m, hm => by
    have ih := rx_has f n (by omega) m hm
    unfold rx
    by_cases hf : f n = true
    · rw [if_pos hf]
      show hasB (_ ^^^ _) (_ ^^^ _) m = _
      rw [hasB_xor, ih, bv_has n m (by omega) hm]
      by_cases h1 : m = n
      · subst h1; simp [hf]
      · by_cases h2 : m < n
        · simp [h1, h2, show m < n + 1 by omega]
        · simp [h1, h2, show ¬ m < n + 1 by omega]
    · rw [if_neg hf, ih]
      by_cases h1 : m = n
      · subst h1; simp at hf; simp [hf]
      · by_cases h2 : m < n
        · simp [h2, show m < n + 1 by omega]
        · simp [h2, show ¬ m < n + 1 by omega]
theorem rx_lt (f : Nat → Bool) : ∀ n, (rx f n).1 < 2 ^ 64 ∧ (rx f n).2 < 2 ^ 64
  | 0 => ⟨Nat.two_pow_pos 64, Nat.two_pow_pos 64⟩
  | n + 1 => by
    have ih := rx_lt f n
    unfold rx
    split
    · exact ⟨Nat.xor_lt_two_pow ih.1 (bv_lt2 _).1, Nat.xor_lt_two_pow ih.2 (bv_lt2 _).2⟩
    · exact ih
/-- Pairs of words are the same where all their bits are. -/
theorem pair_ext {a b : Nat × Nat} (ha : a.1 < 2 ^ 64 ∧ a.2 < 2 ^ 64) (hb : b.1 < 2 ^ 64 ∧ b.2 < 2 ^ 64) (h : ∀ m, m < 128 → hasB a.1 a.2 m = hasB b.1 b.2 m) : a = b := by
  refine Prod.ext ?_ ?_
  · apply Nat.eq_of_testBit_eq
    intro i
    by_cases hi : i < 64
    · have := h (64 + i) (by omega)
      unfold hasB at this
      rw [if_neg (by omega), if_neg (by omega), Nat.add_sub_cancel_left] at this
      exact this
    · rw [Nat.testBit_lt_two_pow (Nat.lt_of_lt_of_le ha.1 (Nat.pow_le_pow_right (by decide) (by omega))), Nat.testBit_lt_two_pow (Nat.lt_of_lt_of_le hb.1 (Nat.pow_le_pow_right (by decide) (by omega)))]
  · apply Nat.eq_of_testBit_eq
    intro i
    by_cases hi : i < 64
    · have := h i (by omega)
      unfold hasB at this
      rw [if_pos hi, if_pos hi] at this
      exact this
    · rw [Nat.testBit_lt_two_pow (Nat.lt_of_lt_of_le ha.2 (Nat.pow_le_pow_right (by decide) (by omega))), Nat.testBit_lt_two_pow (Nat.lt_of_lt_of_le hb.2 (Nat.pow_le_pow_right (by decide) (by omega)))]
/-- Behind its level an element has no bits. -/
theorem of_has {k : Nat} (hk : k < 8) {h l : Nat} (o : ofB (k : Int) (h : Int) (l : Int) = true) (m : Nat) (h1 : 2 ^ k ≤ m) (hm : m < 128) : hasB h l m = false := by
  rw [ofB_iff _ _ _ hk] at o
  rcases o with rfl | ⟨rfl, hl⟩
  · have : (2 : Nat) ^ 7 = 128 := by decide
    omega
  · unfold hasB
    split
    · exact Nat.testBit_lt_two_pow (Nat.lt_of_lt_of_le hl (Nat.pow_le_pow_right (by decide) h1))
    · exact Nat.zero_testBit _
/-- Parts that are joined, bit by bit. -/
theorem rx_jnd (d k : Nat) (es : List (Nat × Nat)) (hd : d ≤ k) (hk : k < 8) (hl : es.length = 2 ^ d) (hes : ltE es) (ho : ∀ e ∈ es, ofB ((k - d : Nat) : Int) (e.1 : Int) (e.2 : Int) = true) (f : Nat → Bool)
    (hf : ∀ n, n < 2 ^ k → f n = hasB (es.getD (n / 2 ^ (k - d)) (0, 0)).1 (es.getD (n / 2 ^ (k - d)) (0, 0)).2 (n % 2 ^ (k - d))) : rx f (2 ^ k) = jnd d k es := by
  have h7 : 2 ^ k ≤ 2 ^ 7 := Nat.pow_le_pow_right (by decide) (by omega)
  have e7 : (2 : Nat) ^ 7 = 128 := by decide
  refine pair_ext (rx_lt f _) (jnd_lt d k es hd hk hl hes ho) fun m hm => ?_
  rw [rx_has f _ (by omega) m hm]
  by_cases h : m < 2 ^ k
  · rw [jnd_has d k es hd hk hl ho m h, hf m h]; simp [h]
  · rw [of_has hk (jnd_of d k es hd hk hl ho) m (by omega) hm]; simp [h]
/-- The halves of an element of the level k. -/
def hf (k : Nat) (x : Nat × Nat) : Nat × Nat := if k = 7 then (0, x.1) else (0, x.2 / 2 ^ 2 ^ (k - 1))
def lf (k : Nat) (x : Nat × Nat) : Nat × Nat := if k = 7 then (0, x.2) else (0, x.2 % 2 ^ 2 ^ (k - 1))
/-- An element as 2^d parts, the lowest first. -/
def sp : Nat → Nat → Nat × Nat → List (Nat × Nat)
  | 0, _, x => [x]
  | d + 1, k, x => sp d (k - 1) (lf k x) ++ sp d (k - 1) (hf k x)
theorem sp_len : ∀ (d k : Nat) (x : Nat × Nat), (sp d k x).length = 2 ^ d
  | 0, _, _ => rfl
  | d + 1, k, x => by
    show (sp d (k - 1) _ ++ sp d (k - 1) _).length = _
    rw [List.length_append, sp_len, sp_len, Nat.pow_succ]; omega
theorem half_of (k : Nat) (h1 : 1 ≤ k) (hk : k < 8) (x : Nat × Nat) (hx : x.1 < 2 ^ 64 ∧ x.2 < 2 ^ 64) (o : ofB (k : Int) (x.1 : Int) (x.2 : Int) = true) : ofB ((k - 1 : Nat) : Int) ((lf k x).1 : Nat) ((lf k x).2 : Nat) = true ∧ ofB ((k - 1 : Nat) : Int) ((hf k x).1 : Nat) ((hf k x).2 : Nat) = true := by
  rw [ofB_iff _ _ _ hk] at o
  rw [ofB_iff _ _ _ (by omega), ofB_iff _ _ _ (by omega)]
  unfold lf hf
  by_cases h7 : k = 7
  · subst h7
    rw [if_pos rfl, if_pos rfl]
    exact ⟨.inr ⟨rfl, hx.2⟩, .inr ⟨rfl, hx.1⟩⟩
  · rw [if_neg h7, if_neg h7]
    have o := o.resolve_left h7
    have e : 2 ^ 2 ^ k = 2 ^ 2 ^ (k - 1) * 2 ^ 2 ^ (k - 1) := by
      rw [← Nat.pow_add]; congr 1; obtain ⟨j, rfl⟩ : ∃ j, k = j + 1 := ⟨k - 1, by omega⟩; rw [Nat.add_sub_cancel, Nat.pow_succ]; omega
    refine ⟨.inr ⟨rfl, Nat.mod_lt _ (Nat.two_pow_pos _)⟩, .inr ⟨rfl, ?_⟩⟩
    show x.2 / 2 ^ 2 ^ (k - 1) < 2 ^ 2 ^ (k - 1)
    rw [Nat.div_lt_iff_lt_mul (Nat.two_pow_pos _), ← e]
    exact o.2
theorem lf_has (k : Nat) (hk : k < 8) (x : Nat × Nat) (m : Nat) (hm : m < 2 ^ (k - 1)) : hasB (lf k x).1 (lf k x).2 m = hasB x.1 x.2 m := by
  have h6 : 2 ^ (k - 1) ≤ 2 ^ 6 := Nat.pow_le_pow_right (by decide) (by omega)
  have e6 : (2 : Nat) ^ 6 = 64 := by decide
  unfold lf hasB
  by_cases h7 : k = 7
  · rw [if_pos h7, if_pos (by omega), if_pos (by omega)]
  · rw [if_neg h7, if_pos (by omega), if_pos (by omega)]
    show (x.2 % 2 ^ 2 ^ (k - 1)).testBit m = _
    rw [Nat.testBit_mod_two_pow]; simp [hm]
theorem hf_has (k : Nat) (h1 : 1 ≤ k) (hk : k < 8) (x : Nat × Nat) (m : Nat) (hm : m < 2 ^ (k - 1)) : hasB (hf k x).1 (hf k x).2 m = hasB x.1 x.2 (2 ^ (k - 1) + m) := by
  have h6 : 2 ^ (k - 1) ≤ 2 ^ 6 := Nat.pow_le_pow_right (by decide) (by omega)
  have e6 : (2 : Nat) ^ 6 = 64 := by decide
  unfold hf hasB
  by_cases h7 : k = 7
  · subst h7
    rw [if_pos rfl, if_pos (by omega), if_neg (by omega), show (2 : Nat) ^ (7 - 1) = 64 by decide, Nat.add_sub_cancel_left]
  · have h5 : 2 ^ (k - 1) ≤ 2 ^ 5 := Nat.pow_le_pow_right (by decide) (by omega)
    have e5 : (2 : Nat) ^ 5 = 32 := by decide
    rw [if_neg h7, if_pos (by omega), if_pos (by omega)]
    show (x.2 / 2 ^ 2 ^ (k - 1)).testBit m = _
    rw [Nat.testBit_div_two_pow, Nat.add_comm]
theorem getD_append_left {α : Type} (a b : List α) (i : Nat) (z : α) (h : i < a.length) : (a ++ b).getD i z = a.getD i z := by simp [List.getD, List.getElem?_append_left h]
theorem getD_append_right {α : Type} (a b : List α) (i : Nat) (z : α) (h : a.length ≤ i) : (a ++ b).getD i z = b.getD (i - a.length) z := by simp [List.getD, List.getElem?_append_right h]
/-- The parts of an element are of the lower level. -/
theorem half_lt (k : Nat) (_hk : k < 8) (x : Nat × Nat) (hx : x.1 < 2 ^ 64 ∧ x.2 < 2 ^ 64) : ((lf k x).1 < 2 ^ 64 ∧ (lf k x).2 < 2 ^ 64) ∧ ((hf k x).1 < 2 ^ 64 ∧ (hf k x).2 < 2 ^ 64) := by
  unfold lf hf
  by_cases h7 : k = 7
  · rw [if_pos h7, if_pos h7]; exact ⟨⟨Nat.two_pow_pos 64, hx.2⟩, Nat.two_pow_pos 64, hx.1⟩
  · rw [if_neg h7, if_neg h7]
    exact ⟨⟨Nat.two_pow_pos 64, Nat.lt_of_le_of_lt (Nat.mod_le _ _) hx.2⟩, Nat.two_pow_pos 64, Nat.lt_of_le_of_lt (Nat.div_le_self _ _) hx.2⟩
theorem sp_of : ∀ (d k : Nat) (x : Nat × Nat), d ≤ k → k < 8 → x.1 < 2 ^ 64 ∧ x.2 < 2 ^ 64 → ofB (k : Int) (x.1 : Int) (x.2 : Int) = true → ∀ e ∈ sp d k x, ofB ((k - d : Nat) : Int) (e.1 : Int) (e.2 : Int) = true ∧ e.1 < 2 ^ 64 ∧ e.2 < 2 ^ 64 := by
  intro d
  induction d with
  | zero => intro k x _ _ hx o e he; simp [sp] at he; subst he; exact ⟨o, hx⟩
  | succ d ih =>
    intro k x hd hk hx o e he
    have h := half_of k (by omega) hk x hx o
    have hl := half_lt k hk x hx
    have hs : k - 1 - d = k - (d + 1) := by omega
    rcases List.mem_append.1 (show e ∈ sp d (k - 1) (lf k x) ++ sp d (k - 1) (hf k x) from he) with h1 | h1
    · have := ih (k - 1) _ (by omega) (by omega) hl.1 h.1 e h1
      rwa [hs] at this
    · have := ih (k - 1) _ (by omega) (by omega) hl.2 h.2 e h1
      rwa [hs] at this
theorem sp_has : ∀ (d k : Nat) (x : Nat × Nat), d ≤ k → k < 8 → ∀ i, i < 2 ^ d → ∀ m, m < 2 ^ (k - d) → hasB ((sp d k x).getD i (0, 0)).1 ((sp d k x).getD i (0, 0)).2 m = hasB x.1 x.2 (i * 2 ^ (k - d) + m) := by
  intro d
  induction d with
  | zero =>
    intro k x _ _ i hi m _
    obtain rfl : i = 0 := by simpa using hi
    rw [Nat.zero_mul, Nat.zero_add]; rfl
  | succ d ih =>
    intro k x hd hk i hi m hm
    have hp : 2 ^ (d + 1) = 2 ^ d + 2 ^ d := by rw [Nat.pow_succ]; omega
    have hs : k - (d + 1) = k - 1 - d := by omega
    rw [hs] at hm ⊢
    have hP : 2 ^ (k - 1) = 2 ^ d * 2 ^ (k - 1 - d) := by rw [← Nat.pow_add]; congr 1; omega
    have hl : (sp d (k - 1) (lf k x)).length = 2 ^ d := sp_len _ _ _
    show hasB ((sp d (k - 1) (lf k x) ++ sp d (k - 1) (hf k x)).getD i (0, 0)).1 ((sp d (k - 1) (lf k x) ++ sp d (k - 1) (hf k x)).getD i (0, 0)).2 m = _
    by_cases h : i < 2 ^ d
    · have hb : i * 2 ^ (k - 1 - d) + m < 2 ^ (k - 1) := by
        have := Nat.mul_le_mul_right (2 ^ (k - 1 - d)) (show i + 1 ≤ 2 ^ d from h)
        rw [Nat.add_mul, Nat.one_mul, ← hP] at this
        omega
      rw [getD_append_left _ _ _ _ (by omega), ih (k - 1) _ (by omega) (by omega) i h m hm, lf_has k hk x _ hb]
    · have h2 : i - 2 ^ d < 2 ^ d := by omega
      have hb : (i - 2 ^ d) * 2 ^ (k - 1 - d) + m < 2 ^ (k - 1) := by
        have := Nat.mul_le_mul_right (2 ^ (k - 1 - d)) (show i - 2 ^ d + 1 ≤ 2 ^ d from h2)
        rw [Nat.add_mul, Nat.one_mul, ← hP] at this
        omega
      rw [getD_append_right _ _ _ _ (by omega), hl, ih (k - 1) _ (by omega) (by omega) (i - 2 ^ d) h2 m hm, hf_has k (by omega) hk x _ hb]
      congr 1
      rw [Nat.sub_mul, ← hP]
      have := Nat.mul_le_mul_right (2 ^ (k - 1 - d)) (show 2 ^ d ≤ i by omega)
      rw [← hP] at this
      omega
/-- A part of an element, bit by bit. -/
theorem sp_rx (d k : Nat) (x : Nat × Nat) (hd : d ≤ k) (hk : k < 8) (hx : x.1 < 2 ^ 64 ∧ x.2 < 2 ^ 64) (o : ofB (k : Int) (x.1 : Int) (x.2 : Int) = true) (i : Nat) (hi : i < 2 ^ d) (f : Nat → Bool) (hf : ∀ n, n < 2 ^ (k - d) → f n = hasB x.1 x.2 (i * 2 ^ (k - d) + n)) : rx f (2 ^ (k - d)) = (sp d k x).getD i (0, 0) := by
  have hl : i < (sp d k x).length := by rw [sp_len]; exact hi
  have he : (sp d k x).getD i (0, 0) ∈ sp d k x := by rw [show (sp d k x).getD i (0, 0) = (sp d k x)[i] by simp [hl]]; exact List.getElem_mem hl
  have hE := sp_of d k x hd hk hx o _ he
  have h7 : 2 ^ (k - d) ≤ 2 ^ 7 := Nat.pow_le_pow_right (by decide) (by omega)
  have e7 : (2 : Nat) ^ 7 = 128 := by decide
  refine pair_ext (rx_lt f _) hE.2 fun m hm => ?_
  rw [rx_has f _ (by omega) m hm]
  by_cases h : m < 2 ^ (k - d)
  · rw [sp_has d k x hd hk i hi m h, hf m h]; simp [h]
  · rw [of_has (by omega) hE.1 m (by omega) hm]; simp [h]
/-- What is parted is joined as it was. -/
theorem jnd_sp (d k : Nat) (x : Nat × Nat) (hd : d ≤ k) (hk : k < 8) (hx : x.1 < 2 ^ 64 ∧ x.2 < 2 ^ 64) (o : ofB (k : Int) (x.1 : Int) (x.2 : Int) = true) : jnd d k (sp d k x) = x := by
  have ho := sp_of d k x hd hk hx o
  have h7 : 2 ^ k ≤ 2 ^ 7 := Nat.pow_le_pow_right (by decide) (by omega)
  have e7 : (2 : Nat) ^ 7 = 128 := by decide
  have hQ : 0 < 2 ^ (k - d) := Nat.two_pow_pos _
  have hP : 2 ^ k = 2 ^ d * 2 ^ (k - d) := by rw [← Nat.pow_add]; congr 1; omega
  refine pair_ext (jnd_lt d k _ hd hk (sp_len d k x) (fun e he => (ho e he).2) (fun e he => (ho e he).1)) hx fun m hm => ?_
  by_cases h : m < 2 ^ k
  · rw [jnd_has d k _ hd hk (sp_len d k x) (fun e he => (ho e he).1) m h, sp_has d k x hd hk _ (by rw [Nat.div_lt_iff_lt_mul hQ, ← hP]; exact h) _ (Nat.mod_lt _ hQ), Nat.mul_comm, Nat.div_add_mod]
  · rw [of_has hk (jnd_of d k _ hd hk (sp_len d k x) (fun e he => (ho e he).1)) m (by omega) hm, of_has hk o m (by omega) hm]
/-- What is joined is parted as it was. -/
theorem sp_jnd (d k : Nat) (es : List (Nat × Nat)) (hd : d ≤ k) (hk : k < 8) (hl : es.length = 2 ^ d) (hes : ltE es) (ho : ∀ e ∈ es, ofB ((k - d : Nat) : Int) (e.1 : Int) (e.2 : Int) = true) : sp d k (jnd d k es) = es := by
  have hj := jnd_lt d k es hd hk hl hes ho
  have oj := jnd_of d k es hd hk hl ho
  have h7 : 2 ^ (k - d) ≤ 2 ^ 7 := Nat.pow_le_pow_right (by decide) (by omega)
  have e7 : (2 : Nat) ^ 7 = 128 := by decide
  have hQ : 0 < 2 ^ (k - d) := Nat.two_pow_pos _
  have hP : 2 ^ k = 2 ^ d * 2 ^ (k - d) := by rw [← Nat.pow_add]; congr 1; omega
  apply List.ext_getElem (by rw [sp_len, hl])
  intro i h1 h2
  have hi : i < 2 ^ d := by rw [sp_len] at h1; exact h1
  have g1 : (sp d k (jnd d k es))[i] = (sp d k (jnd d k es)).getD i (0, 0) := by simp [h1]
  have g2 : es[i] = es.getD i (0, 0) := by simp [h2]
  have hE := sp_of d k _ hd hk hj oj _ (List.getElem_mem h1)
  have hO := ho _ (List.getElem_mem h2)
  refine pair_ext hE.2 (hes _ (List.getElem_mem h2)) fun m hm => ?_
  by_cases h : m < 2 ^ (k - d)
  · have hb : i * 2 ^ (k - d) + m < 2 ^ k := by
      have := Nat.mul_le_mul_right (2 ^ (k - d)) (show i + 1 ≤ 2 ^ d from hi)
      rw [Nat.add_mul, Nat.one_mul, ← hP] at this
      omega
    rw [g1, g2, sp_has d k _ hd hk i hi m h, jnd_has d k es hd hk hl ho _ hb, Nat.add_comm, Nat.add_mul_div_right _ _ hQ, Nat.div_eq_of_lt h, Nat.zero_add, Nat.add_mul_mod_self_right, Nat.mod_eq_of_lt h]
  · rw [of_has (by omega) hE.1 m (by omega) hm, of_has (by omega) hO m (by omega) hm]
end Go.Proofs.Ytjdfbjdbfncofaa
