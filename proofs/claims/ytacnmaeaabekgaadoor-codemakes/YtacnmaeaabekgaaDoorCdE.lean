/- A law on copy for elements of any number of cells; contracts of code.New, of code's Size, Long, Level, hindrance and Encode (words of two elements), and of steeplelaw08.awake, over the seat's translation. -/
import Derived.Test.YtacnmaeaabekgaaDoorProg
import Derived.Laws.CopyOwn
import Derived.Laws.CopyRow
import Derived.Laws.IdiomCopy
import Derived.WalkKit
import Derived.OwnWalk
import Derived.Test.YtacnmaeaabekgaaDoorCdB
import Derived.Test.YtacnmaeaabekgaaDoorSmA
namespace Go.Proofs.YtacnmaeaabekgaaDoor
open Go.RowKit

theorem run_copy_wide {P : Program} (w : World) (dT sT ty elem : TypeId) (size g o dLen dCap : Nat) (a : Addr) (sLen sCap m : Nat) (cur : Array Value) (t : TypeId) (cs : List Value)
    (hu : P.underlying dT = some (.slice elem)) (hs : (P.info? elem).map (·.size) = some size)
    (hg : w.heap[g]? = some (.cells cur t (0, 0))) (hm : Nat.min sLen dLen = m) (hn : cs.length = m * size)
    (hsrc : ∀ j v, cs[j]? = some v → w.cell? (a.add j) = some v) (hfit : o + cs.length ≤ cur.size) (h1 : ∀ v ∈ cs, v.oneCell' = true) :
    (Builtin.copy_ #[dT, sT] ty #[.slice (some ⟨g, o, none⟩) dLen dCap, .slice (some a) sLen sCap]).run P w =
      .ok (goInt m) (w.setRow g (cur.toList.take o ++ cs ++ cur.toList.drop (o + cs.length)).toArray) := by
  have hl := run_loadCells_list (P := P) w a cs hsrc
  have hst := run_storeCells_at P g o t cs 0 cur w hg (by simpa using hfit) h1
  cases hq : P.info? elem with
  | none => simp [hq] at hs
  | some i =>
    have hi : i.size = size := by simpa [hq] using hs
    simp [Builtin.copy_, run_underlying hu, Builtin.lenOf, Builtin.firstCells, sizeOf, typeInfo, hq, hi, hm, ← hn, hl, hst]
theorem wpList_copy_wide {P : Program} {w : World} {ops : Array Oper} {rest : List Oper} {o : Oper} {a : Act} {Q : Exit → Act → World → Prop} (hgd : o.guard = none) (d s : Operand) (dT sT : TypeId)
    (ho : o.op = .call { callee := .builtin .copy, args := #[d, s], argTypes := #[dT, sT] }) (elem : TypeId) (size : Nat) (hu : P.underlying dT = some (.slice elem)) (hsz : (P.info? elem).map (·.size) = some size)
    (g off dLen dCap : Nat) (ad : Addr) (sLen sCap m : Nat) (hd : a.eval d = .slice (some ⟨g, off, none⟩) dLen dCap) (hs : a.eval s = .slice (some ad) sLen sCap)
    (cur : Array Value) (t : TypeId) (hg : w.heap[g]? = some (.cells cur t (0, 0))) (cs : List Value) (hm : Nat.min sLen dLen = m) (hn : cs.length = m * size)
    (hsrc : ∀ j v, cs[j]? = some v → w.cell? (ad.add j) = some v) (hfit : off + cs.length ≤ cur.size) (h1 : ∀ v ∈ cs, v.oneCell' = true)
    (B : Nat) (w0 : World) (hb : Below B w0 w) (hBg : B ≤ g)
    (h : ∀ w', w'.heap[g]? = some (.cells (cur.toList.take off ++ cs ++ cur.toList.drop (off + cs.length)).toArray t (0, 0)) → Below B w0 w' → wpList P ops Q rest (a.put o.dst (goInt m)) w') : wpList P ops Q (o :: rest) a w := by
  refine wpList_plain hgd fun K hK => ?_
  have hrun := run_copy_wide (P := P) w dT sT o.type elem size g off dLen dCap ad sLen sCap m cur t cs hu hsz hg hm hn hsrc hfit h1
  unfold Oper.wp
  simp only [execOp, ho, resolve, invoke, builtin, Sem.run_bind, Sem.run_pure, Result.andThen_ok, List.map_toArray, List.map_cons, List.map_nil, hd, hs, hrun]
  exact hK _ _ (h _ (setRow_heap w g _ _ t _ hg) (below_setRow hb hBg _))

/-- A code that lies at C: its space at p. -/
structure Cod (w : World) (l k n C p : Nat) : Prop where
  c0 : w.cell? ⟨C, 0, none⟩ = some (.pointer (some ⟨p, 0, none⟩))
  c1 : w.cell? ⟨C, 1, none⟩ = some (.int .i64 ((2 ^ k : Nat) : Int))
  sp : Sp w l n p
theorem Cod.below {w w' : World} {l k n C p : Nat} (h : Cod w l k n C p) (hb : Below w.heap.size w w') : Cod w' l k n C p := ⟨keepc hb h.c0, keepc hb h.c1, h.sp.below hb⟩
theorem wrap_two_i (n : Nat) (hn : n ≤ 10) : IntKind.i64.wrap (2 ^ n) = ((2 ^ n : Nat) : Int) := by
  have h1 : 2 ^ n ≤ 2 ^ 10 := Nat.pow_le_pow_right (by decide) hn
  rw [IntKind.wrap_i64, show (2 : Int) ^ n = ((2 ^ n : Nat) : Int) by simp]
  generalize 2 ^ n = p at *
  omega
set_option maxHeartbeats 1000000 in
set_option maxRecDepth 100000 in
theorem new_ok (l k r n P : Nat) (hP : P = 2 ^ l) (hl : l < 8) (hn : k + r = n) (h10 : n ≤ 10) (h2 : n ≤ 2 ^ l) (W : World) :
    Calls Tryd.prog 8 #[.int .i64 (l : Int), .int .i64 (k : Int), .int .i64 (r : Int)] W fun e w' => ∃ C p, e = .returned (.tuple #[.pointer (some ⟨C, 0, none⟩), .int .i64 0]) ∧ Cod w' l k n C p ∧ Below W.heap.size W w' := by
  have HP := plain_full l n hl h10 h2 W
  have h1 : IntKind.i64.wrap (2 ^ l) = (P : Int) := by rw [hP]; exact wrap_two_i l (by omega)
  have h3 : IntKind.i64.wrap (2 ^ k) = ((2 ^ k : Nat) : Int) := wrap_two_i k (by omega)
  have hp8 : P ≤ 2 ^ 7 := by rw [hP]; exact Nat.pow_le_pow_right (by decide) (by omega)
  have a1 : ¬ (l : Int) < 0 := by omega
  have a2 : ¬ (7 : Int) < (l : Int) := by omega
  have a3 : ¬ (k : Int) < 0 := by omega
  have a4 : ¬ (r : Int) < 0 := by omega
  have a5 : (l : Int) < 64 := by omega
  have a6 : (k : Int) < 64 := by omega
  have a7 : IntKind.i64.wrap ((k : Int) + r) = (n : Int) := by rw [IntKind.wrap_i64]; omega
  rw [← hP] at h2
  clear hP
  go_enter Tryd.func8, Tryd.ntmps8
  go_wp2_with (go_at_call 28; refine HP.mono ?_; rintro e w1 ⟨p, rfl, hS, hpp, hb1⟩)
  refine bodyPost_ret (v := .tuple #[.pointer (some ⟨w1.heap.size, 0, none⟩), .int .i64 0]) (by simp [results, Tryd.results8, go_sem]) rfl ?_
  exact ⟨_, p, rfl, ⟨by simp [go_sem], by simp [go_sem], hS.below ((Below.refl _ _).alloc (Nat.le_refl _) _)⟩, hb1.alloc hb1.size _⟩
theorem csize (l k n C p : Nat) (W : World) (h : Cod W l k n C p) : Calls Tryd.prog 11 #[.pointer (some ⟨C, 0, none⟩)] W fun e w' => e = .returned (.int .i64 ((2 ^ k : Nat) : Int)) ∧ Below W.heap.size W w' := by
  have c1 := h.c1
  clear h
  generalize 2 ^ k = m at *
  go_enter Tryd.func11, Tryd.ntmps11
  go_wp2
  go_ret
  exact ⟨rfl, by first | exact Below.refl _ _ | go_grown⟩
set_option maxHeartbeats 400000 in
theorem clong (l k n C p : Nat) (hn : n ≤ 10) (W : World) (h : Cod W l k n C p) : Calls Tryd.prog 12 #[.pointer (some ⟨C, 0, none⟩)] W fun e w' => e = .returned (.int .i64 ((2 ^ n : Nat) : Int)) ∧ Below W.heap.size W w' := by
  have c0 := h.c0
  obtain ⟨a, c, c1⟩ := h.sp.c1
  have h3 : IntKind.i64.wrap (2 ^ n) = ((2 ^ n : Nat) : Int) := wrap_two_i n hn
  have a6 : (n : Int) < 64 := by omega
  have a7 : (0 : Int) ≤ (n : Int) := by omega
  have HD := dim_any p n c a W c1
  clear h c1
  go_enter Tryd.func12, Tryd.ntmps12
  go_wp2_with (go_at_call 29; refine HD.mono ?_; rintro e w1 ⟨rfl, hb1⟩)
  go_ret
  exact ⟨rfl, hb1⟩
set_option maxHeartbeats 400000 in
theorem clevel (l k n C p : Nat) (W : World) (h : Cod W l k n C p) : Calls Tryd.prog 13 #[.pointer (some ⟨C, 0, none⟩)] W fun e w' => e = .returned (.int .i64 (l : Int)) ∧ Below W.heap.size W w' := by
  have c0 := h.c0
  have HD := splevel l n p W h.sp
  clear h
  go_enter Tryd.func13, Tryd.ntmps13
  go_wp2_with (go_at_call 30; refine HD.mono ?_; rintro e w1 ⟨rfl, hb1⟩)
  go_ret
  exact ⟨rfl, hb1⟩

structure Ist (W w : World) (l k n C p : Nat) (a : Option Addr) (es : List (Nat × Nat)) : Prop where
  d : Below W.heap.size W w
  cod : Cod w l k n C p
  row : ERow w a es
theorem Ist.below {W w w' : World} {l k n C p : Nat} {a : Option Addr} {es : List (Nat × Nat)} (h : Ist W w l k n C p a es) (hb : Below w.heap.size w w') : Ist W w' l k n C p a es := ⟨h.d.trans (hb.mono h.d.size), h.cod.below hb, h.row.below hb⟩
theorem Ist.drew {W w : World} {l k n C p : Nat} {a : Option Addr} {es : List (Nat × Nat)} (h : Ist W w l k n C p a es) : Ist W w.drew l k n C p a es := h.below (Below.refl _ _).drew
set_option maxHeartbeats 2000000 in
set_option maxRecDepth 100000 in
theorem chind (l k n C p : Nat) (a : Option Addr) (cap : Nat) (es : List (Nat × Nat)) (hes : ltE es) (ho : ∀ e ∈ es, ofB (l : Int) (e.1 : Int) (e.2 : Int) = true) (h10 : es.length ≤ 1000) (W : World) (h : Cod W l k n C p) (hr : ERow W a es) :
    Calls Tryd.prog 31 #[.pointer (some ⟨C, 0, none⟩), .int .i64 0, .slice a es.length cap, .int .i64 (es.length : Int)] W fun e w' => e = .returned (.int .i64 0) ∧ Below W.heap.size W w' := by
  have HL : Hid (∀ w, Cod w l k n C p → Calls Tryd.prog 13 #[.pointer (some ⟨C, 0, none⟩)] w fun e w' => e = .returned (.int .i64 (l : Int)) ∧ Below w.heap.size w w') := fun w h => clevel l k n C p w h
  have HX : Hid (∀ j, j < es.length → Ret 44 #[.int .i64 (l : Int), .agg #[.int .u64 ((es.getD j (0, 0)).1 : Int), .int .u64 ((es.getD j (0, 0)).2 : Int)]] (.bool true)) := fun j hj => by
    have := of_ret (l : Int) (es.getD j (0, 0)).1 (es.getD j (0, 0)).2 (hes.at j).2
    rw [show ofB (l : Int) ((es.getD j (0, 0)).1 : Int) ((es.getD j (0, 0)).2 : Int) = true from by
      rw [show es.getD j (0, 0) = es[j] by simp [hj]]; exact ho _ (List.getElem_mem hj)] at this
    exact this
  have KK : Hid (Ist W W l k n C p a es) := ⟨Below.refl _ _, h, hr⟩
  clear h hr hes ho
  go_enter Tryd.func31, Tryd.ntmps31
  go_wp2_with fail
  go_loopw [26] (fun u wr => ∃ j : Nat, j ≤ es.length ∧ u = .int .i64 j ∧ Ist W wr l k n C p a es) (fun u _ => es.length - (intOf u).toNat)
  case atStart => exact ⟨0, Nat.zero_le _, rfl, KK.out⟩
  case round =>
    obtain ⟨j, hj, rfl, hK⟩ := hrel
    have KK : Hid (Ist W wr l k n C p a es) := hK
    clear hK
    by_cases hlt : j < es.length
    · obtain ⟨p', o', rfl, _, d1, d0⟩ := KK.out.row.cells j hlt
      have HZ := HX.out j hlt
      generalize es.getD j (0, 0) = z at HZ d1 d0
      go_wp2_with fail
      have D0 : Below wr.heap.size wr (wr.alloc (Obj.cells #[.int .u64 (z.1 : Int), .int .u64 (z.2 : Int)] 39)) := (Below.refl _ _).alloc (Nat.le_refl _) _
      have K := KK.out.below D0
      have E : El (wr.alloc (Obj.cells #[.int .u64 (z.1 : Int), .int .u64 (z.2 : Int)] 39)) wr.heap.size z.1 z.2 := ⟨by simp [go_sem], by simp [go_sem]⟩
      clear D0 KK d1 d0
      generalize wr.alloc (Obj.cells #[.int .u64 (z.1 : Int), .int .u64 (z.2 : Int)] 39) = w5 at *
      generalize wr.heap.size = b at *
      have F := And.intro E.hi E.lo
      go_region_held3 (fun w => w.cell? ⟨b, 0, none⟩ = some (.int .u64 (z.1 : Int)) ∧ w.cell? ⟨b, 1, none⟩ = some (.int .u64 (z.2 : Int))) (go_keep) (first | (go_at_call 13; refine (HL.out _ (by first | exact K.cod | exact K.drew.cod)).mono ?_; rintro e w' ⟨rfl, hb'⟩; have K' := Ist.below (w' := w') (by first | exact K | exact K.drew) hb'; have E' : El w' b z.1 z.2 := ⟨keepc hb' E.hi, keepc hb' E.lo⟩; clear F K E hb'; have K := K'; have E := E'; clear K' E'; have F := And.intro E.hi E.lo) | (go_at_call 44; refine (HZ.go _).mono ?_; rintro e w' ⟨rfl, hb'⟩; have K' := Ist.below (w' := w') (by first | exact K | exact K.drew) hb'; have E' : El w' b z.1 z.2 := ⟨keepc hb' E.hi, keepc hb' E.lo⟩; clear F K E hb'; have K := K'; have E := E'; clear K' E'; have F := And.intro E.hi E.lo))
      go_wp2
      exact ⟨⟨j + 1, hlt, by simp, K⟩, by simp [intOf]; omega⟩
    · obtain rfl : j = es.length := by omega
      go_wp2
      go_ret
      exact ⟨rfl, KK.out.d⟩
theorem erow_heap {w : World} {g : Nat} {t : TypeId} {es : List (Nat × Nat)} (h : w.heap[g]? = some (.cells (flat es).toArray t (0, 0))) : ERow w (some ⟨g, 0, none⟩) es := ⟨fun i hi => by
  have hl : g < w.heap.size := by
    rcases Nat.lt_or_ge g w.heap.size with h2 | h2
    · exact h2
    · rw [Array.getElem?_eq_none h2] at h; cases h
  obtain ⟨f1, f0⟩ := flat_at es i hi
  refine ⟨g, 0, rfl, hl, ?_, ?_⟩
  · rw [Nat.zero_add]; simp [World.cell?, h, f1]
  · rw [Nat.zero_add]; simp [World.cell?, h, f0]⟩
theorem own_cur {w : World} {base : Nat} {T : TypeId} {g : Nat} (h : w.ownsRow base T 2 (.slice (some ⟨g, 0, none⟩) 2 2) 2 (madeCells (Value.agg #[.int .u64 0, .int .u64 0]).cells (2 * 2)).toList) : ∃ cur, w.heap[g]? = some (.cells cur T (0, 0)) ∧ cur.toList = flat [(0, 0), (0, 0)] := by
  rcases h.2 with ⟨h1, _⟩ | ⟨g', cap, cur, e, _, hg, _, _, hs, ht⟩
  · injection h1 with h2; cases h2
  · injection e with e1 e2 e3
    obtain rfl : g = g' := by injection e1 with e4; injection e4
    subst e3
    refine ⟨cur, hg, ?_⟩
    have hl : cur.toList.length = 4 := by rw [Array.length_toList, hs]
    rw [List.take_of_length_le (by omega)] at ht
    rw [ht]
    have hc : (Value.agg #[.int .u64 0, .int .u64 0]).cells = #[.int .u64 0, .int .u64 0] := by simp [Value.cells]
    rw [hc]
    simp [madeCells, flat, show List.range 4 = [0, 1, 2, 3] from rfl]
theorem copied {W : World} {B : Nat} (_ : Below B W W) (w : World) (g b off cap : Nat) (es : List (Nat × Nat)) (cur : Array Value) (i0 : TypeInfo) (hi : Tryd.prog.info? 39 = some i0) (hz : i0.size = 2) (hg : w.heap[g]? = some (.cells cur 39 (0, 0))) (hcl : cur.toList = flat [(0, 0), (0, 0)]) (hmin : Nat.min es.length 2 = es.length)
    (hr : ERow w (some ⟨b, off, none⟩) es) (hb : Below B W w) (hB : B ≤ g) (h2 : es.length ≤ 2) :
    ∃ w', (Builtin.copy_ #[33, 33] 3 #[.slice (some ⟨g, 0, none⟩) 2 2, .slice (some ⟨b, off, none⟩) es.length cap]).run Tryd.prog w = .ok (goInt es.length) w' ∧ w'.heap[g]? = some (.cells (flat es ++ (flat [(0, 0), (0, 0)]).drop (es.length * 2)).toArray 39 (0, 0)) ∧ Below B W w' := by
  have hrun := run_copy_wide (P := Tryd.prog) w 33 33 3 39 2 g 0 2 2 ⟨b, off, none⟩ es.length cap es.length cur 39 (flat es) Tryd.underlying33 (by rw [hi]; simp [hz]) hg hmin (flat_len es) (fun j v hv => hr.flatOn j v hv) (by rw [flat_len, ← Array.length_toList, hcl, flat_len]; simp; omega) (flat_ones es)
  refine ⟨_, hrun, ?_, below_setRow hb hB _⟩
  rw [setRow_heap w g _ _ _ _ hg, List.take_zero, List.nil_append, Nat.zero_add, hcl, flat_len]
set_option maxHeartbeats 4000000 in
set_option maxRecDepth 100000 in
theorem cenc2 (l k C p : Nat) (hl : l < 8) (b off cap : Nat) (es : List (Nat × Nat)) (x y : Nat × Nat) (hk : es.length = 2 ^ k) (h2 : es.length ≤ 2) (hpad : flat es ++ (flat [(0, 0), (0, 0)]).drop (es.length * 2) = flat [x, y]) (hes : ltE es) (ho : ∀ e ∈ es, ofB (l : Int) (e.1 : Int) (e.2 : Int) = true)
    (hx : x.1 < 2 ^ 64 ∧ x.2 < 2 ^ 64) (hy : y.1 < 2 ^ 64 ∧ y.2 < 2 ^ 64) (ox : ofB (l : Int) (x.1 : Int) (x.2 : Int) = true) (oy : ofB (l : Int) (y.1 : Int) (y.2 : Int) = true) (W : World) (hT : Tab W) (h : Cod W l k 1 C p) (hr : ERow W (some ⟨b, off, none⟩) es) :
    Calls Tryd.prog 16 #[.pointer (some ⟨C, 0, none⟩), .slice (some ⟨b, off, none⟩) es.length cap] W fun e w' => ∃ q c, e = .returned (.tuple #[.slice (some ⟨q, 0, none⟩) 2 c, .int .i64 0]) ∧ ERow w' (some ⟨q, 0, none⟩) [x, (y.1 ^^^ x.1, y.2 ^^^ x.2)] ∧ Below W.heap.size W w' := by
  have HC : Hid (Cod W l k 1 C p) := h
  have HR : Hid (ERow W (some ⟨b, off, none⟩) es) := hr
  have HT : Hid (Tab W) := hT
  obtain ⟨i0, hi, hz0, hz1, hz2⟩ := info_elem
  have HN : Hid (Tryd.prog.info? 39 = some i0 ∧ i0.zero = some (.agg #[.int .u64 0, .int .u64 0]) ∧ i0.size = 2 ∧ i0.bytes = 16) := ⟨hi, hz0, hz1, hz2⟩
  have hmin : Nat.min es.length 2 = es.length := Nat.min_eq_left h2
  have HP : Hid (flat es ++ (flat [(0, 0), (0, 0)]).drop (es.length * 2) = flat [x, y]) := hpad
  have HE : Hid (ltE es ∧ ∀ e ∈ es, ofB (l : Int) (e.1 : Int) (e.2 : Int) = true) := ⟨hes, ho⟩
  have HSz : Hid (∀ w, Cod w l k 1 C p → Calls Tryd.prog 11 #[.pointer (some ⟨C, 0, none⟩)] w fun e w' => e = .returned (.int .i64 (es.length : Int)) ∧ Below w.heap.size w w') := fun w h => by
    have := csize l k 1 C p w h
    rw [← hk] at this
    exact this
  clear h hr hT hi hz0 hz1 hz2 hk hpad hes ho
  go_enter Tryd.func16, Tryd.ntmps16
  go_wp2_with (first | (go_at_call 11; refine (HSz.out _ HC.out).mono ?_; rintro e w1 ⟨rfl, hb1⟩) | (go_at_call 31; refine (chind l k 1 C p _ cap es HE.out.1 HE.out.2 (by omega) _ (HC.out.below hb1) (HR.out.below hb1)).mono ?_; rintro e w2 ⟨rfl, hb2⟩; have D2 : Below W.heap.size W w2 := hb1.trans (hb2.mono hb1.size)) | (go_at_call 12; refine (clong l k 1 C p (by decide) _ (HC.out.below D2)).mono ?_; rintro e w3 ⟨rfl, hb3⟩; have D3 : Below W.heap.size W w3 := D2.trans (hb3.mono D2.size)) | (at_make; refine wpList_make_full _ rfl _ _ 33 rfl 0 39 i0 (.agg #[.int .u64 0, .int .u64 0]) 2 Tryd.underlying33 HN.out.1 HN.out.2.1 HN.out.2.2.1 .i64 .i64 _ _ 2 rfl rfl rfl rfl (by rw [HN.out.2.2.2]; omega) (by simp only [maxLen]; omega) (Nat.zero_le _) ?_; intro w4 own4 hgr4; obtain ⟨cur, hcur, hcl⟩ := own_cur own4; have D4 : Below W.heap.size W w4 := D3.grown hgr4 D3.size (fun k hk => by cases hk); obtain ⟨w5, hcp, hh5, D5⟩ := copied (Below.refl _ _ : Below W.heap.size W W) w4 w3.heap.size b off cap es cur i0 HN.out.1 HN.out.2.2.1 hcur hcl hmin (HR.out.below D4) D4 D3.size h2; rw [HP.out] at hh5; have cc := (HC.out.below D5).c0; clear own4 hgr4) | (go_at_call 32; refine (forward2 l p hl w3.heap.size 2 x y hx hy ox oy _ (HT.out.below D5) (HC.out.below D5).sp (erow_heap hh5)).mono ?_; rintro e w6 ⟨q, c, rfl, hE6, hb6⟩))
  refine bodyPost_ret (v := .tuple #[.slice (some ⟨q, 0, none⟩) 2 c, .int .i64 0]) (by simp [results, Tryd.results16, go_sem]) rfl ?_
  exact ⟨q, c, rfl, hE6, D5.trans (hb6.mono D5.size)⟩

theorem lt_one (n : Nat) (h : n < 2 ^ 64) : (0 : Nat) < 2 ^ 64 ∧ n < 2 ^ 64 := ⟨Nat.two_pow_pos 64, h⟩
set_option maxHeartbeats 4000000 in
set_option maxRecDepth 100000 in
theorem awake8 (W : World) (hT : Tab W) : Calls Tryd.prog 10 #[] W fun e w' => e = .returned (.bool true) ∧ Below W.heap.size W w' := by
  have HT : Hid (Tab W) := hT
  have HN1 : Hid (∀ w, Calls Tryd.prog 8 #[.int .i64 2, .int .i64 0, .int .i64 1] w fun e w' => ∃ C p, e = .returned (.tuple #[.pointer (some ⟨C, 0, none⟩), .int .i64 0]) ∧ Cod w' 2 0 1 C p ∧ Below w.heap.size w w') := fun w => new_ok 2 0 1 1 4 rfl (by decide) rfl (by decide) (by decide) w
  have HN2 : Hid (∀ w, Calls Tryd.prog 8 #[.int .i64 2, .int .i64 1, .int .i64 0] w fun e w' => ∃ C p, e = .returned (.tuple #[.pointer (some ⟨C, 0, none⟩), .int .i64 0]) ∧ Cod w' 2 1 1 C p ∧ Below w.heap.size w w') := fun w => new_ok 2 1 0 1 4 rfl (by decide) rfl (by decide) (by decide) w
  have HE1 : Hid (∀ w C p b, Tab w → Cod w 2 0 1 C p → ERow w (some ⟨b, 0, none⟩) [(0, 5)] → Calls Tryd.prog 16 #[.pointer (some ⟨C, 0, none⟩), .slice (some ⟨b, 0, none⟩) 1 1] w fun e w' => ∃ q c, e = .returned (.tuple #[.slice (some ⟨q, 0, none⟩) 2 c, .int .i64 0]) ∧ ERow w' (some ⟨q, 0, none⟩) [(0, 5), (0, 5)] ∧ Below w.heap.size w w') := fun w C p b t c r =>
    cenc2 2 0 C p (by decide) b 0 1 [(0, 5)] (0, 5) (0, 0) rfl (by decide) rfl (fun e he => by simp at he; subst he; exact lt_one 5 (by decide)) (fun e he => by simp at he; subst he; decide) (lt_one 5 (by decide)) (lt_one 0 (by decide)) (by decide) (by decide) w t c r
  have HE2 : Hid (∀ w C p b, Tab w → Cod w 2 1 1 C p → ERow w (some ⟨b, 0, none⟩) [(0, 7), (0, 5)] → Calls Tryd.prog 16 #[.pointer (some ⟨C, 0, none⟩), .slice (some ⟨b, 0, none⟩) 2 2] w fun e w' => ∃ q c, e = .returned (.tuple #[.slice (some ⟨q, 0, none⟩) 2 c, .int .i64 0]) ∧ ERow w' (some ⟨q, 0, none⟩) [(0, 7), (0, 2)] ∧ Below w.heap.size w w') := fun w C p b t c r =>
    cenc2 2 1 C p (by decide) b 0 2 [(0, 7), (0, 5)] (0, 7) (0, 5) rfl (by decide) rfl (fun e he => by simp at he; rcases he with rfl | rfl; exact lt_one 7 (by decide); exact lt_one 5 (by decide)) (fun e he => by simp at he; rcases he with rfl | rfl <;> decide) (lt_one 7 (by decide)) (lt_one 5 (by decide)) (by decide) (by decide) w t c r
  clear hT
  go_enter Tryd.func10, Tryd.ntmps10
  go_wp2_with fail
  refine (HN1.out _).mono ?_
  rintro e w1 ⟨C, p, rfl, hC, hb1⟩
  have K1 : Hid (Cod w1 2 0 1 C p ∧ Below W.heap.size W w1) := ⟨hC, hb1⟩
  clear hC hb1
  go_wp2_with fail
  refine (HN2.out _).mono ?_
  rintro e w2 ⟨C', p', rfl, hC', hb2⟩
  have K2 : Hid (Cod w2 2 0 1 C p ∧ Cod w2 2 1 1 C' p' ∧ Below W.heap.size W w2) := ⟨K1.out.1.below hb2, hC', K1.out.2.trans (hb2.mono K1.out.2.size)⟩
  clear hC' hb2 K1
  go_wp2_with fail
  have A3 : Below w2.heap.size w2 (w2.alloc (Obj.cells #[.int .u64 0, .int .u64 5] 39)) := (Below.refl _ _).alloc (Nat.le_refl _) _
  refine (HE1.out _ C p w2.heap.size (HT.out.below (K2.out.2.2.trans (A3.mono K2.out.2.2.size))) (K2.out.1.below A3) ⟨fun i hi => ?_⟩).mono ?_
  · match i, hi with
    | 0, _ => exact ⟨_, _, rfl, by simp, by simp [go_sem], by simp [go_sem]⟩
  rintro e w3 ⟨q, c, rfl, hE3, hb3⟩
  have D3 : Below W.heap.size W w3 := (K2.out.2.2.trans (A3.mono K2.out.2.2.size)).trans (hb3.mono (by have := K2.out.2.2.size; simp; omega))
  have K3 : Hid (ERow w3 (some ⟨q, 0, none⟩) [(0, 5), (0, 5)] ∧ Cod w3 2 1 1 C' p' ∧ Below W.heap.size W w3) := ⟨hE3, (K2.out.2.1.below A3).below hb3, D3⟩
  clear hE3 hb3 D3 A3 K2
  go_wp2_with fail
  have A4 : Below w3.heap.size w3 (w3.alloc (Obj.cells #[.int .u64 0, .int .u64 7, .int .u64 0, .int .u64 5] 39)) := (Below.refl _ _).alloc (Nat.le_refl _) _
  refine (HE2.out _ C' p' w3.heap.size (HT.out.below (K3.out.2.2.trans (A4.mono K3.out.2.2.size))) (K3.out.2.1.below A4) ⟨fun i hi => ?_⟩).mono ?_
  · match i, hi with
    | 0, _ => exact ⟨_, _, rfl, by simp, by simp [go_sem], by simp [go_sem]⟩
    | 1, _ => exact ⟨_, _, rfl, by simp, by simp [go_sem], by simp [go_sem]⟩
  rintro e w4 ⟨q', c', rfl, hE4, hb4⟩
  have D4 : Below W.heap.size W w4 := (K3.out.2.2.trans (A4.mono K3.out.2.2.size)).trans (hb4.mono (by have := K3.out.2.2.size; simp; omega))
  have K4 : Hid (ERow w4 (some ⟨q, 0, none⟩) [(0, 5), (0, 5)] ∧ ERow w4 (some ⟨q', 0, none⟩) [(0, 7), (0, 2)] ∧ Below W.heap.size W w4) := ⟨(K3.out.1.below A4).below hb4, hE4, D4⟩
  clear hE4 hb4 D4 A4 K3 HN1 HN2 HE1 HE2
  go_wp2_with fail
  have A5 : Below w4.heap.size w4 (w4.alloc (Obj.cells #[.int .u64 0, .int .u64 5, .int .u64 0, .int .u64 5] 47)) := (Below.refl _ _).alloc (Nat.le_refl _) _
  refine (same_rows (some ⟨q, 0, none⟩) (some ⟨w4.heap.size, 0, none⟩) c 2 [(0, 5), (0, 5)] (by decide) _ (K4.out.1.below A5) ⟨fun i hi => ?_⟩).mono ?_
  · match i, hi with
    | 0, _ => exact ⟨_, _, rfl, by simp, by simp [go_sem], by simp [go_sem]⟩
    | 1, _ => exact ⟨_, _, rfl, by simp, by simp [go_sem], by simp [go_sem]⟩
  rintro e w5 ⟨rfl, hb5⟩
  have D5 : Below W.heap.size W w5 := (K4.out.2.2.trans (A5.mono K4.out.2.2.size)).trans (hb5.mono (by have := K4.out.2.2.size; simp; omega))
  have K5 : Hid (ERow w5 (some ⟨q', 0, none⟩) [(0, 7), (0, 2)] ∧ Below W.heap.size W w5) := ⟨(K4.out.2.1.below A5).below hb5, D5⟩
  clear hb5 D5 A5 K4
  go_wp2_with fail
  have A6 : Below w5.heap.size w5 (w5.alloc (Obj.cells #[.int .u64 0, .int .u64 7, .int .u64 0, .int .u64 2] 47)) := (Below.refl _ _).alloc (Nat.le_refl _) _
  refine (same_rows (some ⟨q', 0, none⟩) (some ⟨w5.heap.size, 0, none⟩) c' 2 [(0, 7), (0, 2)] (by decide) _ (K5.out.1.below A6) ⟨fun i hi => ?_⟩).mono ?_
  · match i, hi with
    | 0, _ => exact ⟨_, _, rfl, by simp, by simp [go_sem], by simp [go_sem]⟩
    | 1, _ => exact ⟨_, _, rfl, by simp, by simp [go_sem], by simp [go_sem]⟩
  rintro e w6 ⟨rfl, hb6⟩
  have D6 : Hid (Below W.heap.size W w6) := (K5.out.2.trans (A6.mono K5.out.2.size)).trans (hb6.mono (by have := K5.out.2.size; simp; omega))
  clear hb6 A6 K5
  go_wp2
  go_ret
  exact ⟨rfl, D6.out⟩
end Go.Proofs.YtacnmaeaabekgaaDoor
