/- The library's own contract of slices.SortFunc at elements, laid at the seat's translation in plain words. -/
import Derived.Shelf.SlSortCmp.WholeK
import Derived.Test.YtkllihomdlibgaaProg
import Derived.Test.YtkllihomdlibgaaSqD
namespace Go.Proofs.Ytkllihomdlibgaa
open Go.Shelf
def slays6_ren : Go.Shelf.Ren := ⟨fun | 6 => 51 | 15 => 55 | 14 => 54 | 28 => 64 | 29 => 53 | 20 => 56 | 21 => 57 | 22 => 58 | 23 => 59 | 24 => 60 | 25 => 61 | 26 => 62 | 27 => 63 | 46 => 65 | 47 => 66 | 48 => 67 | 49 => 68 | 50 => 69 | 57 => 70 | n => n, fun | 22 => 22 | 24 => 25 | 25 => 87 | 3 => 3 | 39 => 88 | 0 => 0 | 53 => 103 | 55 => 23 | 4 => 4 | 46 => 96 | 45 => 95 | 50 => 100 | 5 => 5 | 9 => 9 | 66 => 104 | 70 => 108 | 76 => 110 | 77 => 111 | n => n, fun | n => n⟩
theorem slays6 : SlLaysF0.n6 Try.prog slays6_ren := {
  mixed := by kernel_rfl
  f6 := ⟨"slices.SortFunc[[]steeple/api.Elem,steeple/api.Elem]", of_decide_eq_true (by kernel_rfl), Try.func51.trans (congrArg some (by kernel_rfl))⟩
  f14 := ⟨"slices.pdqsortCmpFunc[steeple/api.Elem]", of_decide_eq_true (by kernel_rfl), Try.func54.trans (congrArg some (by kernel_rfl))⟩
  f15 := Try.func55.trans (congrArg some (by kernel_rfl))
  f20 := ⟨"slices.insertionSortCmpFunc[steeple/api.Elem]", of_decide_eq_true (by kernel_rfl), Try.func56.trans (congrArg some (by kernel_rfl))⟩
  f21 := ⟨"slices.heapSortCmpFunc[steeple/api.Elem]", of_decide_eq_true (by kernel_rfl), Try.func57.trans (congrArg some (by kernel_rfl))⟩
  f22 := ⟨"slices.breakPatternsCmpFunc[steeple/api.Elem]", of_decide_eq_true (by kernel_rfl), Try.func58.trans (congrArg some (by kernel_rfl))⟩
  f23 := ⟨"slices.choosePivotCmpFunc[steeple/api.Elem]", of_decide_eq_true (by kernel_rfl), Try.func59.trans (congrArg some (by kernel_rfl))⟩
  f24 := ⟨"slices.reverseRangeCmpFunc[steeple/api.Elem]", of_decide_eq_true (by kernel_rfl), Try.func60.trans (congrArg some (by kernel_rfl))⟩
  f25 := ⟨"slices.partialInsertionSortCmpFunc[steeple/api.Elem]", of_decide_eq_true (by kernel_rfl), Try.func61.trans (congrArg some (by kernel_rfl))⟩
  f26 := ⟨"slices.partitionEqualCmpFunc[steeple/api.Elem]", of_decide_eq_true (by kernel_rfl), Try.func62.trans (congrArg some (by kernel_rfl))⟩
  f27 := ⟨"slices.partitionCmpFunc[steeple/api.Elem]", of_decide_eq_true (by kernel_rfl), Try.func63.trans (congrArg some (by kernel_rfl))⟩
  f28 := Try.func64.trans (congrArg some (by kernel_rfl))
  f29 := Try.func53.trans (congrArg some (by kernel_rfl))
  f46 := ⟨"slices.siftDownCmpFunc[steeple/api.Elem]", of_decide_eq_true (by kernel_rfl), Try.func65.trans (congrArg some (by kernel_rfl))⟩
  f47 := Try.func66.trans (congrArg some (by kernel_rfl))
  f48 := Try.func67.trans (congrArg some (by kernel_rfl))
  f49 := ⟨"slices.medianAdjacentCmpFunc[steeple/api.Elem]", of_decide_eq_true (by kernel_rfl), Try.func68.trans (congrArg some (by kernel_rfl))⟩
  f50 := ⟨"slices.medianCmpFunc[steeple/api.Elem]", of_decide_eq_true (by kernel_rfl), Try.func69.trans (congrArg some (by kernel_rfl))⟩
  f57 := ⟨"slices.order2CmpFunc[steeple/api.Elem]", of_decide_eq_true (by kernel_rfl), Try.func70.trans (congrArg some (by kernel_rfl))⟩
  t0 := Try.underlying0
  a0 := Try.isAgg0
  z0 := Try.sizeOf0
  v0 := Try.zeroValue0
  t3 := Try.underlying3
  a3 := Try.isAgg3
  z3 := Try.sizeOf3
  v3 := Try.zeroValue3
  t4 := Try.underlying4
  a4 := Try.isAgg4
  z4 := Try.sizeOf4
  v4 := Try.zeroValue4
  t5 := Try.underlying5
  a5 := Try.isAgg5
  z5 := Try.sizeOf5
  v5 := Try.zeroValue5
  t9 := Try.underlying9
  a9 := Try.isAgg9
  z9 := Try.sizeOf9
  v9 := Try.zeroValue9
  t22 := Try.underlying22
  a22 := Try.isAgg22
  z22 := Try.sizeOf22
  v22 := Try.zeroValue22
  t25 := Try.underlying87
  a25 := Try.isAgg87
  z25 := Try.sizeOf87
  v25 := Try.zeroValue87
  t39 := Try.underlying88
  a39 := Try.isAgg88
  z39 := Try.sizeOf88
  v39 := Try.zeroValue88
  t45 := Try.underlying95
  a45 := Try.isAgg95
  z45 := Try.sizeOf95
  v45 := Try.zeroValue95
  t46 := Try.underlying96
  a46 := Try.isAgg96
  z46 := Try.sizeOf96
  v46 := Try.zeroValue96
  t50 := Try.underlying100
  a50 := Try.isAgg100
  z50 := Try.sizeOf100
  v50 := Try.zeroValue100
  t53 := Try.underlying103
  a53 := Try.isAgg103
  z53 := Try.sizeOf103
  v53 := Try.zeroValue103
  t55 := Try.underlying23
  a55 := Try.isAgg23
  z55 := Try.sizeOf23
  v55 := Try.zeroValue23
  t66 := Try.underlying104
  a66 := Try.isAgg104
  z66 := Try.sizeOf104
  v66 := Try.zeroValue104
  t70 := Try.underlying108
  a70 := Try.isAgg108
  z70 := Try.sizeOf108
  v70 := Try.zeroValue108
  t76 := Try.underlying110
  a76 := Try.isAgg110
  z76 := Try.sizeOf110
  v76 := Try.zeroValue110
  t77 := Try.underlying111
  a77 := Try.isAgg111
  z77 := Try.sizeOf111
  v77 := Try.zeroValue111
}
end Go.Proofs.Ytkllihomdlibgaa

/- The contract of slices.SortFunc as span sorts a basis, over the seat's translation. -/
namespace Go.Proofs.Ytkllihomdlibgaa
open Go.RowKit Go.Shelf
open Cb Rg Sq

set_option maxHeartbeats 400000 in
theorem long_low_lay (l L : Nat) (HL : Hid (∀ W, Calls Try.prog 53 #[.int .u64 (l : Int)] W fun e w' => e = .returned (.int .i64 (L : Int)) ∧ w' = W)) (W : World) : Calls Try.prog 45 #[.agg #[.int .u64 0, .int .u64 (l : Int)]] W fun e w' => e = .returned (.int .i64 (L : Int)) ∧ ∃ o, w' = W.alloc o := by
  go_enter Try.func45, Try.ntmps45
  go_wp2_with (go_at_call 53; refine (HL.out _).mono ?_; rintro e w3 ⟨rfl, rfl⟩)
  go_ret
  exact ⟨rfl, _, rfl⟩
set_option maxHeartbeats 400000 in
theorem long_high_lay (h l L : Nat) (h0 : h ≠ 0) (hL : L ≤ 64) (HL : Hid (∀ W, Calls Try.prog 53 #[.int .u64 (h : Int)] W fun e w' => e = .returned (.int .i64 (L : Int)) ∧ w' = W)) (W : World) : Calls Try.prog 45 #[.agg #[.int .u64 (h : Int), .int .u64 (l : Int)]] W fun e w' => e = .returned (.int .i64 ((64 + L : Nat) : Int)) ∧ ∃ o, w' = W.alloc o := by
  have h0' : ¬ (h : Int) = 0 := by omega
  have hw : IntKind.i64.wrap (64 + (L : Int)) = 64 + (L : Int) := by rw [IntKind.wrap_i64]; omega
  go_enter Try.func45, Try.ntmps45
  go_wp2_with (go_at_call 53; refine (HL.out _).mono ?_; rintro e w3 ⟨rfl, rfl⟩)
  go_ret
  exact ⟨by simp, _, rfl⟩
theorem long_lay (x : Nat × Nat) (h : lt2 x) (W : World) : Calls Try.prog 45 #[.agg #[.int .u64 (x.1 : Int), .int .u64 (x.2 : Int)]] W fun e w' => e = .returned (.int .i64 (lngE x : Int)) ∧ ∃ o, w' = W.alloc o := by
  obtain ⟨u, l⟩ := x
  obtain ⟨h1, h2⟩ := h
  unfold lngE
  simp only at h1 h2 ⊢
  by_cases h0 : u = 0
  · subst h0
    rw [if_pos rfl]
    exact long_low_lay l _ (fun W => by have := len64_any (l : Int) W (by omega) (by omega); rwa [Int.toNat_natCast] at this) W
  · rw [if_neg h0]
    exact long_high_lay u l _ h0 (bitLen_le u h1) (fun W => by have := len64_any (u : Int) W (by omega) (by omega); rwa [Int.toNat_natCast] at this) W
theorem lngE_le (x : Nat × Nat) (h : lt2 x) : lngE x ≤ 128 := by
  by_cases h0 : x = (0, 0)
  · subst h0; decide
  · exact (lngE_lead x h.1 h.2 h0).2.1
structure El2 where
  v : Nat × Nat
  lt : lt2 v
instance : Inhabited El2 := ⟨⟨(0, 0), lt_zero⟩⟩
def enc2 (x : El2) : List Value := [.int .u64 (x.v.1 : Int), .int .u64 (x.v.2 : Int)]
def cf2 (x y : El2) : Int := (lngE y.v : Int) - (lngE x.v : Int)
/-- A world with blocks and draws more. -/
def Gw (W w : World) : Prop := ∃ q os, w = Sort.grow (W.drewN q) os
theorem Gw.alloc {W w : World} (h : Gw W w) (o : Obj) : Gw W (w.alloc o) := by
  obtain ⟨q, os, rfl⟩ := h
  exact ⟨q, os ++ #[o], by rw [Sort.alloc_eq_grow, Sort.grow_grow]⟩
theorem Gw.drew {W w : World} (h : Gw W w) : Gw W w.drew := by
  obtain ⟨q, os, rfl⟩ := h
  exact ⟨q + 1, os, rfl⟩
structure Cm (W w : World) (p : Nat) (x y : Nat × Nat) : Prop where
  g : Gw W w
  x : El w p x.1 x.2
  y : El w (p + 1) y.1 y.2
theorem Cm.alloc {W w : World} {p : Nat} {x y : Nat × Nat} (h : Cm W w p x y) (o : Obj) : Cm W (w.alloc o) p x y := ⟨h.g.alloc o, h.x.alloc o, h.y.alloc o⟩
theorem Cm.drew {W w : World} {p : Nat} {x y : Nat × Nat} (h : Cm W w p x y) : Cm W w.drew p x y := ⟨h.g.drew, ⟨h.x.hi, h.x.lo⟩, ⟨h.y.hi, h.y.lo⟩⟩
theorem Cm.facts {W w : World} {p : Nat} {x y : Nat × Nat} (h : Cm W w p x y) : w.cell? ⟨p, 0, none⟩ = some (.int .u64 (x.1 : Int)) ∧ w.cell? ⟨p, 1, none⟩ = some (.int .u64 (x.2 : Int)) ∧ w.cell? ⟨p + 1, 0, none⟩ = some (.int .u64 (y.1 : Int)) ∧ w.cell? ⟨p + 1, 1, none⟩ = some (.int .u64 (y.2 : Int)) := ⟨h.x.hi, h.x.lo, h.y.hi, h.y.lo⟩
set_option maxHeartbeats 1000000 in
/-- How a basis is sorted: the longer one comes first. -/
theorem cmp_core (x y : Nat × Nat) (A B : Nat) (hA : A ≤ 128) (hB : B ≤ 128) (HX : Hid (∀ W, Calls Try.prog 45 #[.agg #[.int .u64 (x.1 : Int), .int .u64 (x.2 : Int)]] W fun e w' => e = .returned (.int .i64 (A : Int)) ∧ ∃ o, w' = W.alloc o)) (HY : Hid (∀ W, Calls Try.prog 45 #[.agg #[.int .u64 (y.1 : Int), .int .u64 (y.2 : Int)]] W fun e w' => e = .returned (.int .i64 (B : Int)) ∧ ∃ o, w' = W.alloc o)) (W : World) :
    Calls Try.prog 52 #[.agg #[.int .u64 (x.1 : Int), .int .u64 (x.2 : Int)], .agg #[.int .u64 (y.1 : Int), .int .u64 (y.2 : Int)]] W fun e w' => e = .returned (.int .i64 ((B : Int) - (A : Int))) ∧ ∃ q os', w' = Sort.grow (W.drewN q) os' := by
  have hw : IntKind.i64.wrap ((B : Int) - (A : Int)) = (B : Int) - (A : Int) := by rw [IntKind.wrap_i64]; omega
  go_enter Try.func52, Try.ntmps52
  go_upto_region 1 with fail
  have K : Cm W ((W.alloc (Obj.cells #[.int .u64 (x.1 : Int), .int .u64 (x.2 : Int)] 25)).alloc (Obj.cells #[.int .u64 (y.1 : Int), .int .u64 (y.2 : Int)] 25)) W.heap.size x y := ⟨Gw.alloc (Gw.alloc ⟨0, #[], by rw [Sort.grow_empty]; rfl⟩ _) _, ⟨by simp [go_sem], by simp [go_sem]⟩, ⟨by simp [go_sem], by simp [go_sem]⟩⟩
  generalize (W.alloc (Obj.cells #[.int .u64 (x.1 : Int), .int .u64 (x.2 : Int)] 25)).alloc (Obj.cells #[.int .u64 (y.1 : Int), .int .u64 (y.2 : Int)] 25) = w3 at *
  generalize W.heap.size = p at *
  have F := K.facts
  go_region_held3 (fun w => w.cell? ⟨p, 0, none⟩ = some (.int .u64 (x.1 : Int)) ∧ w.cell? ⟨p, 1, none⟩ = some (.int .u64 (x.2 : Int)) ∧ w.cell? ⟨p + 1, 0, none⟩ = some (.int .u64 (y.1 : Int)) ∧ w.cell? ⟨p + 1, 1, none⟩ = some (.int .u64 (y.2 : Int))) (go_keep) (first | (go_at_call_of 45 (#[.agg #[.int .u64 (y.1 : Int), .int .u64 (y.2 : Int)]] : Array Value); refine (HY.out _).mono ?_; rintro e w' ⟨rfl, o, rfl⟩; have K'' := Cm.alloc (by first | exact K | exact K.drew) o; clear F K; have K := K''; clear K''; have F := K.facts) | (go_at_call_of 45 (#[.agg #[.int .u64 (x.1 : Int), .int .u64 (x.2 : Int)]] : Array Value); refine (HX.out _).mono ?_; rintro e w' ⟨rfl, o, rfl⟩; have K'' := Cm.alloc (by first | exact K | exact K.drew) o; clear F K; have K := K''; clear K''; have F := K.facts))
  all_goals
    go_wp2
    go_ret
    exact ⟨rfl, by first | exact K.g | exact K.g.drew⟩
theorem swo2 : Sort.SWO (ltOf cf2) where
  irrefl x := by unfold ltOf cf2; simp
  trans x y z h1 h2 := by unfold ltOf cf2 at *; simp at *; omega
  ntrans x y z h1 h2 := by unfold ltOf cf2 at *; simp at *; omega
theorem cmp_lays (blk off size : Nat) (w : World) : CmpLays Try.prog 52 #[] enc2 2 cf2 blk off size w := fun _ _ _ _ x y =>
  cmp_core x.v y.v (lngE x.v) (lngE y.v) (lngE_le _ x.lt) (lngE_le _ y.lt) (fun W => long_lay x.v x.lt W) (fun W => long_lay y.v y.lt W) _
theorem grow_below (w : World) (B : Nat) (os : Array Obj) (h : B ≤ w.heap.size) : Below B w (Sort.grow w os) := ⟨rfl, rfl, rfl, by simp, fun k hk => by
  show (w.heap ++ os)[k]? = w.heap[k]?
  rw [Array.getElem?_append_left (by omega)]⟩
theorem putRow_below (w : World) (g off n : Nat) (F : Array Value) : Below g w (Sort.putRow id (Sort.ahead w n) g off F) := ⟨rfl, rfl, rfl, by simp [Sort.putRow, Sort.mapBlock, Sort.ahead], fun k hk => by
  show (w.heap.modify g _)[k]? = w.heap[k]?
  rw [Array.getElem?_modify, if_neg (by omega)]⟩
/-- Elements as the library's sort takes them. -/
def arr (es : List (Nat × Nat)) (h : ltE es) : Array El2 := (es.attach.map fun (e : { x // x ∈ es }) => El2.mk e.1 (h e.1 e.2)).toArray
theorem arr_size (es : List (Nat × Nat)) (h : ltE es) : (arr es h).size = es.length := by simp [arr]
theorem arr_list (es : List (Nat × Nat)) (h : ltE es) : (arr es h).toList.map El2.v = es := by
  unfold arr
  show List.map El2.v (es.attach.map fun (e : { x // x ∈ es }) => El2.mk e.1 (h e.1 e.2)) = es
  rw [List.map_map]
  exact List.attach_map_subtype_val es
theorem arr_at (d : Array El2) (es : List (Nat × Nat)) (h : d.toList.map El2.v = es) {i : Nat} (hi : i < es.length) : (d[i]!).v = el es i := by
  have hd : d.size = es.length := by rw [← h]; simp
  rw [getElem!_pos d i (by omega)]
  subst h
  simp [el, List.getD, show i < d.size by omega]
theorem enc2_at (x : El2) : (enc2 x)[0]! = .int .u64 (x.v.1 : Int) ∧ (enc2 x)[1]! = .int .u64 (x.v.2 : Int) := ⟨rfl, rfl⟩
/-- slices.SortFunc, as a basis is sorted: what it leaves. -/
theorem sort_elems (g cap : Nat) (es : List (Nat × Nat)) (hes : ltE es) (hn : es.length ≤ 1000) (w : World) (hg : g < w.heap.size)
    (hc : ∀ i, i < es.length → w.cell? ⟨g, i * 2, none⟩ = some (.int .u64 ((el es i).1 : Int)) ∧ w.cell? ⟨g, i * 2 + 1, none⟩ = some (.int .u64 ((el es i).2 : Int)) ∧ w.frozen? ⟨g, i * 2, none⟩ = false ∧ w.frozen? ⟨g, i * 2 + 1, none⟩ = false) :
    Calls Try.prog 51 #[.slice (some ⟨g, 0, none⟩) es.length cap, .func (.func 52) #[] #[]] w fun e w' => e = .returned (.tuple #[]) ∧ ∃ ss : List (Nat × Nat), ss.Perm es ∧ ss.Pairwise (fun a b => lngE b ≤ lngE a) ∧ ERow w' (some ⟨g, 0, none⟩) ss ∧ Below g w w' := by
  have eg : ∀ args w, (callFunc 52 args).run Try.prog w = .ok (.enter 52 args) w := enters_of Try.func52 (by kernel_rfl) rfl
  have hsz := arr_size es hes
  have hls := arr_list es hes
  generalize arr es hes = d at *
  have hH : Sort.HoldsK enc2 2 w g 0 d := by
    intro j hj
    have hj' : j < d.size * 2 := by simpa using hj
    have h1 := hc (j / 2) (by omega)
    have ha := arr_at d es hls (show j / 2 < es.length by omega)
    rw [Sort.get_flatK _ _ _ _ hj', Nat.zero_add]
    rcases Nat.mod_two_eq_zero_or_one j with e | e
    · rw [e, show j = j / 2 * 2 by omega, (enc2_at _).1]
      simp only [Nat.mul_div_cancel _ (show 0 < 2 by decide)]
      rw [ha]; exact ⟨h1.1, h1.2.2.1⟩
    · rw [e, show j = j / 2 * 2 + 1 by omega, show (j / 2 * 2 + 1) / 2 = j / 2 by omega, (enc2_at _).2, ha]
      exact ⟨h1.2.1, h1.2.2.2⟩
  have hcon := AnyQ.slices_SortFunc slays6 2 Try.isAgg25 Try.sizeOf25 enc2 (fun _ => rfl) (fun x v hv => by simp [enc2] at hv; rcases hv with rfl | rfl <;> rfl) cf2 swo2 52 #[] g 0 cap d w eg (cmp_lays g 0 d.size w) hH hg (by omega)
  change Calls Try.prog 51 _ _ _ at hcon
  rw [hsz] at hcon
  refine hcon.mono ?_
  rintro e w' ⟨he, d', n, os, hp, hs, rfl⟩
  obtain ⟨hz, _, hperm⟩ := hp
  rw [hsz] at hz
  have ed : d'.extract 0 es.length = d' := by rw [← hz]; exact Array.extract_size
  have ed0 : d.extract 0 es.length = d := by rw [← hsz]; exact Array.extract_size
  rw [ed, ed0] at hperm
  refine ⟨he, d'.toList.map El2.v, ?_, ?_, ?_, ?_⟩
  · rw [← hls]; exact hperm.map _
  · rw [List.pairwise_map, List.pairwise_iff_getElem]
    intro i j hi hj hij
    have h1 := hs i j (Nat.zero_le _) hij (by simp at hj; omega)
    simp only [Array.length_toList] at hi hj
    rw [getElem!_pos d' j hj, getElem!_pos d' i hi] at h1
    unfold ltOf cf2 at h1
    simp at h1
    simp only [Array.getElem_toList]
    omega
  · have hH' : Sort.HoldsK enc2 2 (sortWorldK enc2 2 w g 0 n d' os) g 0 d' := by
      unfold sortWorldK
      refine Sort.holdsK_grow _ _ _ _ _ _ _ (by simp [Sort.putRowK, Sort.putRow, Sort.mapBlock, Sort.ahead]; exact hg) ?_
      exact Sort.holdsK_putRowK _ _ _ _ _ d d' (Sort.holdsK_ahead _ _ _ _ _ _ _ hH) (by omega)
    refine ⟨fun i hi => ?_⟩
    have hi' : i < d'.size := by simpa using hi
    have c0 := (hH'.cell hi' (c := 0) (by decide)).1
    have c1 := (hH'.cell hi' (c := 1) (by decide)).1
    have ha := arr_at d' _ rfl hi
    rw [(enc2_at _).1, ha] at c0
    rw [(enc2_at _).2, ha] at c1
    refine ⟨g, 0, rfl, cell_lt c0, ?_, ?_⟩
    · rw [Nat.add_zero] at c0; exact c0
    · exact c1
  · unfold sortWorldK
    refine (putRow_below w g 0 n _).trans (grow_below _ _ _ ?_)
    simp [Sort.putRow, Sort.mapBlock, Sort.ahead]; omega
end Go.Proofs.Ytkllihomdlibgaa
