/- The contracts of sponge's wholeBlocks, of the function that it gives, of pressed, finish and Sum, of the law's awake, and the walk of SpongePresses, over the seat's translation. -/
import Derived.Test.YtopmkooegpaeaaaGreatSpA
import Derived.RangeFuncNested
import Derived.RangeFuncBound
import Derived.RangeFuncCalls
import Derived.RangeFuncLeaves
import Derived.Shelf.Abstract
import Derived.Shelf.RegionOpen
import Derived.WalkKit
import Derived.OwnWalkIn
import Derived.TacticsInMore
import Derived.LoopNIn
import Derived.LoopIn
namespace Go.Proofs.YtopmkooegpaeaaaGreat
open Go.RowKit

section
open Go.RowKit Go.Shelf

attribute [local go_sem] Oper.semAt_some

/-- A block: a text of 64 bytes. -/
abbrev Blk := { m : ByteArray // m.size = 64 }
/-- The block at place k of a text. -/
def blk (s : ByteArray) (k : Nat) : Blk := if h : (s.extract (64 * k) (64 * k + 64)).size = 64 then ⟨_, h⟩ else ⟨txt fun _ => 0, txt_size _⟩
theorem blk_eq (s : ByteArray) (k : Nat) (h : 64 * k + 64 ≤ s.size) : (blk s k).1 = s.extract (64 * k) (64 * k + 64) := by
  unfold blk
  rw [dif_pos (by rw [ByteArray.size_extract]; omega)]
/-- The first k blocks. -/
def blks (s : ByteArray) (k : Nat) : List Blk := (List.range k).map (blk s)
theorem blks_succ (s : ByteArray) (k : Nat) : blks s (k + 1) = blks s k ++ [blk s k] := by simp [blks, List.range_succ]
theorem blks_length (s : ByteArray) (k : Nat) : (blks s k).length = k := by simp [blks]
/-- What a round keeps: the text in its box. -/
def Kb (Bs : Nat) (s : ByteArray) (W W' : World) : Prop := W.cell? ⟨Bs, 0, none⟩ = some (.string s) → W'.cell? ⟨Bs, 0, none⟩ = some (.string s)

set_option maxRecDepth 100000 in
set_option maxHeartbeats 2000000 in
theorem wb1_in (F : Fence) (n : Nat) (h7 : F.fn 132) (hro : F.round = none) (hn : 1 ≤ n) (l Bs : Nat) (s : ByteArray) (hs : s.size ≤ 1000000000000) (J Jx : List Blk → World → Prop)
    (hY : ∀ pre x W, J pre W → pre.length < s.size / 64 → YieldAt F (n - 1) Tryz.prog l #[.string x.1] W fun e W' =>
      (e = .returned (.bool true) ∧ J (pre ++ [x]) W' ∧ Kb Bs s W W') ∨ (e = .returned (.bool false) ∧ Jx (pre ++ [x]) W'))
    (W : World) (hBs : W.cell? ⟨Bs, 0, none⟩ = some (.string s)) (h0 : J [] W) :
    CallsIn F n Tryz.prog 132 #[.func (.yield l) #[] #[], .pointer (some ⟨Bs, 0, none⟩)] W fun e W' => (∃ v, e = .returned v) ∧
      ((∃ ys, ys = blks s (s.size / 64) ∧ J ys W') ∨ (∃ pre, (∃ k, pre = blks s k) ∧ Jx pre W')) := by
  refine callsIn_of_wp Tryz.func132 rfl h7 ?_ hro
  simp only [Tryz.ntmps132, List.size_toArray, List.length_cons, List.length_nil, Nat.reduceAdd, Nat.reduceSub, Array.replicate_succ, Array.replicate_zero, List.push_toArray, List.append_toArray, List.nil_append, List.cons_append]
  gi_wp2
  gi_loopw [3] (fun i wr => ∃ k : Nat, k ≤ s.size / 64 ∧ i = .int .i64 ((64 * k + 64 : Nat) : Int) ∧ J (blks s k) wr ∧ wr.cell? ⟨Bs, 0, none⟩ = some (.string s))
    (fun i _ => s.size + 64 - (intOf i).toNat)
  case atStart => exact ⟨0, Nat.zero_le _, rfl, h0, hBs⟩
  case round =>
    obtain ⟨k, hk, rfl, hJs, hcx⟩ := hrel
    by_cases hlt : k < s.size / 64
    · have hle : 64 * k + 64 ≤ s.size := by omega
      obtain ⟨fn, tmps, assign, body, hy, hR⟩ := hY _ (blk s k) wr hJs (by rw [blks_length]; exact hlt)
      rw [blk_eq s k hle] at hy
      have hl : ((64 * k + 64 : Nat) : Int) ≤ (s.size : Int) := by omega
      gi_wp2
      refine hR.mono ?_
      rintro e W3 (⟨rfl, hJ3, hk3⟩ | ⟨rfl, hJx3⟩)
      · have hc3 := hk3 hcx
        gi_wp2
        go_roundw
        case rel => exact ⟨k + 1, by omega, by congr 1, by rw [blks_succ]; exact hJ3, hc3⟩
        case measure => simp [intOf]; omega
      · gi_wp2
        refine bodyPost_ret (results_none rfl _ _ _) rfl ?_
        exact ⟨⟨_, rfl⟩, .inr ⟨_, ⟨k + 1, (blks_succ _ _).symm⟩, hJx3⟩⟩
    · obtain rfl : k = s.size / 64 := by omega
      have hl : ¬ (((64 * (s.size / 64) + 64 : Nat) : Int) ≤ (s.size : Int)) := by omega
      gi_wp2
      go_end0
      exact ⟨⟨_, rfl⟩, .inl hJs⟩

set_option maxRecDepth 100000 in
set_option maxHeartbeats 1000000 in
theorem wb_in (F : Fence) (n : Nat) (h5 : F.fn 110) (hro : F.round = none) (s : ByteArray) (w : World) :
    CallsIn F n Tryz.prog 110 #[.string s] w fun e w' => e = .returned (.func (.func 132) #[] #[.pointer (some ⟨w.heap.size, 0, none⟩)]) ∧ w' = w.alloc (.cells #[.string s] 9) := by
  refine callsIn_of_wp Tryz.func110 rfl h5 ?_ hro
  simp only [Tryz.ntmps110, List.size_toArray, List.length_cons, List.length_nil, Nat.reduceAdd, Nat.reduceSub, Array.replicate_succ, Array.replicate_zero, List.push_toArray, List.append_toArray, List.nil_append, List.cons_append]
  gi_wp2
  go_ret
  exact ⟨rfl, rfl⟩

theorem wb_stops (F : Fence) (n : Nat) (h7 : F.fn 132) (hro : F.round = none) (hn : 1 ≤ n) (Bs : Nat) (s : ByteArray) (hs : s.size ≤ 1000000000000) (w : World) (hBs : Bs < w.heap.size) (hc : w.cell? ⟨Bs, 0, none⟩ = some (.string s)) :
    SeqStopsK F n Tryz.prog 132 #[.pointer (some ⟨Bs, 0, none⟩)] (fun x : Blk => #[Value.string x.1]) (Kb Bs s) (fun ys => ys = blks s (s.size / 64)) (fun pre => ∃ k, pre = blks s k) (s.size / 64) w := fun l J Jx W hW _ _ hY h0 => by
  have hc' := (hW.cell (p := ⟨Bs, 0, none⟩) hBs).trans hc
  exact wb1_in F n h7 hro hn l Bs s hs J Jx hY W hc' h0

open Go.RowKit Go.Shelf

attribute [local go_sem] Oper.semAt_some

/-- A chain value into which blocks are pressed, one after another. -/
def prl (h : ByteArray) (l : List Blk) : ByteArray := l.foldl (fun h m => prs h m.1) h
theorem prl_snoc (h : ByteArray) (l : List Blk) (x : Blk) : prl h (l ++ [x]) = prs (prl h l) x.1 := by simp [prl]
theorem prl_size (h : ByteArray) (hh : h.size = 64) (l : List Blk) : (prl h l).size = 64 := by
  rcases l.eq_nil_or_concat with rfl | ⟨l', x, rfl⟩
  · exact hh
  · rw [List.concat_eq_append, prl_snoc]; exact prs_size _ _
theorem keeps_below {W W' : World} (h : Below W.heap.size W W') : KeepsOthers W W' := ⟨h.size, fun k _ hk _ => (h.block k (Array.getElem?_eq_some_iff.1 hk).1).trans hk⟩
theorem cell_below {W W' : World} {a : Addr} {v : Value} (h : Below W.heap.size W W') (hc : W.cell? a = some v) : W'.cell? a = some v := by
  obtain ⟨o, ho, _⟩ := cells_of_cell hc
  exact (World.cell?_of_block (h.block a.block (Array.getElem?_eq_some_iff.1 ho).1)).trans hc

theorem frozen_below {W W' : World} {a : Addr} {v : Value} (h : Below W.heap.size W W') (hc : W.cell? a = some v) (hf : W.frozen? a = false) : W'.frozen? a = false := by
  obtain ⟨o, ho, _⟩ := cells_of_cell hc
  exact (World.frozen?_of_block (h.block a.block (Array.getElem?_eq_some_iff.1 ho).1)).trans hf
theorem one_cell (W : World) (v : Value) (t : TypeId) : (W.alloc (.cells #[v] t)).cell? ⟨W.heap.size, 0, none⟩ = some v := by simp [go_sem]
theorem one_free (W : World) (v : Value) (t : TypeId) : (W.alloc (.cells #[v] t)).frozen? ⟨W.heap.size, 0, none⟩ = false := by simp [go_sem]
theorem below_laid (W : World) (o : Obj) : Below W.heap.size W (W.alloc o) := (Below.refl _ W).alloc (Nat.le_refl _) o

set_option maxRecDepth 100000 in
set_option maxHeartbeats 2000000 in
theorem pressed_ok (g : Nat) (h s : ByteArray) (hh : h.size = 64) (hs : s.size ≤ 1000000000000) (w : World) (hT : Tab w g) :
    Calls Tryz.prog 79 #[.pointer (some ⟨g, 0, none⟩), .string h, .string s] w fun e W' => e = .returned (.string (prl h (blks s (s.size / 64)))) ∧ Below w.heap.size w W' := by
  refine (callsIn_wide (n := 3)).1 ?_
  have h1 : 1 ≤ 3 := by omega
  refine callsIn_of_wp_marks Tryz.func79 rfl trivial ?_ rfl
  simp only [Tryz.ntmps79, List.size_toArray, List.length_cons, List.length_nil, Nat.reduceAdd, Nat.reduceSub, Array.replicate_succ, Array.replicate_zero, List.push_toArray, List.append_toArray, List.nil_append, List.cons_append]
  gi_wp2_with (refine ⟨trivial, ?_⟩; gi_at_call 110; refine (wb_in Fence.wide (3 - 1) trivial rfl s _).mono ?_; rintro e w' ⟨rfl, rfl⟩)
  have c0 := one_cell w (.pointer (some ⟨g, 0, none⟩)) 26
  have c1 := one_cell (w.alloc (.cells #[.pointer (some ⟨g, 0, none⟩)] 26)) (.string h) 9
  have c2 := one_cell ((w.alloc (.cells #[.pointer (some ⟨g, 0, none⟩)] 26)).alloc (.cells #[.string h] 9)) (.string s) 9
  have f1 := one_free (w.alloc (.cells #[.pointer (some ⟨g, 0, none⟩)] 26)) (.string h) 9
  simp only [World.size_alloc] at c1 c2 f1
  have hB0 : Below w.heap.size w (((w.alloc (.cells #[.pointer (some ⟨g, 0, none⟩)] 26)).alloc (.cells #[.string h] 9)).alloc (.cells #[.string s] 9)) := (((Below.refl _ w).alloc (Nat.le_refl _) _).alloc (by simp) _).alloc (by simp; omega) _
  refine wpIn_rangeFunc_ownF rfl h1 (gf := 132) (lb := #[.pointer (some ⟨w.heap.size + 1 + 1, 0, none⟩)]) rfl trivial (enters_of Tryz.func132 (by kernel_rfl) rfl)
    (wb_stops Fence.wide (3 - 1) trivial rfl (by omega) (w.heap.size + 1 + 1) s hs _ (by simp) c2) (fun h k e => k (h e)) (fun W l o o' _ ho hc _ e => cell_kept e (grownBy_putObj' W l o') (fun r e => by cases e; exact ⟨o, ho, hc⟩)) (Below.refl _ _) (fun _ => rfl)
    (fun pre W => (W.cell? ⟨w.heap.size, 0, none⟩ = some (.pointer (some ⟨g, 0, none⟩)) ∧ W.cell? ⟨w.heap.size + 1, 0, none⟩ = some (.string (prl h pre)) ∧ W.frozen? ⟨w.heap.size + 1, 0, none⟩ = false) ∧ Below w.heap.size w W)
    (fun _ _ _ => False)
    (OwnFrom.and (Own.from (fun s A B row hs hg hr => ⟨cell_kept hs.1 hg hr, cell_kept hs.2.1 hg hr, (frozen_kept hs.2.1 hg hr).trans hs.2.2⟩) _) (ownFrom_below (Nat.le_refl _) (by simp; omega)))
    (fun _ _ _ _ _ hs _ _ => hs)
    ⟨⟨cell_below (below_laid _ _) (cell_below (below_laid _ _) c0), cell_below (below_laid _ _) c1, frozen_below (below_laid _ _) c1 f1⟩, hB0⟩
    (fun x => { tmps := #[.pointer (some ⟨g, 0, none⟩), .string h, .string s, .pointer (some ⟨w.heap.size, 0, none⟩), .pointer (some ⟨w.heap.size + 1, 0, none⟩), undef, .string ⟨#[]⟩, .string x.1, .string s, .func (.func 132) #[] #[.pointer (some ⟨w.heap.size + 1 + 1, 0, none⟩)], .string x.1, undef, undef, undef, undef, undef, undef, undef, undef], defers := [] }) ?assign ?body ?done ?stop
  case assign =>
    intro l x W K hK
    gi_wp2
    exact hK
  case body =>
    rintro l pre x W ⟨⟨hc0, hc1, hf1⟩, hB⟩ _
    have hT1 : Tab W g := hT.below hB
    have hP := press_ok g (prl h pre) x.1 (prl_size h hh pre) x.2
    rw [← prl_snoc] at hP
    gi_wp2_with (refine ⟨trivial, ?_⟩; gi_at_call 111; refine (CallsIn.inRound l (callsIn_wide.2 (hP _ hT1))).mono ?_; rintro e w1 ⟨rfl, hb1⟩; have d0 := cell_below hb1 hc0; have d1 := cell_below hb1 hc1; have e1 := frozen_below hb1 hc1 hf1)
    all_goals (refine ⟨(keeps_below hb1).trans (KeepsOthers.setCell _ _ _), fun e => (World.cell?_setCell_other _ _ _ _ (by simp)).trans (cell_below hb1 e), ⟨(World.cell?_setCell_other _ _ _ _ (by simp)).trans d0, World.cell?_setCell_same' _ _ _ (by rw [d1]; rfl), by rw [World.frozen?_setCell]; exact e1⟩, (hB.trans (hb1.mono hB.size)).setCell (p := ⟨w.heap.size + 1, 0, none⟩) (Nat.le_succ _) _⟩)
  case done =>
    rintro D ys W hD rfl ⟨⟨_, hc, _⟩, hB⟩ hK
    gi_wp2
    refine ⟨by simp, .inl ⟨_, _, rfl, run_takeDeferred hK, ?_⟩⟩
    exact ⟨_, results_tmp rfl _ _ _, rfl, hB.trans (belowK_b (w := w) (Nat.le_refl _) W D _ _ (by simp at hD; omega) hK rfl rfl)⟩
  case stop =>
    rintro D c pre W _ _ h _
    exact h.elim
end


/-- The digest of a text of n bytes of which h is the chain value ahead of its rest. -/
def fin (h rest : ByteArray) (n : Nat) : ByteArray := cls (prl h (blks (rest ++ fil n) ((rest ++ fil n).size / 64)))
theorem cls_size (h : ByteArray) : (cls h).size = 32 := by unfold cls; rw [ByteArray.size_extract, add2_size]; rfl
theorem fin_size (h rest : ByteArray) (n : Nat) : (fin h rest n).size = 32 := cls_size _
theorem finish_ok (g : Nat) (h rest : ByteArray) (n : Nat) (hh : h.size = 64) (hr : rest.size ≤ 100000000) (hn : n ≤ 100000000) (W : World) (hT : Tab W g) :
    Calls Tryz.prog 65 #[.pointer (some ⟨g, 0, none⟩), .string h, .string rest, .int .i64 (n : Int)] W fun e w' => e = .returned (.string (fin h rest n)) ∧ Below W.heap.size W w' := by
  have H1 : Hid (Ret 93 #[.int .i64 (n : Int)] (.string (fil n))) := filling_any n (by omega)
  have hf := fil_size n
  have hl : (fil n).size ≤ 200 := by rw [hf]; unfold nb; omega
  have hz : (rest ++ fil n).size ≤ 1000000000000 := by rw [ByteArray.size_append]; omega
  have hp := prl_size h hh (blks (rest ++ fil n) ((rest ++ fil n).size / 64))
  have HE : Hid (fin h rest n = cls (prl h (blks (rest ++ fil n) ((rest ++ fil n).size / 64)))) := (rfl : fin h rest n = _)
  have H2 : Hid (∀ w, Tab w g → Calls Tryz.prog 79 #[.pointer (some ⟨g, 0, none⟩), .string h, .string (rest ++ fil n)] w fun e w' => e = .returned (.string (prl h (blks (rest ++ fil n) ((rest ++ fil n).size / 64)))) ∧ Below w.heap.size w w') := fun w t => pressed_ok g h _ hh hz w t
  have H3 : Hid (∀ w, Tab w g → Calls Tryz.prog 92 #[.pointer (some ⟨g, 0, none⟩), .string (prl h (blks (rest ++ fil n) ((rest ++ fil n).size / 64)))] w fun e w' => e = .returned (.tuple #[.string (cls (prl h (blks (rest ++ fil n) ((rest ++ fil n).size / 64)))), .int .i64 0]) ∧ Below w.heap.size w w') := fun w t => close_ok g _ hp w t
  have HT : Hid (Hold W W g) := ⟨hT, Below.refl _ _⟩
  clear hT hf hz hp
  generalize cls (prl h (blks (rest ++ fil n) ((rest ++ fil n).size / 64))) = c at *
  generalize prl h (blks (rest ++ fil n) ((rest ++ fil n).size / 64)) = p at *
  generalize fil n = x at *
  have hrx : rest.size ≤ 100000000 := hr
  go_enter Tryz.func65, Tryz.ntmps65
  go_wp2_with (first | (go_at_call 93; refine (H1.out.go _).mono ?_; rintro e w1 ⟨rfl, hb1⟩; have HT1 : Hid (Hold W w1 g) := HT.out.below hb1; clear hb1) | (go_at_call 79; refine (H2.out _ HT1.out.t).mono ?_; rintro e w2 ⟨rfl, hb2⟩; have HT2 : Hid (Hold W w2 g) := HT1.out.below hb2; clear hb2) | (go_at_call 92; refine (H3.out _ HT2.out.t).mono ?_; rintro e w3 ⟨rfl, hb3⟩; have HT3 : Hid (Hold W w3 g) := HT2.out.below hb3; clear hb3))
  go_ret
  exact ⟨by rw [HE.out]; rfl, HT3.out.d⟩
/-- A text's digest. -/
def smv (s : ByteArray) : ByteArray := fin fst0 s s.size
theorem sum_ok (g : Nat) (s : ByteArray) (hs : s.size ≤ 1048576) (W : World) (hT : Tab W g) :
    Calls Tryz.prog 41 #[.pointer (some ⟨g, 0, none⟩), .string s] W fun e w' => e = .returned (.string (smv s)) ∧ Below W.heap.size W w' := by
  have H1 : Hid (Ret 66 #[] (.string fst0)) := first_any
  have H2 : Hid (∀ w, Tab w g → Calls Tryz.prog 65 #[.pointer (some ⟨g, 0, none⟩), .string fst0, .string s, .int .i64 (s.size : Int)] w fun e w' => e = .returned (.string (smv s)) ∧ Below w.heap.size w w') := fun w t => finish_ok g fst0 s s.size fst0_size (by omega) (by omega) w t
  have HT : Hid (Hold W W g) := ⟨hT, Below.refl _ _⟩
  have hl : ¬ (1048576 : Int) < (s.size : Int) := by omega
  clear hT
  generalize smv s = c at *
  generalize fst0 = x at *
  go_enter Tryz.func41, Tryz.ntmps41
  go_wp2_with (first | (go_at_call 66; refine (H1.out.go _).mono ?_; rintro e w1 ⟨rfl, hb1⟩; have HT1 : Hid (Hold W w1 g) := HT.out.below hb1; clear hb1) | (go_at_call 65; refine (H2.out _ HT1.out.t).mono ?_; rintro e w2 ⟨rfl, hb2⟩; have HT2 : Hid (Hold W w2 g) := HT1.out.below hb2; clear hb2))
  go_ret
  exact ⟨rfl, HT2.out.d⟩
theorem ful_nil : ful (ByteArray.mk #[]) = ByteArray.mk #[128, 0, 0, 0, 0, 0, 0, 0, 0, 0, 0, 0, 0, 0, 0, 0, 0, 0, 0, 0, 0, 0, 0, 0, 0, 0, 0, 0, 0, 0, 0, 0, 0, 0, 0, 0, 0, 0, 0, 0, 0, 0, 0, 0, 0, 0, 0, 0, 0, 0, 0, 0, 0, 0, 0, 0, 0, 0, 0, 0, 0, 0, 0, 1] := by decide +kernel
theorem none_none : ((ByteArray.mk #[]) ++ (ByteArray.mk #[])).toList.isEmpty = true := by decide +kernel
end Go.Proofs.YtopmkooegpaeaaaGreat
