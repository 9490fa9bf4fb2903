/- Contracts of proof.column, list and Words over the seat's translation. -/
import Derived.Test.YtghapohempogkaaWdA
import Derived.Test.YtghapohempogkaaOeA
import Derived.OwnWalk
import Derived.Deep.OwnRows
namespace Go.Proofs.Ytghapohempogkaa
open Go.RowKit
namespace Wd

/-- A row of words. -/
structure URow (w : World) (a : Option Addr) (c : List Nat) : Prop where
  cells : ∀ i, i < c.length → ∃ b off : Nat, a = some ⟨b, off, none⟩ ∧ b < w.heap.size ∧ w.cell? ⟨b, off + i, none⟩ = some (.int .u64 ((c.getD i 0 : Nat) : Int))
theorem URow.below {w w' : World} {a : Option Addr} {c : List Nat} (h : URow w a c) (hb : Below w.heap.size w w') : URow w' a c := ⟨fun i hi => by
  obtain ⟨b, off, h1, h2, h3⟩ := h.cells i hi
  exact ⟨b, off, h1, Nat.lt_of_lt_of_le h2 hb.size, by rw [hb.cell (p := ⟨b, off + i, none⟩) h2]; exact h3⟩⟩
/-- Columns of words. -/
structure UCols (w : World) (a : Option Addr) (cs : List (List Nat)) : Prop where
  cells : ∀ i, i < cs.length → ∃ (b off : Nat) (a' : Option Addr) (cap' : Nat), a = some ⟨b, off, none⟩ ∧ b < w.heap.size ∧ w.cell? ⟨b, off + i, none⟩ = some (.slice a' (cs.getD i []).length cap') ∧ URow w a' (cs.getD i [])
theorem UCols.below {w w' : World} {a : Option Addr} {cs : List (List Nat)} (h : UCols w a cs) (hb : Below w.heap.size w w') : UCols w' a cs := ⟨fun i hi => by
  obtain ⟨b, off, a', cap', h1, h2, h3, h4⟩ := h.cells i hi
  exact ⟨b, off, a', cap', h1, Nat.lt_of_lt_of_le h2 hb.size, by rw [hb.cell (p := ⟨b, off + i, none⟩) h2]; exact h3, h4.below hb⟩⟩
theorem info_eW : ∃ i, Try.prog.info? 65 = some i ∧ i.zero = some (.agg #[.int .u64 0, .int .u64 0]) ∧ i.size = 2 ∧ i.bytes = 16 := by
  have h : (Try.prog.info? 65).map (fun i => (i.zero, i.size, i.bytes)) = some (some (.agg #[.int .u64 0, .int .u64 0]), 2, 16) := by kernel_rfl
  obtain ⟨i, hi, he⟩ := Option.map_eq_some_iff.1 h
  simp only [Prod.mk.injEq] at he
  exact ⟨i, hi, he.1, he.2.1, he.2.2⟩
theorem own_isRowW {w : World} {base : Nat} {T : TypeId} {g n s c : Nat} {xs : List Value} (h : w.ownsRow base T s (.slice (some ⟨g, 0, none⟩) n n) n xs) (hc : c = n * s) : ∃ f, w.rowIs g T c f ∧ ∀ i, i < c → xs[i]? = some (f i) := by
  obtain ⟨h1, h2⟩ := h
  rcases h2 with ⟨h3, _⟩ | ⟨g', cap', cur, e, hb, hg, hn, hm, hs, ht⟩
  · injection h3 with h4; cases h4
  · injection e with e1 e2 e3
    obtain rfl : g = g' := by injection e1 with e4; injection e4
    subst e3
    subst ht
    refine ⟨fun i => cur.getD i default, ⟨cur, hg, by rw [hs, hc], fun i hi => ?_⟩, fun i hi => ?_⟩
    · have : i < cur.size := by rw [hs, ← hc]; exact hi
      simp [this]
    · have : i < cur.size := by rw [hs, ← hc]; exact hi
      rw [List.getElem?_take_of_lt (by omega)]
      simp [this]
/-- Elements of which k have their word. -/
def wcell (c : List Nat) (k i : Nat) : Value := .int .u64 (if i % 2 = 1 ∧ i / 2 < k then ((c.getD (i / 2) 0 : Nat) : Int) else 0)
theorem zero_cells {n i : Nat} (hi : i < n * 2) : ((madeCells (Value.agg #[.int .u64 0, .int .u64 0]).cells (n * 2)).toList)[i]? = some (.int .u64 0) := by
  have hc : (Value.agg #[.int .u64 0, .int .u64 0]).cells = #[.int .u64 0, .int .u64 0] := by simp [Value.cells]
  unfold madeCells
  rw [hc]
  rcases Nat.mod_two_eq_zero_or_one i with h | h <;> simp [hi, h]
theorem wrow_start {w : World} {base g n : Nat} (c : List Nat) (h : w.ownsRow base 65 2 (.slice (some ⟨g, 0, none⟩) n n) n (madeCells (Value.agg #[.int .u64 0, .int .u64 0]).cells (n * 2)).toList) : w.rowIs g 65 (n * 2) (wcell c 0) := by
  obtain ⟨f, hf, hz⟩ := own_isRowW h (rfl : n * 2 = n * 2)
  refine hf.congr fun i hi => ?_
  have h1 := hz i hi
  rw [zero_cells hi] at h1
  rw [← Option.some.inj h1]
  unfold wcell
  rw [if_neg (by omega)]
theorem wrow_put {w : World} {g n k : Nat} (c : List Nat) (h : w.rowIs g 65 (n * 2) (wcell c k)) : (w.setCell ⟨g, k * 2 + 1, none⟩ (.int .u64 ((c.getD k 0 : Nat) : Int))).rowIs g 65 (n * 2) (wcell c (k + 1)) := by
  refine (h.set (k * 2 + 1) _).congr fun i hi => ?_
  unfold wcell
  by_cases e : i = k * 2 + 1
  · rw [if_pos e, if_pos (by omega), show i / 2 = k by omega]
  · rw [if_neg e]
    by_cases e2 : i % 2 = 1 ∧ i / 2 < k
    · rw [if_pos e2, if_pos (by omega)]
    · rw [if_neg e2, if_neg (by omega)]
theorem wrow_erow {w : World} {g n : Nat} {c : List Nat} (hl : c.length = n) (h : w.rowIs g 65 (n * 2) (wcell c n)) : ERow w (some ⟨g, 0, none⟩) (ecol c) := ⟨fun i hi => by
  rw [ecol_len, hl] at hi
  have c1 := h.cell (i := i * 2) (by omega)
  have c0 := h.cell (i := i * 2 + 1) (by omega)
  have e : (ecol c).getD i (0, 0) = (0, c.getD i 0) := by simp [ecol, List.getD, hl, hi]
  rw [e]
  refine ⟨g, 0, rfl, h.lt, ?_, ?_⟩
  · rw [Nat.zero_add, c1]; unfold wcell; rw [if_neg (by omega)]; rfl
  · rw [Nat.zero_add, c0]; unfold wcell; rw [if_pos (by omega), show (i * 2 + 1) / 2 = i by omega]⟩
set_option maxHeartbeats 4000000 in
set_option maxRecDepth 100000 in
theorem column_any (a : Option Addr) (cap n : Nat) (c : List Nat) (hl : c.length = n) (hc : ltC c) (hn : n ≤ 1000) (W : World) (hr : URow W a c) :
    Calls Try.prog 14 #[.slice a n cap] W fun e w' => e = .returned (.string (colS c)) ∧ Below W.heap.size W w' := by
  obtain ⟨i0, hi0, hz0, hz1, hz2⟩ := info_eW
  have HI := hidW (And.intro hi0 (And.intro hz0 (And.intro hz1 hz2)))
  have HR := hidW (And.intro hr (And.intro hl hc))
  have HN := hidW hn
  clear hi0 hz0 hz1 hz2 hr hl hc hn
  go_enter Try.func14, Try.ntmps14
  go_wp2_with (at_make; refine wpList_make_full _ rfl _ _ 64 rfl 0 65 i0 (.agg #[.int .u64 0, .int .u64 0]) 2 Try.underlying64 HI.out.1 HI.out.2.1 HI.out.2.2.1 .i64 .i64 _ _ n rfl rfl rfl rfl (by rw [HI.out.2.2.2]; have := HN.out; omega) (by simp only [maxLen]; have := HN.out; omega) (Nat.zero_le _) ?_; intro w2 own2 hgr2; have K2 := hidW (And.intro (wrow_start c own2) ((Below.refl W.heap.size W).grown hgr2 (Nat.le_refl _) (fun k hk => by cases hk))); clear own2 hgr2)
  go_loopw [11] (fun u wr => ∃ k : Nat, k ≤ n ∧ u = .int .i64 k ∧ Hid (wr.rowIs W.heap.size 65 (n * 2) (wcell c k) ∧ Below W.heap.size W wr)) (fun u _ => n - (intOf u).toNat)
  case atStart => exact ⟨0, Nat.zero_le _, rfl, K2⟩
  case round =>
    obtain ⟨k, hk, rfl, HK⟩ := hrel
    clear K2
    have hN := HN.out
    by_cases hlt : k < n
    · have k1 : (k : Int) < (n : Int) := by omega
      have k0 : (0 : Int) ≤ (k : Int) := by omega
      obtain ⟨b0, o0, rfl, hb0, d0⟩ := HR.out.1.cells k (by rw [HR.out.2.1]; exact hlt)
      have D0 := keepc HK.out.2 d0
      have c0 := HK.out.1.cell (i := k * 2 + 1) (by omega)
      have z0 := HK.out.1.frozen (k * 2 + 1)
      clear d0
      have HX := hidW (wrow_put c HK.out.1)
      generalize c.getD k 0 = x at *
      generalize wcell c k (k * 2 + 1) = y at c0
      go_wp2
      exact ⟨⟨k + 1, hlt, by simp, ⟨HX.out, HK.out.2.setCell (Nat.le_refl _) _⟩⟩, by simp [intOf]; omega⟩
    · obtain rfl : k = n := by omega
      have HE := hidW (wrow_erow HR.out.2.1 HK.out.1)
      have HC := hidW (oelems 6 (some ⟨W.heap.size, 0, none⟩) k k (ecol c) (by rw [ecol_len, HR.out.2.1]) (ltE_ecol HR.out.2.2) HN.out wr HE.out)
      go_wp2_with (go_at_call 28; refine HC.out.mono ?_; rintro e w3 ⟨rfl, hb3⟩)
      go_ret
      exact ⟨rfl, HK.out.2.trans (hb3.mono HK.out.2.size)⟩
theorem colS_size {c : List Nat} (h : c.length ≤ 1000) : (colS c).size ≤ 20000 := by
  unfold colS elemsS
  have h5 := elemsL_len 6 (ecol c)
  rw [ecol_len] at h5
  have h6 := numS_size ((ecol c).length : Int)
  have h7 : (numS ((ecol c).length : Int)).data.toList.length = (numS ((ecol c).length : Int)).size := by rw [Array.length_toList]; rfl
  split
  · exact Nat.zero_le _
  · split
    · show Array.size _ ≤ _
      rw [List.size_toArray, List.length_append]
      omega
    · exact Nat.zero_le _
theorem colsL_len (cs : List (List Nat)) (h : ∀ c ∈ cs, c.length ≤ 1000) : (colsL cs).length ≤ cs.length * 20000 := by
  induction cs with
  | nil => simp [colsL]
  | cons c l ih =>
    have e : (colsL (c :: l)).length = (colS c).data.toList.length + (colsL l).length := by simp [colsL]
    have e1 : (colS c).data.toList.length = (colS c).size := by rw [Array.length_toList]; rfl
    have h1 := colS_size (h c (by simp))
    have h2 := ih fun d hd => h d (by simp [hd])
    rw [e, e1, List.length_cons]; omega
set_option maxHeartbeats 4000000 in
set_option maxRecDepth 100000 in
theorem wlist_any (a : Option Addr) (cap n : Nat) (cs : List (List Nat)) (hl : cs.length = n) (hc : ∀ c ∈ cs, c.length ≤ 1000 ∧ ltC c) (hn : n ≤ 1000) (W : World) (hr : UCols W a cs) :
    Calls Try.prog 13 #[.slice a n cap, .func (.func 14) #[] #[]] W fun e w' => e = .returned (.string (wordsS cs)) ∧ Below W.heap.size W w' := by
  have HR := hidW (And.intro hr (And.intro hl hc))
  have HN := hidW hn
  have h0 := hidW (Lib.IsBuilderF.of (Lib.fresh_isBuilder 58 5 W))
  have hz := hidW (numS_size (n : Int))
  have HS : Hid (wordsS cs = ⟨((numS n).data.toList ++ colsL cs).toArray⟩) := by show _ = _; unfold wordsS; rw [hl]
  clear hr hl hc hn
  go_enter Try.func13, Try.ntmps13
  go_wp2_with (first
    | (go_at_call 26; refine (num_any _ _).mono ?_; rintro e w3 ⟨rfl, hb3⟩; have K3 := hidW (And.intro (builder_below h0.out hb3) (((Below.refl W.heap.size W).alloc (Nat.le_refl _) _).trans (hb3.mono (by simp)))); clear hb3)
    | (go_at_call 25; refine (builder_WriteString W.heap.size W.heap.size _ _ _ K3.out.1 (by have := hz.out; simp; omega) K3.out.2.size).mono ?_; rintro e w4 ⟨rfl, h4, hb4, _⟩; have K4 : Hid (Lib.IsBuilderF 58 5 W.heap.size W.heap.size (Lib.byteCells ((numS n).data.toList ++ colsL (cs.take 0))) w4 ∧ Below W.heap.size W w4) := ⟨.inr (by simpa [colsL, Lib.strCells_eq] using h4), K3.out.2.trans hb4⟩; clear h4 hb4))
  go_loopw [14] (fun v wr => ∃ k : Nat, k ≤ n ∧ v = .int .i64 k ∧ Hid (Lib.IsBuilderF 58 5 W.heap.size W.heap.size (Lib.byteCells ((numS n).data.toList ++ colsL (cs.take k))) wr ∧ Below W.heap.size W wr)) (fun v _ => n - (intOf v).toNat)
  case atStart => exact ⟨0, Nat.zero_le _, rfl, K4⟩
  case round =>
    clear K3 K4 h0
    have hN := HN.out
    obtain ⟨k, hk, rfl, HK⟩ := hrel
    by_cases hlt : k < n
    · have k1 : (k : Int) < (n : Int) := by omega
      have k0 : (0 : Int) ≤ (k : Int) := by omega
      have hk2 : k < cs.length := by rw [HR.out.2.1]; exact hlt
      obtain ⟨b0, o0, a', cap', rfl, hb0, d0, hu⟩ := HR.out.1.cells k hk2
      have D0 := keepc HK.out.2 d0
      have hm := HR.out.2.2 _ (mem_at hk2)
      have HC : Hid (∀ w, Below W.heap.size W w → Calls Try.prog 14 #[.slice a' (cs.getD k []).length cap'] w fun e w' => e = .returned (.string (colS (cs.getD k []))) ∧ Below w.heap.size w w') := fun w hb => column_any a' cap' _ _ rfl hm.2 hm.1 w (hu.below hb)
      have HT := hidW (take_snocW cs [] k hk2)
      have hb1 := hidW (colS_size hm.1)
      have hb2 := hidW (colsL_len (cs.take k) fun c hc => (HR.out.2.2 c (List.mem_of_mem_take hc)).1)
      have hb3 : (cs.take k).length ≤ k := by rw [List.length_take]; omega
      clear d0 hu hm
      generalize cs.getD k [] = c at *
      generalize cs.take k = pr at *
      go_wp2_with (go_at_call 14; refine (HC.out _ HK.out.2).mono ?_; rintro e w5 ⟨rfl, hb5⟩; have K5 := hidW (And.intro (builder_below HK.out.1 hb5) (HK.out.2.trans (hb5.mono HK.out.2.size))); clear hb5)
      refine (builder_WriteString W.heap.size W.heap.size _ _ _ K5.out.1 (by have h1 := hz.out; have h2 := hb2.out; have h3 := hb1.out; have h4 := HN.out; have h5 : (numS (n : Int)).data.size = (numS (n : Int)).size := rfl; rw [Lib.byteCells_length, List.length_append, Array.length_toList, h5]; omega) K5.out.2.size).mono ?_
      rintro e w4 ⟨rfl, h4, hb4, hk4⟩
      go_wp2
      refine ⟨⟨k + 1, hlt, by simp, ⟨.inr ?_, K5.out.2.trans hb4⟩⟩, by simp [intOf]; omega⟩
      rw [HT.out, colsL_snoc, ← List.append_assoc, Lib.byteCells_append]
      simpa [Lib.strCells_eq] using h4
    · obtain rfl : k = n := by omega
      have hb := HK.out.1
      rw [List.take_of_length_le (by rw [HR.out.2.1]; exact Nat.le_refl _)] at hb
      have HB := hidW hb
      clear hb
      go_wp2_with (go_at_call 27; refine (builder_String W.heap.size W.heap.size _ _ HB.out HK.out.2.size).mono ?_; rintro e w9 ⟨rfl, _, hb9, _⟩)
      go_ret
      exact ⟨by rw [HS.out]; rfl, HK.out.2.trans hb9⟩
theorem short_cols (a : Option Addr) (cap n : Nat) (hn : n ≤ 1000) : Ret 11 #[.slice a n cap] (.bool true) := by
  intro W
  have h1 : (n : Int) ≤ 4096 := by omega
  go_enter Try.func11, Try.ntmps11
  go_wp2
  go_ret
  exact ⟨rfl, Below.refl _ _⟩
theorem short_col (a : Option Addr) (cap n : Nat) (hn : n ≤ 1000) : Ret 24 #[.slice a n cap] (.bool true) := by
  intro W
  have h1 : (n : Int) ≤ 4096 := by omega
  go_enter Try.func24, Try.ntmps24
  go_wp2
  go_ret
  exact ⟨rfl, Below.refl _ _⟩
set_option maxHeartbeats 4000000 in
theorem each_short (a : Option Addr) (cap n : Nat) (cs : List (List Nat)) (hl : cs.length = n) (hc : ∀ c ∈ cs, c.length ≤ 1000 ∧ ltC c) (hn : n ≤ 1000) (W : World) (hr : UCols W a cs) :
    Calls Try.prog 12 #[.slice a n cap] W fun e w' => e = .returned (.bool true) ∧ Below W.heap.size W w' := by
  have HR := hidW (And.intro hr (And.intro hl hc))
  clear hr hl hc
  go_enter Try.func12, Try.ntmps12
  go_wp2_with fail
  go_loopw [7] (fun v wr => ∃ k : Nat, k ≤ n ∧ v = .int .i64 k ∧ Hid (Below W.heap.size W wr)) (fun v _ => n - (intOf v).toNat)
  case atStart => exact ⟨0, Nat.zero_le _, rfl, Below.refl _ _⟩
  case round =>
    obtain ⟨k, hk, rfl, HK⟩ := hrel
    by_cases hlt : k < n
    · have k1 : (k : Int) < (n : Int) := by omega
      have k0 : (0 : Int) ≤ (k : Int) := by omega
      have hk2 : k < cs.length := by rw [HR.out.2.1]; exact hlt
      obtain ⟨b0, o0, a', cap', rfl, hb0, d0, hu⟩ := HR.out.1.cells k hk2
      have D0 := keepc HK.out d0
      have hm := HR.out.2.2 _ (mem_at hk2)
      have HC := hidW (short_col a' cap' _ hm.1)
      clear d0 hu hm
      generalize (cs.getD k []).length = m at *
      go_wp2_with (go_at_call 24; refine (HC.out.go _).mono ?_; rintro e w5 ⟨rfl, hb5⟩; have K5 := hidW (HK.out.trans (hb5.mono HK.out.size)); clear hb5)
      exact ⟨⟨k + 1, hlt, by simp, K5⟩, by simp [intOf]; omega⟩
    · obtain rfl : k = n := by omega
      go_wp2
      go_ret
      exact ⟨rfl, HK.out⟩
set_option maxHeartbeats 4000000 in
theorem wwords_any (a : Option Addr) (cap n : Nat) (cs : List (List Nat)) (hl : cs.length = n) (hc : ∀ c ∈ cs, c.length ≤ 1000 ∧ ltC c) (hn : n ≤ 1000) (W : World) (hr : UCols W a cs) :
    Calls Try.prog 5 #[.slice a n cap] W fun e w' => e = .returned (.tuple #[.string (wordsS cs), .int .i64 0]) ∧ Below W.heap.size W w' := by
  have H1 := hidW (short_cols a cap n hn)
  have H2 : Hid (∀ w, Below W.heap.size W w → Calls Try.prog 12 #[.slice a n cap] w fun e w' => e = .returned (.bool true) ∧ Below w.heap.size w w') := fun w hb => each_short a cap n cs hl hc hn w (hr.below hb)
  have H3 : Hid (∀ w, Below W.heap.size W w → Calls Try.prog 13 #[.slice a n cap, .func (.func 14) #[] #[]] w fun e w' => e = .returned (.string (wordsS cs)) ∧ Below w.heap.size w w') := fun w hb => wlist_any a cap n cs hl hc hn w (hr.below hb)
  clear hr hl hc hn
  generalize wordsS cs = B at *
  go_enter Try.func5, Try.ntmps5
  go_wp2_with (first
    | (go_at_call 11; refine (H1.out.go _).mono ?_; rintro e w1 ⟨rfl, hb1⟩; have K1 := hidW hb1; clear hb1)
    | (go_at_call 12; refine (H2.out _ K1.out).mono ?_; rintro e w2 ⟨rfl, hb2⟩; have K2 := hidW (K1.out.trans (hb2.mono K1.out.size)); clear hb2)
    | (go_at_call 13; refine (H3.out _ K2.out).mono ?_; rintro e w3 ⟨rfl, hb3⟩; have K3 := hidW (K2.out.trans (hb3.mono K2.out.size)); clear hb3))
  refine bodyPost_ret (v := .tuple #[.string B, .int .i64 0]) (by simp [results, Try.results5, go_sem]) rfl ⟨rfl, ?_⟩
  exact K3.out
end Wd
end Go.Proofs.Ytghapohempogkaa
