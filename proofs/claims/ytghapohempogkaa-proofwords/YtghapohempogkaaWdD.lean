/- Contracts of proof.readColumn, readList and ReadWords over the seat's translation. -/
import Derived.Test.YtghapohempogkaaWdB
import Derived.Test.YtghapohempogkaaPOctN
namespace Go.Proofs.Ytghapohempogkaa
open Go.RowKit
namespace Wd

theorem _root_.Go.Proofs.Ytghapohempogkaa.Step.belowW {q : Nat} {t : ByteArray} {e : Int} {W w w' : World} (h : Step q t e w w') (hb : Below W.heap.size W w) (hq : W.heap.size ≤ q) : Below W.heap.size W w' :=
  ⟨h.os.trans hb.os, h.tape.trans hb.tape, h.output.trans hb.output, Nat.le_trans hb.size h.size, fun j hj => (h.rest j (Nat.lt_of_lt_of_le hj hb.size) (by omega)).trans (hb.block j hj)⟩
theorem elms_err (l : Int) : ∀ (n : Nat) (s : ByteArray) (acc : List (Nat × Nat)), ¬ (rdElms l n s acc).2.1 = 0 → (rdElms l n s acc).2.2 = none
  | 0, s, acc, h => absurd rfl h
  | n + 1, s, acc, h => by
    unfold rdElms at h ⊢
    by_cases h0 : (rdElem s 0 l).2.1 = 0
    · rw [if_pos h0] at h ⊢
      exact elms_err l n _ _ h
    · rw [if_neg h0]
theorem col_len (s : ByteArray) : ((rdElems s 0 6 4096).2.2.getD []).length ≤ 4096 := by
  by_cases h : (rdElems s 0 6 4096).2.1 = 0
  · obtain ⟨es, e1, e2, _⟩ := elems_backW s 6 4096 h
    rw [e1]
    show es.length ≤ 4096
    omega
  · unfold rdElems at h ⊢
    by_cases hh : (rdHas s 0 6).2.2 = true
    · rw [if_pos hh] at h ⊢
      by_cases h1 : (rdNum s 0 4096).2.1 = 0
      · rw [if_pos h1] at h ⊢
        rw [elms_err _ _ _ _ h]
        exact Nat.zero_le _
      · rw [if_neg h1]
        exact Nat.zero_le _
    · rw [if_neg hh]
      exact Nat.zero_le _
theorem fail_any (b : Nat) (s : ByteArray) (e : Int) (w : World) (h : Rd b s e w) : Calls Try.prog 30 #[.pointer (some ⟨b, 0, none⟩)] w fun r w' => r = .returned (.int .i64 e) ∧ w' = w := by
  have c1 := h.c1
  have f1 := h.fz 1
  clear h
  go_enter Try.func30, Try.ntmps30
  go_wp2
  go_ret
  exact ⟨rfl, rfl⟩
theorem info_u64 : ∃ i, Try.prog.info? 39 = some i ∧ i.zero = some (.int .u64 0) ∧ i.size = 1 ∧ i.bytes = 8 := by
  have h : (Try.prog.info? 39).map (fun i => (i.zero, i.size, i.bytes)) = some (some (.int .u64 0), 1, 8) := by kernel_rfl
  obtain ⟨i, hi, he⟩ := Option.map_eq_some_iff.1 h
  simp only [Prod.mk.injEq] at he
  exact ⟨i, hi, he.1, he.2.1, he.2.2⟩
theorem info_col : ∃ i, Try.prog.info? 24 = some i ∧ i.zero = some (.slice none 0 0) ∧ i.size = 1 ∧ i.bytes = 24 := by
  have h : (Try.prog.info? 24).map (fun i => (i.zero, i.size, i.bytes)) = some (some (.slice none 0 0), 1, 24) := by kernel_rfl
  obtain ⟨i, hi, he⟩ := Option.map_eq_some_iff.1 h
  simp only [Prod.mk.injEq] at he
  exact ⟨i, hi, he.1, he.2.1, he.2.2⟩
/-- Words of which k are there. -/
def ucell (c : List Nat) (k i : Nat) : Value := .int .u64 (if i < k then ((c.getD i 0 : Nat) : Int) else 0)
theorem zero_words {n i : Nat} (hi : i < n) : ((madeCells (Value.int .u64 0).cells (n * 1)).toList)[i]? = some (.int .u64 0) := by
  have hc : (Value.int .u64 0).cells = #[.int .u64 0] := by simp [Value.cells]
  unfold madeCells
  rw [hc, Nat.mul_one]
  simp [hi, Nat.mod_one]
theorem urow_start {w : World} {base g n : Nat} (c : List Nat) (h : w.ownsRow base 39 1 (.slice (some ⟨g, 0, none⟩) n n) n (madeCells (Value.int .u64 0).cells (n * 1)).toList) : w.rowIs g 39 n (ucell c 0) := by
  obtain ⟨f, hf, hz⟩ := own_isRowW h (show n = n * 1 by omega)
  refine hf.congr fun i hi => ?_
  have h1 := hz i hi
  rw [zero_words hi] at h1
  rw [← Option.some.inj h1]
  unfold ucell
  rw [if_neg (by omega)]
theorem urow_put {w : World} {g n k : Nat} (c : List Nat) (h : w.rowIs g 39 n (ucell c k)) : (w.setCell ⟨g, k, none⟩ (.int .u64 ((c.getD k 0 : Nat) : Int))).rowIs g 39 n (ucell c (k + 1)) := by
  refine (h.set k _).congr fun i hi => ?_
  unfold ucell
  by_cases e : i = k
  · rw [if_pos e, if_pos (by omega), e]
  · rw [if_neg e]
    by_cases e2 : i < k
    · rw [if_pos e2, if_pos (by omega)]
    · rw [if_neg e2, if_neg (by omega)]
/-- A word's cell. -/
def wordF (c : List Nat) (i : Nat) : Value := .int .u64 ((c.getD i 0 : Nat) : Int)
theorem urow_end {w : World} {g n : Nat} {c : List Nat} (h : w.rowIs g 39 n (ucell c n)) : w.rowIs g 39 n (wordF c) := h.congr fun i hi => by
  unfold ucell wordF
  rw [if_pos hi]
theorem los_at (es : List (Nat × Nat)) (i : Nat) (h : i < es.length) : (los es).getD i 0 = (es.getD i (0, 0)).2 := by simp [los, List.getD, h]
set_option maxHeartbeats 4000000 in
set_option maxRecDepth 100000 in
theorem readcol_any (b : Nat) (s : ByteArray) (W : World) (h : Rd b s 0 W) : Calls Try.prog 17 #[.pointer (some ⟨b, 0, none⟩)] W fun r w' => ∃ g, r = .returned (.slice (some ⟨g, 0, none⟩) (rdCol s).2.2.length (rdCol s).2.2.length) ∧ W.heap.size ≤ g ∧ w'.rowIs g 39 (rdCol s).2.2.length (wordF (rdCol s).2.2) ∧ Step b (rdCol s).1 (rdCol s).2.1 W w' := by
  have HE : Hid (Calls Try.prog 31 #[.pointer (some ⟨b, 0, none⟩), .int .i64 6, .int .i64 4096] W fun r w' => ∃ a cap, r = .returned (.slice a ((rdElems s 0 6 4096).2.2.getD []).length cap) ∧ ERow w' a ((rdElems s 0 6 4096).2.2.getD []) ∧ Step b (rdElems s 0 6 4096).1 (rdElems s 0 6 4096).2.1 W w') := (rd_elems b s 0 6 4096 W h).mono fun r w' hq => by
    obtain ⟨v, h1, h2, h3⟩ := hq
    generalize (rdElems s 0 6 4096).2.2 = o at *
    cases o with
    | none => exact ⟨none, 0, by rw [h1, h2]; rfl, ⟨fun i hi => by simp at hi⟩, h3⟩
    | some es =>
      obtain ⟨a, cap, e, h4⟩ := h2
      exact ⟨a, cap, by rw [h1, e]; rfl, h4, h3⟩
  have hb := h.lt
  have hlen := col_len s
  have e3 : (rdCol s).2.2 = los ((rdElems s 0 6 4096).2.2.getD []) := rfl
  have e1 : (rdCol s).1 = (rdElems s 0 6 4096).1 := rfl
  have e2 : (rdCol s).2.1 = (rdElems s 0 6 4096).2.1 := rfl
  have hL : (los ((rdElems s 0 6 4096).2.2.getD [])).length = ((rdElems s 0 6 4096).2.2.getD []).length := by simp [los]
  rw [e1, e2, e3, hL]
  clear e1 e2 e3 hL h
  generalize (rdElems s 0 6 4096).2.2.getD [] = es at *
  generalize (rdElems s 0 6 4096).1 = s1 at *
  generalize (rdElems s 0 6 4096).2.1 = x1 at *
  obtain ⟨n, hn⟩ : ∃ n, n = es.length := ⟨_, rfl⟩
  rw [← hn] at HE hlen ⊢
  have HN := hidW hn
  clear hn
  obtain ⟨i0, hi0, hz0, hz1, hz2⟩ := info_u64
  have HI := hidW (And.intro hi0 (And.intro hz0 (And.intro hz1 hz2)))
  clear hi0 hz0 hz1 hz2
  go_enter Try.func17, Try.ntmps17
  go_wp2_with (first
    | (go_at_call 31; refine HE.out.mono ?_; rintro r w1 ⟨a, cap, rfl, hr1, st1⟩; have K1 := hidW (And.intro hr1 st1); clear hr1 st1 HE)
    | (at_make; refine wpList_make_full _ rfl _ _ 24 rfl 0 39 i0 (.int .u64 0) 1 Try.underlying24 HI.out.1 HI.out.2.1 HI.out.2.2.1 .i64 .i64 _ _ n rfl rfl rfl rfl (by rw [HI.out.2.2.2]; omega) (by simp only [maxLen]; omega) (Nat.zero_le _) ?_; intro w2 own2 hgr2; have K2 := hidW (And.intro (urow_start (los es) own2) ((Below.refl w1.heap.size w1).grown hgr2 (Nat.le_refl _) (fun k hk => by cases hk))); clear own2 hgr2))
  go_loopw [14] (fun u wr => ∃ k : Nat, k ≤ n ∧ u = .int .i64 k ∧ Hid (wr.rowIs w1.heap.size 39 n (ucell (los es) k) ∧ Below w1.heap.size w1 wr)) (fun u _ => n - (intOf u).toNat)
  case atStart => exact ⟨0, Nat.zero_le _, rfl, K2⟩
  case round =>
    obtain ⟨k, hk, rfl, HK⟩ := hrel
    clear K2
    by_cases hlt : k < n
    · have k1 : (k : Int) < (n : Int) := by omega
      have k0 : (0 : Int) ≤ (k : Int) := by omega
      obtain ⟨b0, o0, rfl, hb0, d1, d0⟩ := K1.out.1.cells k (by rw [← HN.out]; exact hlt)
      have D1 := keepc HK.out.2 d1
      have D0 := keepc HK.out.2 d0
      have HX := hidW (fun (w : World) (hw : w.rowIs w1.heap.size 39 n (ucell (los es) k)) => urow_put (los es) hw)
      rw [los_at es k (by rw [← HN.out]; exact hlt)] at HX
      clear d1 d0
      generalize es.getD k (0, 0) = e at *
      obtain ⟨eh, el⟩ := e
      dsimp only at *
      have c0 := HK.out.1.cell (i := k) hlt
      have z0 := HK.out.1.frozen k
      have HX1 := hidW (HX.out _ HK.out.1)
      have HB1 := hidW (HK.out.2.setCell (p := ⟨w1.heap.size, k, none⟩) (Nat.le_refl _) (.int .u64 (el : Int)))
      have hb1 := HK.out.1.lt
      go_wp2
      exact ⟨⟨k + 1, hlt, by simp, ⟨HX1.out.alloc _, HB1.out.alloc HB1.out.size _⟩⟩, by simp [intOf]; omega⟩
    · obtain rfl : k = n := by omega
      go_wp2
      go_ret
      refine ⟨_, rfl, ?_, urow_end HK.out.1, K1.out.2.below HK.out.2⟩
      exact K1.out.2.size
/-- Columns that have been read: where each lies, and its words. -/
def rws (gs : List (Nat × List Nat)) : List Value := gs.map fun p => .slice (some ⟨p.1, 0, none⟩) p.2.length p.2.length
structure Gr (W w : World) (v : Value) (gs : List (Nat × List Nat)) : Prop where
  own : w.ownsRow W.heap.size 24 1 v gs.length (rws gs)
  row : ∀ p ∈ gs, W.heap.size ≤ p.1 ∧ w.rowIs p.1 39 p.2.length (wordF p.2)
theorem Gr.step {W w w' : World} {v : Value} {gs : List (Nat × List Nat)} {b : Nat} {s : ByteArray} {e : Int} (h : Gr W w v gs) (hb : b < W.heap.size) (k : Step b s e w w') : Gr W w' v gs :=
  ⟨own_step h.own hb k, fun p hp => ⟨(h.row p hp).1, (h.row p hp).2.of_block (k.rest _ (h.row p hp).2.lt (by have := (h.row p hp).1; omega))⟩⟩
theorem own_apartW {w : World} {base : Nat} {v : Value} {n b m : Nat} {xs : List Value} {f : Nat → Value} (h : w.ownsRow base 24 1 v n xs) (hr : w.rowIs b 39 m f) : v.ownBlock ≠ some b := by
  rcases h.2 with ⟨rfl, _⟩ | ⟨g, cap, cur, rfl, _, hg, _⟩
  · simp [Value.ownBlock]
  · intro e
    obtain rfl : g = b := by simpa [Value.ownBlock] using e
    obtain ⟨c, hc, _⟩ := hr
    rw [hg] at hc
    injection hc with h1
    injection h1 with _ h2
    exact absurd h2 (by decide)
theorem Gr.push {W w w' : World} {v v' : Value} {gs : List (Nat × List Nat)} {g : Nat} {c : List Nat} (h : Gr W w v gs) (hg : W.heap.size ≤ g) (hr : w.rowIs g 39 c.length (wordF c)) (hown : w'.ownsRow W.heap.size 24 1 v' (gs.length + 1) (rws gs ++ [.slice (some ⟨g, 0, none⟩) c.length c.length])) (hk : w.grownBy w' v.ownBlock) : Gr W w' v' (gs ++ [(g, c)]) := by
  refine ⟨?_, fun p hp => ?_⟩
  · rw [List.length_append]
    have e : rws (gs ++ [(g, c)]) = rws gs ++ [.slice (some ⟨g, 0, none⟩) c.length c.length] := by simp [rws]
    rw [e]
    exact hown
  · rcases List.mem_append.1 hp with hp | hp
    · exact ⟨(h.row p hp).1, (h.row p hp).2.of_block (hk.block _ (h.row p hp).2.lt (fun q => own_apartW h.own (h.row p hp).2 q.symm))⟩
    · obtain rfl : p = (g, c) := by simpa using hp
      exact ⟨hg, hr.of_block (hk.block _ hr.lt (fun q => own_apartW h.own hr q.symm))⟩
theorem Gr.cols {W w : World} {v : Value} {gs : List (Nat × List Nat)} (h : Gr W w v gs) : ∃ a cap, v = .slice a gs.length cap ∧ UCols w a (gs.map Prod.snd) := by
  rcases h.own.2 with ⟨h1, h0⟩ | ⟨g, cap, cur, rfl, hb, hg, hn, hm, hs, ht⟩
  · refine ⟨none, 0, by rw [h0]; exact h1, ⟨fun i hi => by rw [List.length_map] at hi; omega⟩⟩
  · refine ⟨some ⟨g, 0, none⟩, cap, rfl, ⟨fun i hi => ?_⟩⟩
    rw [List.length_map] at hi
    have e := h.own.cellAt i (by omega)
    have hp : gs[i] ∈ gs := List.getElem_mem _
    have e2 : (gs.map Prod.snd).getD i [] = (gs[i]).2 := by simp [List.getD, hi]
    have e3 : (rws gs)[i]? = some (.slice (some ⟨(gs[i]).1, 0, none⟩) (gs[i]).2.length (gs[i]).2.length) := by simp [rws, hi]
    rw [e3] at e
    have hg2 : g < w.heap.size := (Array.getElem?_eq_some_iff.1 hg).1
    have hr := (h.row _ hp).2
    refine ⟨g, 0, some ⟨(gs[i]).1, 0, none⟩, (gs[i]).2.length, rfl, hg2, by rw [Nat.zero_add, e2]; exact e, ⟨fun j hj => ?_⟩⟩
    rw [e2] at hj ⊢
    exact ⟨(gs[i]).1, 0, rfl, hr.lt, by rw [Nat.zero_add]; exact hr.cell hj⟩
/-- Columns, or none. -/
def GrS (w : World) (v : Value) : Option (List (List Nat)) → Prop
  | none => v = .slice none 0 0
  | some cs => ∃ a cap, v = .slice a cs.length cap ∧ UCols w a cs
theorem numz {s : ByteArray} {e m : Int} (hn : ¬ (rdNum s e m).2.1 = 0) : (rdNum s e m).2.2 = 0 := by
  unfold rdNum at hn ⊢
  split
  · split
    · rfl
    · split
      · rfl
      · rename_i h1 h2 h3
        rw [if_pos h1, if_neg h2, if_neg h3] at hn
        exact absurd rfl hn
  · rfl
set_option maxHeartbeats 4000000 in
set_option maxRecDepth 100000 in
theorem readlist_any (b : Nat) (s : ByteArray) (W : World) (h : Rd b s 0 W) : Calls Try.prog 16 #[.pointer (some ⟨b, 0, none⟩), .int .i64 4096, .func (.func 17) #[] #[]] W fun r w' => ∃ v, r = .returned v ∧ GrS w' v (rdWords s).2.2 ∧ Step b (rdWords s).1 (rdWords s).2.1 W w' := by
  have hbW : b < W.heap.size := h.lt
  have H1 := hidW (rd_num b s 0 4096 W h)
  have hp := rdNum_pos s 0 4096
  have HQ : Hid (rdWords s = if (rdNum s 0 4096).2.1 = 0 then rdCols (rdNum s 0 4096).2.2.toNat (rdNum s 0 4096).1 [] else ((rdNum s 0 4096).1, (rdNum s 0 4096).2.1, some [])) := rfl
  have hz := fun hn => numz (s := s) (e := 0) (m := 4096) hn
  have hle : (rdNum s 0 4096).2.1 = 0 → (rdNum s 0 4096).2.2 ≤ 4096 := fun h0 => (rdNum_back s 4096 h0).2.1
  obtain ⟨i0, hi0, hz0, hz1, hz2⟩ := info_col
  have HI := hidW (And.intro hi0 (And.intro hz0 (And.intro hz1 hz2)))
  clear hi0 hz0 hz1 hz2 h
  generalize rdWords s = R at *
  generalize rdNum s 0 4096 = q at *
  obtain ⟨q1, q2, q3⟩ := q
  dsimp only at *
  obtain ⟨N, rfl⟩ : ∃ N : Nat, q3 = (N : Int) := ⟨q3.toNat, by omega⟩
  by_cases h2 : q2 = 0
  · subst h2
    rw [if_pos rfl, Int.toNat_natCast] at HQ
    have hN := hle rfl
    clear hz hle
    go_enter Try.func16, Try.ntmps16
    go_wp2_with (go_at_call 29; refine H1.out.mono ?_; rintro r w1 ⟨rfl, st1⟩; have S1 := hidW st1; clear st1)
    go_loopw [7, 12] (fun x u wr => ∃ (k : Nat) (s' : ByteArray) (gs : List (Nat × List Nat)), k ≤ N ∧ u = .int .i64 k ∧ Hid (rdCols (N - k) s' (gs.map Prod.snd) = R) ∧ Hid (gs.length = k ∧ Gr W wr x gs ∧ Step b s' 0 W wr)) (fun _ u _ => N - (intOf u).toNat)
    case atStart => exact ⟨0, q1, [], Nat.zero_le _, rfl, HQ.out.symm, ⟨rfl, ⟨⟨by simp [rws], .inl ⟨rfl, rfl⟩⟩, fun p hp => by simp at hp⟩, S1.out⟩⟩
    case round =>
      obtain ⟨k, s', gs, hk, rfl, HD, HK⟩ := hrel
      by_cases hlt : k < N
      · have k1 : (k : Int) < (N : Int) := by omega
        have H3 := hidW (readcol_any b s' wr HK.out.2.2.here)
        have HS : Hid ((if (rdCol s').2.1 = 0 then rdCols (N - (k + 1)) (rdCol s').1 (gs.map Prod.snd ++ [(rdCol s').2.2]) else ((rdCol s').1, (rdCol s').2.1, none)) = R) := by
          show _ = _
          rw [← HD.out, show N - k = (N - (k + 1)) + 1 by omega]
          rfl
        clear HD
        generalize rdCol s' = y at *
        obtain ⟨y1, y2, y3⟩ := y
        dsimp only at *
        have HF := hidW (fun (w : World) (hw : Rd b y1 y2 w) => fail_any b y1 y2 w hw)
        by_cases hy : y2 = 0
        · subst hy
          rw [if_pos rfl] at HS
          go_wp2_with (first
            | (go_at_call 17; refine H3.out.mono ?_; rintro r w2 ⟨g, rfl, hg, hr, st2⟩; have K2 := hidW (And.intro (HK.out.2.1.step hbW st2) (And.intro (HK.out.2.2.trans st2) (And.intro hr (Nat.le_trans HK.out.2.2.size hg)))); have L2 := hidW HK.out.1; clear st2 HK hr hg)
            | (go_at_call 30; refine (HF.out _ K2.out.2.1.here).mono ?_; rintro r w3 ⟨rfl, hw3⟩; obtain rfl := hw3.symm; clear hw3)
            | (at_builtin; go_loud (refine wpList_append_own _ rfl _ _ 22 rfl W.heap.size 24 i0 (.slice none 0 0) 1 24 Try.underlying22 HI.out.1 HI.out.2.1 HI.out.2.2.1 HI.out.2.2.2 rfl (by decide) _ _ _ rfl (own_below K2.out.1.own ((Below.refl _ _).alloc (Nat.le_refl _) _)) ⟨w2.heap.size, 0, none⟩ 1 1 [.slice (some ⟨g, 0, none⟩) y3.length y3.length] (by first | rfl | (simp [go_sem]; done)) rfl (fun p u hu => by rcases p with _ | p <;> simp at hu <;> subst hu <;> simp [go_sem]) (by intro u hu; simp at hu; rcases hu with rfl; rfl) (by simp only [maxLen]; have := L2.out; omega) (by have := L2.out; omega) (by have := K2.out.2.1.size; simp; omega) ?_); intro v' w7 hown7 hgr7 _))
          have GA : Gr W (w2.alloc (.cells #[.slice (some ⟨g, 0, none⟩) y3.length y3.length] 24)) u7 gs := K2.out.1.step hbW ((Step.refl K2.out.2.1.here).alloc _)
          have hrA : (w2.alloc (.cells #[.slice (some ⟨g, 0, none⟩) y3.length y3.length] 24)).rowIs g 39 y3.length (wordF y3) := K2.out.2.2.1.alloc _
          refine ⟨⟨k + 1, y1, gs ++ [(g, y3)], hlt, by simp, by simpa using HS, ⟨by rw [List.length_append, L2.out]; rfl, GA.push K2.out.2.2.2 hrA hown7 hgr7, ?_⟩⟩, by simp [intOf]; omega⟩
          exact (K2.out.2.1.alloc _).grown hgr7 (fun g hg => (GA.own.lt g hg).1) hbW
        · rw [if_neg hy] at HS
          have hy' : (y2 == 0) = false := by rw [beq_eq_false_iff_ne]; exact hy
          go_wp2_with (first
            | (go_at_call 17; refine H3.out.mono ?_; rintro r w2 ⟨g, rfl, hg, hr, st2⟩; have K2 := hidW (HK.out.2.2.trans st2); clear st2 HK hr hg)
            | (go_at_call 30; refine (HF.out _ K2.out.here).mono ?_; rintro r w3 ⟨rfl, hw3⟩; obtain rfl := hw3.symm; clear hw3))
          go_ret
          exact ⟨_, rfl, by rw [← HS.out]; rfl, by rw [← HS.out]; exact K2.out⟩
      · obtain rfl : k = N := by omega
        have HD2 : Hid ((s', 0, some (gs.map Prod.snd)) = R) := by
          show _ = _
          rw [← HD.out, Nat.sub_self]
          rfl
        have KE : Hid (GrS wr u7 (some (gs.map Prod.snd)) ∧ Step b s' 0 W wr) := ⟨by
          obtain ⟨a', cap', e', hE⟩ := HK.out.2.1.cols
          exact ⟨a', cap', by rw [List.length_map]; exact e', hE⟩, HK.out.2.2⟩
        clear HD HK
        go_wp2
        go_ret
        exact ⟨_, rfl, by rw [← HD2.out]; exact KE.out.1, by rw [← HD2.out]; exact KE.out.2⟩
  · rw [if_neg h2] at HQ
    obtain rfl : N = 0 := by have := hz h2; omega
    clear hz hle
    go_enter Try.func16, Try.ntmps16
    go_wp2_with (go_at_call 29; refine H1.out.mono ?_; rintro r w1 ⟨rfl, st1⟩; have S1 := hidW st1; clear st1)
    go_loopw [7, 12] (fun x u wr => x = .slice none 0 0 ∧ u = .int .i64 0 ∧ Hid (Step b q1 q2 W wr)) (fun _ _ _ => 0)
    case atStart => exact ⟨rfl, rfl, S1⟩
    case round =>
      obtain ⟨rfl, rfl, S2⟩ := hrel
      go_wp2
      go_ret
      exact ⟨_, rfl, by rw [HQ.out]; exact ⟨none, 0, rfl, ⟨fun i hi => by simp at hi⟩⟩, by rw [HQ.out]; exact S2.out⟩
theorem cols_err : ∀ (n : Nat) (s : ByteArray) (acc : List (List Nat)), (rdCols n s acc).2.1 = 0 → ∃ cs, (rdCols n s acc).2.2 = some cs := fun n s acc h => by
  obtain ⟨new, e, _⟩ := cols_back n s acc h
  exact ⟨_, e⟩
theorem words_some {s : ByteArray} (h : okW s = true) : (rdWords s).2.2 = some (colsOf s) := by
  unfold okW at h
  obtain ⟨h4, _⟩ := end_zeroW (of_decide_eq_true h)
  unfold colsOf
  unfold rdWords at h4 ⊢
  by_cases h1 : (rdNum s 0 4096).2.1 = 0
  · rw [if_pos h1] at h4 ⊢
    obtain ⟨cs, e⟩ := cols_err _ _ _ h4
    rw [e]
    rfl
  · rw [if_neg h1] at h4
    exact absurd h4 h1
set_option maxHeartbeats 4000000 in
theorem readw_yes (s : ByteArray) (hs : s.size ≤ 1048576) (ho : okW s = true) (W : World) : Calls Try.prog 6 #[.string s] W fun r w' => ∃ a cap, r = .returned (.tuple #[.slice a (colsOf s).length cap, .int .i64 0]) ∧ UCols w' a (colsOf s) ∧ Below W.heap.size W w' := by
  have q1 : ¬ (1048576 : Int) < (s.size : Int) := by omega
  have HL := hidW (fun b w (h : Rd b s 0 w) => readlist_any b s w h)
  have HE := hidW (fun b w (h : Rd b (rdWords s).1 (rdWords s).2.1 w) => rd_End b _ _ w h)
  have h0 : endI (rdWords s).1 (rdWords s).2.1 = 0 := by unfold okW at ho; exact of_decide_eq_true ho
  rw [h0] at HE
  rw [words_some ho] at HL
  clear h0 ho hs
  generalize colsOf s = cs at *
  generalize (rdWords s).1 = s1 at *
  generalize (rdWords s).2.1 = x1 at *
  go_enter Try.func6, Try.ntmps6
  go_wp2_with (first
    | (go_at_call 15; refine (read_any s _).mono ?_; rintro r w1 ⟨rfl, hw1⟩; have K1 : Hid (Rd W.heap.size s 0 w1 ∧ Below W.heap.size W w1 ∧ w1.heap.size = W.heap.size + 1) := (by rw [hw1]; exact ⟨rd_new s W, (Below.refl _ _).alloc (Nat.le_refl _) _, by simp⟩); clear hw1)
    | (go_at_call 16; refine (HL.out _ _ K1.out.1).mono ?_; rintro r w2 ⟨v, rfl, ⟨a, cap, rfl, hu⟩, st⟩; have K2 := hidW (And.intro hu (And.intro st.here (st.belowW K1.out.2.1 (Nat.le_refl _)))); clear hu st)
    | (go_at_call 18; refine (HE.out _ _ K2.out.2.1).mono ?_; rintro r w3 ⟨rfl, hw3⟩; obtain rfl := hw3.symm; clear hw3))
  refine bodyPost_ret (v := .tuple #[.slice a cs.length cap, .int .i64 0]) (by simp [results, Try.results6, go_sem]) rfl ⟨a, cap, rfl, ?_⟩
  exact ⟨K2.out.1, K2.out.2.2⟩
set_option maxHeartbeats 4000000 in
theorem readw_no (s : ByteArray) (hs : s.size ≤ 1048576) (ho : okW s = false) (W : World) : Calls Try.prog 6 #[.string s] W fun r w' => r = .returned (.tuple #[.slice none 0 0, .int .i64 3]) ∧ Below W.heap.size W w' := by
  have q1 : ¬ (1048576 : Int) < (s.size : Int) := by omega
  have HL := hidW (fun b w (h : Rd b s 0 w) => readlist_any b s w h)
  have HE := hidW (fun b w (h : Rd b (rdWords s).1 (rdWords s).2.1 w) => rd_End b _ _ w h)
  have h0 : (endI (rdWords s).1 (rdWords s).2.1 == 0) = false := by unfold okW at ho; rw [beq_eq_false_iff_ne]; exact of_decide_eq_false ho
  clear ho hs
  generalize endI (rdWords s).1 (rdWords s).2.1 = x at *
  generalize (rdWords s).1 = s1 at *
  generalize (rdWords s).2.1 = x1 at *
  generalize (rdWords s).2.2 = o at *
  have h1 : ¬ x = 0 := by rw [beq_eq_false_iff_ne] at h0; exact h0
  go_enter Try.func6, Try.ntmps6
  go_wp2_with (first
    | (go_at_call 15; refine (read_any s _).mono ?_; rintro r w1 ⟨rfl, hw1⟩; have K1 : Hid (Rd W.heap.size s 0 w1 ∧ Below W.heap.size W w1 ∧ w1.heap.size = W.heap.size + 1) := (by rw [hw1]; exact ⟨rd_new s W, (Below.refl _ _).alloc (Nat.le_refl _) _, by simp⟩); clear hw1)
    | (go_at_call 16; refine (HL.out _ _ K1.out.1).mono ?_; rintro r w2 ⟨v, rfl, hu, st⟩; have K2 := hidW (And.intro st.here (st.belowW K1.out.2.1 (Nat.le_refl _))); clear hu st)
    | (go_at_call 18; refine (HE.out _ _ K2.out.1).mono ?_; rintro r w3 ⟨rfl, hw3⟩; obtain rfl := hw3.symm; clear hw3))
  refine bodyPost_ret (v := .tuple #[.slice none 0 0, .int .i64 3]) (by simp [results, Try.results6, go_sem]) rfl ⟨rfl, ?_⟩
  exact K2.out.2
end Wd
end Go.Proofs.Ytghapohempogkaa
