/- The contracts of merkle's Rows and Root over the seat's translation: all rows of digests. -/
import Derived.Test.YthmjbdmnlkbllaaGreatMkB
import Derived.Laws.AppendOwn
import Derived.OwnWalk
namespace Go.Proofs.YthmjbdmnlkbllaaGreat
open Go.RowKit

/-- The digest at place i of the row k. -/
def lv (f : Nat → ByteArray) : Nat → Nat → ByteArray
  | 0, i => lfv (f i)
  | k + 1, i => ndv (lv f k (2 * i)) (lv f k (2 * i + 1))
theorem lv_size (f : Nat → ByteArray) : ∀ k i, (lv f k i).size = 32
  | 0, _ => lfv_size _
  | _ + 1, _ => ndv_size _ _
/-- How many digests the row k has. -/
def szr (h k : Nat) : Nat := 2 ^ (h - k)
theorem szr_top (h : Nat) : szr h h = 1 := by unfold szr; rw [Nat.sub_self]
theorem szr_step {h k : Nat} (hk : k < h) : szr h k = 2 * szr h (k + 1) := by
  unfold szr
  rw [show h - k = (h - (k + 1)) + 1 by omega, Nat.pow_succ, Nat.mul_comm]
theorem szr_le {h : Nat} (hh : h ≤ 12) (k : Nat) : szr h k ≤ 4096 := Nat.pow_le_pow_right (by decide) (show h - k ≤ 12 by omega)
theorem szr_pos (h k : Nat) : 0 < szr h k := Nat.two_pow_pos _
/-- The rows, as cells. -/
def rwc (bl : Nat → Nat) (h m : Nat) : List Value := (List.range m).map fun j => .slice (some ⟨bl j, 0, none⟩) (szr h j) (szr h j)
theorem rwc_succ (bl : Nat → Nat) (h m : Nat) : rwc bl h (m + 1) = rwc bl h m ++ [.slice (some ⟨bl m, 0, none⟩) (szr h m) (szr h m)] := by unfold rwc; rw [List.range_succ, List.map_append]; rfl
theorem rwc_congr {bl bl' : Nat → Nat} (h m : Nat) (e : ∀ j, j < m → bl j = bl' j) : rwc bl h m = rwc bl' h m := by
  unfold rwc
  refine List.map_congr_left fun j hj => ?_
  rw [e j (by simpa using hj)]
theorem info_strs : ∃ i, Tryz.prog.info? 22 = some i ∧ i.zero = some (.slice none 0 0) ∧ i.size = 1 ∧ i.bytes = 24 := by
  have h : (Tryz.prog.info? 22).map (fun i => (i.zero, i.size, i.bytes)) = some (some (.slice none 0 0), 1, 24) := by kernel_rfl
  cases hi : Tryz.prog.info? 22 with
  | none => rw [hi] at h; cases h
  | some i =>
    rw [hi] at h
    simp at h
    exact ⟨i, rfl, h.1, h.2.1, h.2.2⟩
/-- A row of slices is no row of texts. -/
theorem own_apart {w : World} {base : Nat} {v : Value} {n b m : Nat} {xs : List Value} {f : Nat → Value} (h : w.ownsRow base 22 1 v n xs) (hr : w.rowIs b 9 m f) : v.ownBlock ≠ some b := by
  rcases h.2 with ⟨rfl, _⟩ | ⟨g, cap, cur, rfl, _, hg, _⟩
  · simp [Value.ownBlock]
  · intro e
    obtain rfl : g = b := by simpa [Value.ownBlock] using e
    obtain ⟨c, hc, _⟩ := hr
    rw [hg] at hc
    injection hc with h1
    injection h1 with _ h2
    exact absurd h2 (by decide)
/-- The rows up to the row k, while they are made. -/
structure Grow (W w : World) (h k : Nat) (bl : Nat → Nat) (v : Value) (f : Nat → ByteArray) : Prop where
  own : w.ownsRow W.heap.size 22 1 v (k + 1) (rwc bl h (k + 1))
  row : ∀ j, j ≤ k → w.rowIs (bl j) 9 (szr h j) (fun i => .string (lv f j i))
  d : Below W.heap.size W w
theorem grow_new (W w : World) (h b : Nat) (f : Nat → ByteArray) (hr : w.rowIs b 9 (szr h 0) (fun i => .string (lfv (f i)))) (hd : Below W.heap.size W w) :
    Grow W (w.alloc (.cells #[.slice (some ⟨b, 0, none⟩) (szr h 0) (szr h 0)] 22)) h 0 (fun _ => b) (.slice (some ⟨w.heap.size, 0, none⟩) 1 1) f := by
  refine ⟨⟨rfl, .inr ⟨w.heap.size, 1, _, rfl, hd.size, heap_alloc_new w _, Nat.le_refl _, by decide, rfl, rfl⟩⟩, fun j hj => ?_, hd.alloc hd.size _⟩
  obtain rfl : j = 0 := by omega
  exact hr.alloc _
theorem Grow.below {W w w' : World} {h k : Nat} {bl : Nat → Nat} {v : Value} {f : Nat → ByteArray} (G : Grow W w h k bl v f) (hb : Below w.heap.size w w') : Grow W w' h k bl v f :=
  ⟨own_below G.own hb, fun j hj => (G.row j hj).of_block (hb.block _ (G.row j hj).lt), G.d.trans (hb.mono G.d.size)⟩
theorem Grow.step {W w w' : World} {h k b' : Nat} {bl : Nat → Nat} {v v' : Value} {f : Nat → ByteArray} (G : Grow W w h k bl v f)
    (hr : w.rowIs b' 9 (szr h (k + 1)) (fun i => .string (lv f (k + 1) i))) (hown : w'.ownsRow W.heap.size 22 1 v' (k + 1 + 1) (rwc bl h (k + 1) ++ [.slice (some ⟨b', 0, none⟩) (szr h (k + 1)) (szr h (k + 1))])) (hg : w.grownBy w' v.ownBlock) :
    Grow W w' h (k + 1) (fun j => if j = k + 1 then b' else bl j) v' f := by
  refine ⟨?_, fun j hj => ?_, ?_⟩
  · rw [rwc_succ, if_pos rfl, rwc_congr (bl' := bl) h (k + 1) (fun j hj => by rw [if_neg (by omega)])]
    exact hown
  · by_cases e : j = k + 1
    · subst e
      rw [if_pos rfl]
      exact hr.of_block (hg.block _ hr.lt (fun q => own_apart G.own hr q.symm))
    · rw [if_neg e]
      have h1 := G.row j (by omega)
      exact h1.of_block (hg.block _ h1.lt (fun q => own_apart G.own h1 q.symm))
  · exact G.d.grown hg G.d.size fun q hq => (G.own.lt q hq).1
/-- All rows of digests, in memory. -/
structure Tree (w : World) (G h : Nat) (bl : Nat → Nat) (f : Nat → ByteArray) : Prop where
  lt : G < w.heap.size
  top : ∀ j, j ≤ h → w.cell? ⟨G, j, none⟩ = some (.slice (some ⟨bl j, 0, none⟩) (szr h j) (szr h j))
  row : ∀ j, j ≤ h → w.rowIs (bl j) 9 (szr h j) (fun i => .string (lv f j i))
theorem Tree.below {w w' : World} {G h : Nat} {bl : Nat → Nat} {f : Nat → ByteArray} (t : Tree w G h bl f) (hb : Below w.heap.size w w') : Tree w' G h bl f :=
  ⟨Nat.lt_of_lt_of_le t.lt hb.size, fun j hj => keepc hb (t.top j hj), fun j hj => (t.row j hj).of_block (hb.block _ (t.row j hj).lt)⟩
theorem Grow.tree {W w : World} {h : Nat} {bl : Nat → Nat} {v : Value} {f : Nat → ByteArray} (g : Grow W w h h bl v f) : ∃ G cap, v = .slice (some ⟨G, 0, none⟩) (h + 1) cap ∧ h + 1 ≤ cap ∧ Tree w G h bl f := by
  rcases g.own.2 with ⟨_, h0⟩ | ⟨G, cap, cur, rfl, _, hg, hle, _, hs, ht⟩
  · omega
  · refine ⟨G, cap, rfl, hle, (Array.getElem?_eq_some_iff.1 hg).1, fun j hj => ?_, g.row⟩
    have h1 : (cur.toList.take ((h + 1) * 1))[j]? = (rwc bl h (h + 1))[j]? := by rw [ht]
    rw [List.getElem?_take_of_lt (by omega)] at h1
    have h2 : (rwc bl h (h + 1))[j]? = some (.slice (some ⟨bl j, 0, none⟩) (szr h j) (szr h j)) := by
      unfold rwc
      rw [List.getElem?_map, List.getElem?_range (by omega)]; rfl
    rw [h2] at h1
    simp [World.cell?, hg, ← h1]
def lenOf : Value → Nat
  | .slice _ l _ => l
  | _ => 0
set_option maxHeartbeats 4000000 in
set_option maxRecDepth 100000 in
theorem rows_ok (g : Nat) (a : Option Addr) (n cap h : Nat) (f : Nat → ByteArray) (hh : h ≤ 12) (hn : n = 2 ^ h) (hs : ∀ i, i < n → (f i).size ≤ 1048575) (W : World) (hT : Tab W g) (hX : Txs W a n f) :
    Calls Tryz.prog 14 #[.pointer (some ⟨g, 0, none⟩), .slice a n cap] W fun e w' => ∃ G cap' bl, e = .returned (.tuple #[.slice (some ⟨G, 0, none⟩) (h + 1) cap', .int .i64 0]) ∧ h + 1 ≤ cap' ∧ Tree w' G h bl f ∧ Below W.heap.size W w' := by
  have hn4 : n ≤ 4096 := by rw [hn]; exact Nat.pow_le_pow_right (by decide) hh
  have HF : Hid (Same 29 #[.int .i64 (n : Int)] (.bool true)) := by
    have h1 : filB n = true := by rw [hn]; exact fil_pow h hh
    have := fills_any n
    rw [h1] at this
    exact this
  have HL : Hid (Calls Tryz.prog 30 #[.pointer (some ⟨g, 0, none⟩), .slice a n cap] W fun e w' => ∃ b, e = .returned (.slice (some ⟨b, 0, none⟩) n n) ∧ W.heap.size ≤ b ∧ w'.rowIs b 9 n (fun i => .string (lfv (f i))) ∧ Below W.heap.size W w') := leaves_ok g a n cap f hn4 hs W hT hX
  have HT : Hid (Tab W g) := hT
  have HZ : Hid (n = szr h 0) := hn
  obtain ⟨i0, hi, hz0, hz1, hz2⟩ := info_strs
  have HI : Hid (Tryz.prog.info? 22 = some i0 ∧ i0.zero = some (.slice none 0 0) ∧ i0.size = 1 ∧ i0.bytes = 24) := ⟨hi, hz0, hz1, hz2⟩
  clear hi hz0 hz1 hz2 hn hs hT hX
  go_enter Tryz.func14, Tryz.ntmps14
  go_wp2_with (first | (go_at_call 29; refine (HF.out _).mono ?_; rintro e w1 ⟨rfl, hw⟩; obtain rfl := hw.symm; clear hw) | (go_at_call 30; refine HL.out.mono ?_; rintro e w2 ⟨b, rfl, hb, hr, hb2⟩))
  have G0 : Hid (Grow W (w2.alloc (.cells #[.slice (some ⟨b, 0, none⟩) n n] 22)) h 0 (fun _ => b) (.slice (some ⟨w2.heap.size, 0, none⟩) 1 1) f) := by
    have hr' := hr
    rw [HZ.out] at hr'
    have := grow_new W w2 h b f hr' hb2
    rw [← HZ.out] at this
    exact this
  clear hr hb2 HL HF
  generalize w2.alloc (.cells #[.slice (some ⟨b, 0, none⟩) n n] 22) = w3 at *
  generalize (.slice (some ⟨w2.heap.size, 0, none⟩) 1 1 : Value) = v0 at *
  go_loopw [6, 7] (fun r v wr => ∃ (k : Nat) (bl : Nat → Nat) (m : Nat), k ≤ h ∧ r = .slice (some ⟨bl k, 0, none⟩) m m ∧ Hid (m = szr h k) ∧ Hid (Grow W wr h k bl v f)) (fun r _ _ => lenOf r)
  case atStart => exact ⟨0, fun _ => b, n, Nat.zero_le _, rfl, HZ, G0⟩
  case round =>
    obtain ⟨k, bl, m, hk, rfl, HM, HG⟩ := hrel
    clear G0
    by_cases hlt : k < h
    · have hp := szr_pos h (k + 1)
      have h4 := szr_le hh (k + 1)
      have hst := szr_step hlt
      have hm2 : m = 2 * szr h (k + 1) := by rw [HM.out]; exact hst
      have HQ : Hid (∀ w, Tab w g → w.rowIs (bl k) 9 m (fun i => .string (lv f k i)) → Calls Tryz.prog 31 #[.pointer (some ⟨g, 0, none⟩), .slice (some ⟨bl k, 0, none⟩) m m] w fun e w' => ∃ b', e = .returned (.slice (some ⟨b', 0, none⟩) (szr h (k + 1)) (szr h (k + 1))) ∧ w.heap.size ≤ b' ∧ w'.rowIs b' 9 (szr h (k + 1)) (fun i => .string (ndv (lv f k (2 * i)) (lv f k (2 * i + 1)))) ∧ Below w.heap.size w w') := fun w t r => nodes_ok g (bl k) m _ (lv f k) hm2 h4 (fun i _ => lv_size f k i) w t r
      have HM2 : Hid (szr h (k + 1) = szr h (k + 1)) := rfl
      generalize hz : szr h (k + 1) = z at *
      have HZ2 : Hid (szr h (k + 1) = z) := hz
      have i1 : (1 : Int) < (m : Int) := by omega
      have HR : Hid (wr.rowIs (bl k) 9 m (fun i => .string (lv f k i))) := by have := HG.out.row k (Nat.le_refl _); rw [← HM.out] at this; exact this
      have HT1 : Hid (Tab wr g) := HT.out.below HG.out.d
      have HLT : Hid (z < m) := (by omega : z < m)
      clear hm2 hst hz HM2
      go_wp2_with (first | (go_at_call 31; refine (HQ.out _ HT1.out HR.out).mono ?_; rintro e w4 ⟨b', rfl, hb', hr4, hb4⟩; have G4 : Hid (Grow W w4 h k bl u7 f) := HG.out.below hb4) | (at_builtin; refine wpList_append_own _ rfl _ _ 45 rfl W.heap.size 22 i0 (.slice none 0 0) 1 24 Tryz.underlying45 HI.out.1 HI.out.2.1 HI.out.2.2.1 HI.out.2.2.2 rfl (by decide) u7 (k + 1) (rwc bl h (k + 1)) rfl (own_below G4.out.own (below_laid _ _)) ⟨w4.heap.size, 0, none⟩ 1 1 [.slice (some ⟨b', 0, none⟩) z z] rfl rfl ?c1 ?c2 (by simp only [maxLen]; omega) (by omega) ?c3 ?c4))
      case c1 => exact fun p u hu => by rcases p with _ | p <;> simp at hu; subst hu; simp [go_sem]
      case c2 => intro u hu; simp at hu; subst hu; rfl
      case c3 => have := G4.out.d.size; simp; omega
      case c4 =>
        intro v' w' hown' hgr _
        go_wp2
        refine ⟨⟨k + 1, fun j => if j = k + 1 then b' else bl j, z, hlt, by simp, HZ2.out.symm, ?_⟩, ?_⟩
        · have GA := G4.out.below (below_laid w4 (.cells #[.slice (some ⟨b', 0, none⟩) z z] 22))
          refine GA.step (b' := b') ?_ ?_ hgr
          · rw [HZ2.out]; exact hr4.alloc _
          · rw [HZ2.out]; exact hown'
        · exact HLT.out
    · obtain rfl : k = h := by omega
      have hm1 : m = 1 := by rw [HM.out]; exact szr_top k
      subst hm1
      obtain ⟨G, cap', rfl, hcp, hTr⟩ := HG.out.tree
      have HTr : Hid (Tree wr G k bl f) := hTr
      clear hTr
      go_wp2
      go_ret2
      exact ⟨_, _, _, rfl, hcp, HTr.out, HG.out.d⟩
end Go.Proofs.YthmjbdmnlkbllaaGreat
