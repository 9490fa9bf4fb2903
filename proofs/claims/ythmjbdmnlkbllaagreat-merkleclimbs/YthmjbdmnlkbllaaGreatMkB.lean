/- The contracts of merkle's leaves and nodes over the seat's translation: texts that lie one behind the other. -/
import Derived.Test.YthmjbdmnlkbllaaGreatMkA
namespace Go.Proofs.YthmjbdmnlkbllaaGreat
open Go.RowKit

/-- Texts that lie one behind the other. -/
structure Txs (w : World) (a : Option Addr) (n : Nat) (f : Nat → ByteArray) : Prop where
  cells : ∀ i, i < n → ∃ b off : Nat, a = some ⟨b, off, none⟩ ∧ b < w.heap.size ∧ w.cell? ⟨b, off + i, none⟩ = some (.string (f i))
theorem Txs.below {w w' : World} {a : Option Addr} {n : Nat} {f : Nat → ByteArray} (h : Txs w a n f) (hb : Below w.heap.size w w') : Txs w' a n f := ⟨fun i hi => by
  obtain ⟨b, off, h1, h2, h3⟩ := h.cells i hi
  exact ⟨b, off, h1, Nat.lt_of_lt_of_le h2 hb.size, keepc hb h3⟩⟩
theorem Txs.of_row {w : World} {b n : Nat} {t : TypeId} {f : Nat → ByteArray} (h : w.rowIs b t n fun i => .string (f i)) : Txs w (some ⟨b, 0, none⟩) n f := ⟨fun i hi => ⟨b, 0, rfl, h.lt, by rw [Nat.zero_add]; exact h.cell hi⟩⟩
theorem info_str : ∃ i, Tryz.prog.info? 9 = some i ∧ i.zero = some (.string (ByteArray.mk #[])) ∧ i.size = 1 ∧ i.bytes = 16 := by
  have h : (Tryz.prog.info? 9).map (fun i => (i.zero, i.size, i.bytes)) = some (some (.string (ByteArray.mk #[])), 1, 16) := by kernel_rfl
  cases hi : Tryz.prog.info? 9 with
  | none => rw [hi] at h; cases h
  | some i =>
    rw [hi] at h
    simp at h
    exact ⟨i, rfl, h.1, h.2.1, h.2.2⟩
theorem make_str (w : World) (n : Nat) (hn : n ≤ 100000) : (Instr.makeSlice 22 (.int .i64 (n : Int)) (.int .i64 (n : Int))).run Tryz.prog w = .ok (.slice (some ⟨w.heap.size, 0, none⟩) n n) (w.alloc (.cells (madeCells #[.string (ByteArray.mk #[])] n) 9)) := by
  obtain ⟨i, hi, hz, hs, hb⟩ := info_str
  exact run_make_row 22 9 i (.string (ByteArray.mk #[])) Tryz.underlying22 hi hz hs rfl .i64 .i64 n (by rw [hb]; omega) (by omega) w
set_option maxHeartbeats 2000000 in
set_option maxRecDepth 100000 in
theorem leaves_ok (g : Nat) (a : Option Addr) (n cap : Nat) (f : Nat → ByteArray) (hn : n ≤ 4096) (hs : ∀ i, i < n → (f i).size ≤ 1048575) (W : World) (hT : Tab W g) (hX : Txs W a n f) :
    Calls Tryz.prog 30 #[.pointer (some ⟨g, 0, none⟩), .slice a n cap] W fun e w' => ∃ b, e = .returned (.slice (some ⟨b, 0, none⟩) n n) ∧ W.heap.size ≤ b ∧ w'.rowIs b 9 n (fun i => .string (lfv (f i))) ∧ Below W.heap.size W w' := by
  have HX : Hid (Txs W a n f) := hX
  have HS : Hid (∀ i, i < n → (f i).size ≤ 1048575) := hs
  have HT : Hid (Tab W g) := hT
  have hmk := fun w => make_str w n (by omega)
  clear hX hs hT
  go_enter Tryz.func30, Tryz.ntmps30
  go_wp2
  have R0 : Hid ((W.alloc (.cells (madeCells #[.string (ByteArray.mk #[])] n) 9)).rowIs W.heap.size 9 n (fun _ => .string (ByteArray.mk #[]))) := World.rowIs_made W _ n _
  have D0 : Hid (Below W.heap.size W (W.alloc (.cells (madeCells #[.string (ByteArray.mk #[])] n) 9))) := below_laid _ _
  generalize W.alloc (.cells (madeCells #[.string (ByteArray.mk #[])] n) 9) = w0 at *
  clear hmk
  go_loopw [13] (fun u wr => ∃ (j : Nat) (o : Nat → Value), j ≤ n ∧ u = .int .i64 j ∧ Hid (wr.rowIs W.heap.size 9 n o) ∧ Hid (∀ p, p < j → o p = .string (lfv (f p))) ∧ Hid (Below W.heap.size W wr)) (fun u _ => n - (intOf u).toNat)
  case atStart => exact ⟨0, _, Nat.zero_le _, rfl, R0, (fun p hp => by omega), D0⟩
  case round =>
    obtain ⟨j, o, hj, rfl, HR, HO, HD⟩ := hrel
    clear R0 D0
    by_cases hlt : j < n
    · have j1 : (j : Int) < (n : Int) := by omega
      obtain ⟨ab, off, rfl, hab, cab⟩ := HX.out.cells j hlt
      have c1 := keepc HD.out cab
      have HT1 : Hid (Tab wr g) := HT.out.below HD.out
      have H1 : Hid (∀ w, Tab w g → Calls Tryz.prog 17 #[.pointer (some ⟨g, 0, none⟩), .string (f j)] w fun e w' => e = .returned (.string (lfv (f j))) ∧ Below w.heap.size w w') := fun w t => leaf_ok g (f j) (HS.out j hlt) w t
      clear cab
      generalize hc : lfv (f j) = c at *
      have HC : Hid (lfv (f j) = c) := hc
      clear hc
      generalize f j = s at c1 H1
      go_wp2_with (go_at_call 17; refine (H1.out _ HT1.out).mono ?_; rintro e w3 ⟨rfl, hb3⟩; have R3 : Hid (w3.rowIs W.heap.size 9 n o) := HR.out.of_block (hb3.block _ HR.out.lt); have c0 := R3.out.cell hlt; have z0 := R3.out.frozen j)
      refine ⟨⟨j + 1, _, hlt, by simp, R3.out.set j _, fun p hp => ?_, (HD.out.trans (hb3.mono HD.out.size)).setCell (Nat.le_refl _) _⟩, by simp [intOf]; omega⟩
      by_cases e : p = j
      · rw [if_pos e, e, HC.out]
      · rw [if_neg e]; exact HO.out p (by omega)
    · have j1 : ¬ (j : Int) < (n : Int) := by omega
      obtain rfl : j = n := by omega
      go_wp2
      go_ret
      exact ⟨_, rfl, Nat.le_refl _, HR.out.congr HO.out, HD.out⟩
set_option maxHeartbeats 4000000 in
set_option maxRecDepth 100000 in
theorem nodes_ok (g b n m : Nat) (f : Nat → ByteArray) (hn : n = 2 * m) (hm : m ≤ 4096) (hs : ∀ i, i < n → (f i).size = 32) (W : World) (hT : Tab W g) (hX : W.rowIs b 9 n fun i => .string (f i)) :
    Calls Tryz.prog 31 #[.pointer (some ⟨g, 0, none⟩), .slice (some ⟨b, 0, none⟩) n n] W fun e w' => ∃ b', e = .returned (.slice (some ⟨b', 0, none⟩) m m) ∧ W.heap.size ≤ b' ∧ w'.rowIs b' 9 m (fun i => .string (ndv (f (2 * i)) (f (2 * i + 1)))) ∧ Below W.heap.size W w' := by
  have HX : Hid (W.rowIs b 9 n fun i => .string (f i)) := hX
  have HS : Hid (∀ i, i < n → (f i).size = 32) := hs
  have HT : Hid (Tab W g) := hT
  have HN : Hid (n = 2 * m) := hn
  have hmk := fun w => make_str w m (by omega)
  have q1 : (n : Int).tdiv 2 = (m : Int) := by rw [Int.tdiv_eq_ediv_of_nonneg (by omega)]; omega
  have q2 : (n : Int) / 2 = (m : Int) := by omega
  have hbl := hX.lt
  clear hX hs hT hn
  go_enter Tryz.func31, Tryz.ntmps31
  go_wp2
  have R0 : Hid ((W.alloc (.cells (madeCells #[.string (ByteArray.mk #[])] m) 9)).rowIs W.heap.size 9 m (fun _ => .string (ByteArray.mk #[]))) := World.rowIs_made W _ m _
  have D0 : Hid (Below W.heap.size W (W.alloc (.cells (madeCells #[.string (ByteArray.mk #[])] m) 9))) := below_laid _ _
  generalize W.alloc (.cells (madeCells #[.string (ByteArray.mk #[])] m) 9) = w0 at *
  clear hmk q1 q2
  have HNE : Hid (b ≠ W.heap.size) := (by omega : b ≠ W.heap.size)
  go_loopw [13] (fun u wr => ∃ (j : Nat) (o : Nat → Value), j ≤ m ∧ u = .int .i64 j ∧ Hid (wr.rowIs W.heap.size 9 m o) ∧ Hid (∀ p, p < j → o p = .string (ndv (f (2 * p)) (f (2 * p + 1)))) ∧ Hid (Below W.heap.size W wr)) (fun u _ => m - (intOf u).toNat)
  case atStart => exact ⟨0, _, Nat.zero_le _, rfl, R0, (fun p hp => by omega), D0⟩
  case round =>
    obtain ⟨j, o, hj, rfl, HR, HO, HD⟩ := hrel
    clear R0 D0
    by_cases hlt : j < m
    · have j1 : (j : Int) < (m : Int) := by omega
      have hn2 := HN.out
      have k1 : 2 * (j : Int) < (n : Int) := by omega
      have k2 : 2 * (j : Int) + 1 < (n : Int) := by omega
      have k3 : (0 : Int) ≤ 2 * (j : Int) := by omega
      have k4 : (0 : Int) ≤ 2 * (j : Int) + 1 := by omega
      have w1 : IntKind.i64.wrap (2 * (j : Int)) = 2 * (j : Int) := by rw [IntKind.wrap_i64]; omega
      have w2 : IntKind.i64.wrap (2 * (j : Int) + 1) = 2 * (j : Int) + 1 := by rw [IntKind.wrap_i64]; omega
      have t1 : (2 * (j : Int)).toNat = 2 * j := by omega
      have t2 : (2 * (j : Int) + 1).toNat = 2 * j + 1 := by omega
      have hXr : wr.rowIs b 9 n fun i => .string (f i) := HX.out.of_block (HD.out.block b hbl)
      have F : wr.cell? ⟨b, 2 * j, none⟩ = some (.string (f (2 * j))) ∧ wr.cell? ⟨b, 2 * j + 1, none⟩ = some (.string (f (2 * j + 1))) := ⟨hXr.cell (by omega), hXr.cell (by omega)⟩
      have K : Hid (wr.rowIs W.heap.size 9 m o ∧ Below W.heap.size W wr ∧ Tab wr g) := ⟨HR.out, HD.out, HT.out.below HD.out⟩
      have H1 : Hid (∀ w, Tab w g → Calls Tryz.prog 18 #[.pointer (some ⟨g, 0, none⟩), .string (f (2 * j)), .string (f (2 * j + 1))] w fun e w' => e = .returned (.string (ndv (f (2 * j)) (f (2 * j + 1)))) ∧ Below w.heap.size w w') := fun w t => node_ok g _ _ (by rw [HS.out (2 * j) (by omega)]; decide) (by rw [HS.out (2 * j + 1) (by omega)]; decide) w t
      have c0 := HR.out.cell hlt
      have z0 := HR.out.frozen j
      have n1 : ¬ b = W.heap.size := HNE.out
      have n2 : ¬ W.heap.size = b := fun e => HNE.out e.symm
      clear hXr hn2 HR HD
      generalize hc : ndv (f (2 * j)) (f (2 * j + 1)) = c at *
      have HC : Hid (ndv (f (2 * j)) (f (2 * j + 1)) = c) := hc
      clear hc
      generalize f (2 * j) = s at F H1
      generalize f (2 * j + 1) = t at F H1
      go_wp2
      go_region_held3 (fun w => w.cell? ⟨b, 2 * j, none⟩ = some (.string s) ∧ w.cell? ⟨b, 2 * j + 1, none⟩ = some (.string t)) (first | (go_keep; done) | (obtain ⟨f1, f2⟩ := F; refine ⟨?_, ?_⟩ <;> simp [go_sem, *])) (first | (go_at_call_of 18 (#[.pointer (some ⟨g, 0, none⟩), .string s, .string t] : Array Value); refine (H1.out _ (by first | exact K.out.2.2 | exact K.out.2.2)).mono ?_; rintro e w' ⟨rfl, hb'⟩; have K' : Hid (w'.rowIs W.heap.size 9 m o ∧ Below W.heap.size W w' ∧ Tab w' g) := ⟨K.out.1.of_block (hb'.block _ K.out.1.lt), K.out.2.1.drew.trans (hb'.mono K.out.2.1.size), Tab.below (w := wr.drew) K.out.2.2 hb'⟩; have F' : w'.cell? ⟨b, 2 * j, none⟩ = some (.string s) ∧ w'.cell? ⟨b, 2 * j + 1, none⟩ = some (.string t) := ⟨keepc hb' F.1, keepc hb' F.2⟩; clear F K hb' c0 z0; have K := K'; have F := F'; clear K' F'; have c0 := K.out.1.cell hlt; have z0 := K.out.1.frozen j))
      go_wp2
      refine ⟨⟨j + 1, _, hlt, by simp, K.out.1.set j _, fun p hp => ?_, K.out.2.1.setCell (Nat.le_refl _) _⟩, by simp [intOf]; omega⟩
      by_cases e : p = j
      · rw [if_pos e, e, HC.out]
      · rw [if_neg e]; exact HO.out p (by omega)
    · have j1 : ¬ (j : Int) < (m : Int) := by omega
      obtain rfl : j = m := by omega
      go_wp2
      go_ret
      exact ⟨_, rfl, Nat.le_refl _, HR.out.congr HO.out, HD.out⟩
end Go.Proofs.YthmjbdmnlkbllaaGreat
