/- The contracts of sponge's added, Press, Close, filledBlocks, Blocks, highFirst, filling, Fill and first, of strings.Repeat (the library's own, laid at the seat's translation), and of the document's Add, Press and Close. -/
import Derived.Test.YtopmkooegpaeaaaGreatPnC
import Derived.Shelf.Strings.Repeat
import Derived.Test.YtopmkooegpaeaaaGreatProg
namespace Go.Proofs.YtopmkooegpaeaaaGreat
open Go.RowKit

/-- 64 bytes that lie in a block and may be written. -/
structure Bts (w : World) (b : Nat) (f : Nat → Nat) : Prop where
  lt : b < w.heap.size
  cell : ∀ i, i < 64 → w.cell? ⟨b, i, none⟩ = some (.int .u8 (f i : Nat))
  frozen : ∀ i, i < 64 → w.frozen? ⟨b, i, none⟩ = false
theorem Bts.set {w : World} {b : Nat} {f : Nat → Nat} (h : Bts w b f) (i v : Nat) (hi : i < 64) : Bts (w.setCell ⟨b, i, none⟩ (.int .u8 (v : Nat))) b (upd f i v) := by
  refine ⟨by simpa [go_sem] using h.lt, fun j hj => ?_, fun j hj => ?_⟩
  · unfold upd
    by_cases e : j = i
    · subst e
      rw [if_pos rfl]
      exact World.cell?_setCell_same _ _ _ (h.cell j hj)
    · rw [if_neg e, World.cell?_setCell_other _ _ _ _ (fun q => e (by injection q with _ q2; exact q2.symm))]
      exact h.cell j hj
  · simp [go_sem, h.frozen j hj]
theorem Bts.drew {w : World} {b : Nat} {f : Nat → Nat} (h : Bts w b f) : Bts w.drew b f := ⟨h.lt, h.cell, h.frozen⟩
/-- Texts added byte by byte. -/
def xa (ss : Nat → ByteArray) : Nat → Nat → Nat
  | 0 => bs (ss 0)
  | k + 1 => fun i => xa ss k i ^^^ bs (ss (k + 1)) i
theorem xa_lt (ss : Nat → ByteArray) : ∀ k i, xa ss k i < 256
  | 0, i => bs_lt _ i
  | k + 1, i => Nat.xor_lt_two_pow (n := 8) (xa_lt ss k i) (bs_lt _ i)
/-- What lies in memory while texts are added. -/
structure Ad (W w : World) (a n b : Nat) (ss : Nat → ByteArray) (f : Nat → Nat) : Prop where
  s : ∀ k, k < n → w.cell? ⟨a, k, none⟩ = some (.string (ss k))
  q : Bts w b f
  ne : a ≠ b
  l : W.heap.size ≤ b
  d : Below W.heap.size W w
theorem Ad.drew {W w : World} {a n b : Nat} {ss : Nat → ByteArray} {f : Nat → Nat} (h : Ad W w a n b ss f) : Ad W w.drew a n b ss f := ⟨h.s, h.q.drew, h.ne, h.l, h.d.drew⟩
theorem Ad.set {W w : World} {a n b : Nat} {ss : Nat → ByteArray} {f : Nat → Nat} (h : Ad W w a n b ss f) (i v : Nat) (hi : i < 64) : Ad W (w.setCell ⟨b, i, none⟩ (.int .u8 (v : Nat))) a n b ss (upd f i v) :=
  ⟨fun k hk => by rw [World.cell?_setCell_far w ⟨b, i, none⟩ ⟨a, k, none⟩ _ (fun e => h.ne e.symm)]; exact h.s k hk, h.q.set i v hi, h.ne, h.l, h.d.setCell h.l _⟩
theorem bts_new (w : World) (s : ByteArray) (cap : Nat) (hs : s.size = 64) : Bts (w.alloc (.cells (bytesRow s cap) 5 ((bytesRow s cap).size, (bytesRow s cap).size + 1))).drew w.heap.size (bs s) := by
  have hd : s.data.size = 64 := hs
  refine ⟨by show w.heap.size < (w.alloc _).heap.size; simp, fun i hi => ?_, fun i hi => ?_⟩
  · show (w.alloc _).cell? ⟨w.heap.size, i, none⟩ = _
    rw [World.cell?_alloc_mark, bytesRow_at s cap i (by omega)]
    unfold bs
    rw [Array.getElem?_eq_getElem (show i < s.data.size by omega)]
    rfl
  · show (w.alloc _).frozen? ⟨w.heap.size, i, none⟩ = false
    have hsz : 64 ≤ (bytesRow s cap).size := by unfold bytesRow; simp; omega
    unfold World.frozen?
    show (match (w.heap.push _)[w.heap.size]? with | some (.cells _ _ (lo, hi)) => decide (lo ≤ i) && decide (i < hi) | _ => false) = false
    rw [Array.getElem?_push_size]
    simp
    omega
set_option maxHeartbeats 6400000 in
set_option maxRecDepth 100000 in
theorem added_2 (a : Nat) (ss : Nat → ByteArray) (hz : ∀ k, k < 2 → (ss k).size = 64) (W : World) (ha : a < W.heap.size) (hs : ∀ k, k < 2 → W.cell? ⟨a, k, none⟩ = some (.string (ss k))) :
    Calls Tryz.prog 119 #[.slice (some ⟨a, 0, none⟩) 2 2] W fun e w' => e = .returned (.string (txt (xa ss 1))) ∧ Below W.heap.size W w' := by
  have c0 := hs 0 (by decide)
  have hcv : ∀ w, (convert 9 51 (.string (ss 0))).run Tryz.prog w = .ok (.slice (some ⟨w.heap.size, 0, none⟩) (ss 0).size (grownCap w (ss 0).size 0 5)) (w.drew.alloc (.cells (bytesRow (ss 0) (grownCap w (ss 0).size 0 5)) 5 ((bytesRow (ss 0) (grownCap w (ss 0).size 0 5)).size, (bytesRow (ss 0) (grownCap w (ss 0).size 0 5)).size + 1))) := fun w => run_bytes_of_string w _ _ _ _ Tryz.underlying9 Tryz.underlying51 Tryz.underlying5
  go_enter Tryz.func119, Tryz.ntmps119
  go_wp2
  have A0 : Hid (Ad W (W.alloc (Obj.cells (bytesRow (ss 0) (grownCap W 64 0 5)) 5 ((bytesRow (ss 0) (grownCap W 64 0 5)).size, (bytesRow (ss 0) (grownCap W 64 0 5)).size + 1))).drew a 2 W.heap.size ss (xa ss 0)) := ⟨fun k hk => by rw [show (W.alloc (Obj.cells (bytesRow (ss 0) (grownCap W 64 0 5)) 5 ((bytesRow (ss 0) (grownCap W 64 0 5)).size, (bytesRow (ss 0) (grownCap W 64 0 5)).size + 1))).drew.cell? ⟨a, k, none⟩ = W.cell? ⟨a, k, none⟩ from World.cell?_alloc_past _ a k ha]; exact hs k hk, bts_new W (ss 0) _ (hz 0 (by decide)), by omega, Nat.le_refl _, ((Below.refl _ _).alloc (Nat.le_refl _) _).drew⟩
  have HZ : Hid (∀ k, k < 2 → (ss k).size = 64) := hz
  generalize (W.alloc (Obj.cells (bytesRow (ss 0) (grownCap W 64 0 5)) 5 ((bytesRow (ss 0) (grownCap W 64 0 5)).size, (bytesRow (ss 0) (grownCap W 64 0 5)).size + 1))).drew = w0 at *
  generalize grownCap W 64 0 5 = cp at *
  generalize hb : W.heap.size = b at *
  clear hcv hs c0 hz hb ha
  generalize ss 0 = s0 at *
  go_loopw [14] (fun u wr => ∃ j : Nat, j ≤ 1 ∧ u = .int .i64 j ∧ Hid (Ad W wr a 2 b ss (xa ss j))) (fun u _ => 1 - (intOf u).toNat)
  case atStart => exact ⟨0, by omega, rfl, A0⟩
  case round =>
    obtain ⟨j, hj, rfl, A1⟩ := hrel
    clear A0
    by_cases hjl : j < 1
    · have j1 : (j : Int) < 1 := by omega
      have j2 : (0 : Int) ≤ (j : Int) := by omega
      have c1 : wr.cell? ⟨a, 1 + j, none⟩ = some (.string (ss (j + 1))) := by rw [Nat.add_comm]; exact A1.out.s (j + 1) (by omega)
      have hsz := HZ.out (j + 1) (by omega)
      have HX : Hid (xa ss (j + 1) = fun i => xa ss j i ^^^ bs (ss (j + 1)) i) := (rfl : xa ss (j + 1) = fun i => xa ss j i ^^^ bs (ss (j + 1)) i)
      have HXl : Hid (∀ i, xa ss j i < 256) := xa_lt ss j
      generalize ss (j + 1) = t at *
      generalize hF : xa ss j = F at *
      clear hF
      go_wp2
      go_loopw [20] (fun u w1 => ∃ (i : Nat) (o : Nat → Nat), i ≤ 64 ∧ u = .int .i64 i ∧ Hid (Ad W w1 a 2 b ss o) ∧ Hid (∀ p, p < 64 → o p = if p < i then F p ^^^ bs t p else F p)) (fun u _ => 64 - (intOf u).toNat)
      case atStart => exact ⟨0, _, by omega, rfl, A1, (fun p hp => by rw [if_neg (by omega)])⟩
      case round =>
        rename World => w1
        obtain ⟨i, o, hi, rfl, A2, HO⟩ := hrel
        clear A1
        by_cases hil : i < 64
        · have i1 : (i : Int) < 64 := by omega
          have i2 : (0 : Int) ≤ (i : Int) := by omega
          have d1 := A2.out.q.cell i hil
          have z1 := A2.out.q.frozen i hil
          have hix := ix_str t i (by omega)
          have HE : Hid (o i = F i) := by have := HO.out i hil; rw [if_neg (by omega)] at this; exact this
          have hx : bits .xor .u8 ((o i : Nat) : Int) ((bs t i : Nat) : Int) = ((F i ^^^ bs t i : Nat) : Int) := by rw [HE.out]; exact u8_xor_nat _ _ (HXl.out i) (bs_lt t i)
          generalize hy : F i ^^^ bs t i = y at *
          have HY : Hid (F i ^^^ bs t i = y) := hy
          clear hy
          generalize o i = x at *
          generalize hzz : bs t i = z at *
          have HZZ : Hid (bs t i = z) := hzz
          clear hzz
          go_wp2
          go_region
          go_wp2
          refine ⟨⟨i + 1, _, hil, by simp, (A2.out.set i y hil).drew, (fun p hp => ?_)⟩, by simp [intOf]; omega⟩
          unfold upd
          by_cases e : p = i
          · rw [if_pos e, if_pos (by omega), e, ← HY.out, HZZ.out]
          · rw [if_neg e, HO.out p hp]
            by_cases h2 : p < i
            · rw [if_pos h2, if_pos (by omega)]
            · rw [if_neg h2, if_neg (by omega)]
        · have hin : ¬ ((i : Int) < 64) := by omega
          have A3 : Hid (Ad W w1 a 2 b ss (xa ss (j + 1))) := by
            have h := A2.out
            refine ⟨h.s, ⟨h.q.lt, fun p hp => ?_, h.q.frozen⟩, h.ne, h.l, h.d⟩
            rw [h.q.cell p hp, HO.out p hp, if_pos (by omega), HX.out]
          clear A2 HO
          go_wp2
          exact ⟨⟨j + 1, hjl, by simp, A3⟩, by simp [intOf]; omega⟩
    · have hjn : ¬ ((j : Int) < 1) := by omega
      have HE : Hid (xa ss j = xa ss 1) := by rw [show j = 1 by omega]; exact (rfl : xa ss 1 = xa ss 1)
      have hcv := conv_u8 (cap := cp) A1.out.q.cell (xa_lt ss j)
      generalize xa ss j = F at *
      generalize htx : txt F = tx at *
      go_wp2
      go_ret
      exact ⟨by rw [← HE.out, htx]; rfl, A1.out.d⟩
set_option maxHeartbeats 6400000 in
set_option maxRecDepth 100000 in
theorem added_3 (a : Nat) (ss : Nat → ByteArray) (hz : ∀ k, k < 3 → (ss k).size = 64) (W : World) (ha : a < W.heap.size) (hs : ∀ k, k < 3 → W.cell? ⟨a, k, none⟩ = some (.string (ss k))) :
    Calls Tryz.prog 119 #[.slice (some ⟨a, 0, none⟩) 3 3] W fun e w' => e = .returned (.string (txt (xa ss 2))) ∧ Below W.heap.size W w' := by
  have c0 := hs 0 (by decide)
  have hcv : ∀ w, (convert 9 51 (.string (ss 0))).run Tryz.prog w = .ok (.slice (some ⟨w.heap.size, 0, none⟩) (ss 0).size (grownCap w (ss 0).size 0 5)) (w.drew.alloc (.cells (bytesRow (ss 0) (grownCap w (ss 0).size 0 5)) 5 ((bytesRow (ss 0) (grownCap w (ss 0).size 0 5)).size, (bytesRow (ss 0) (grownCap w (ss 0).size 0 5)).size + 1))) := fun w => run_bytes_of_string w _ _ _ _ Tryz.underlying9 Tryz.underlying51 Tryz.underlying5
  go_enter Tryz.func119, Tryz.ntmps119
  go_wp2
  have A0 : Hid (Ad W (W.alloc (Obj.cells (bytesRow (ss 0) (grownCap W 64 0 5)) 5 ((bytesRow (ss 0) (grownCap W 64 0 5)).size, (bytesRow (ss 0) (grownCap W 64 0 5)).size + 1))).drew a 3 W.heap.size ss (xa ss 0)) := ⟨fun k hk => by rw [show (W.alloc (Obj.cells (bytesRow (ss 0) (grownCap W 64 0 5)) 5 ((bytesRow (ss 0) (grownCap W 64 0 5)).size, (bytesRow (ss 0) (grownCap W 64 0 5)).size + 1))).drew.cell? ⟨a, k, none⟩ = W.cell? ⟨a, k, none⟩ from World.cell?_alloc_past _ a k ha]; exact hs k hk, bts_new W (ss 0) _ (hz 0 (by decide)), by omega, Nat.le_refl _, ((Below.refl _ _).alloc (Nat.le_refl _) _).drew⟩
  have HZ : Hid (∀ k, k < 3 → (ss k).size = 64) := hz
  generalize (W.alloc (Obj.cells (bytesRow (ss 0) (grownCap W 64 0 5)) 5 ((bytesRow (ss 0) (grownCap W 64 0 5)).size, (bytesRow (ss 0) (grownCap W 64 0 5)).size + 1))).drew = w0 at *
  generalize grownCap W 64 0 5 = cp at *
  generalize hb : W.heap.size = b at *
  clear hcv hs c0 hz hb ha
  generalize ss 0 = s0 at *
  go_loopw [14] (fun u wr => ∃ j : Nat, j ≤ 2 ∧ u = .int .i64 j ∧ Hid (Ad W wr a 3 b ss (xa ss j))) (fun u _ => 2 - (intOf u).toNat)
  case atStart => exact ⟨0, by omega, rfl, A0⟩
  case round =>
    obtain ⟨j, hj, rfl, A1⟩ := hrel
    clear A0
    by_cases hjl : j < 2
    · have j1 : (j : Int) < 2 := by omega
      have j2 : (0 : Int) ≤ (j : Int) := by omega
      have c1 : wr.cell? ⟨a, 1 + j, none⟩ = some (.string (ss (j + 1))) := by rw [Nat.add_comm]; exact A1.out.s (j + 1) (by omega)
      have hsz := HZ.out (j + 1) (by omega)
      have HX : Hid (xa ss (j + 1) = fun i => xa ss j i ^^^ bs (ss (j + 1)) i) := (rfl : xa ss (j + 1) = fun i => xa ss j i ^^^ bs (ss (j + 1)) i)
      have HXl : Hid (∀ i, xa ss j i < 256) := xa_lt ss j
      generalize ss (j + 1) = t at *
      generalize hF : xa ss j = F at *
      clear hF
      go_wp2
      go_loopw [20] (fun u w1 => ∃ (i : Nat) (o : Nat → Nat), i ≤ 64 ∧ u = .int .i64 i ∧ Hid (Ad W w1 a 3 b ss o) ∧ Hid (∀ p, p < 64 → o p = if p < i then F p ^^^ bs t p else F p)) (fun u _ => 64 - (intOf u).toNat)
      case atStart => exact ⟨0, _, by omega, rfl, A1, (fun p hp => by rw [if_neg (by omega)])⟩
      case round =>
        rename World => w1
        obtain ⟨i, o, hi, rfl, A2, HO⟩ := hrel
        clear A1
        by_cases hil : i < 64
        · have i1 : (i : Int) < 64 := by omega
          have i2 : (0 : Int) ≤ (i : Int) := by omega
          have d1 := A2.out.q.cell i hil
          have z1 := A2.out.q.frozen i hil
          have hix := ix_str t i (by omega)
          have HE : Hid (o i = F i) := by have := HO.out i hil; rw [if_neg (by omega)] at this; exact this
          have hx : bits .xor .u8 ((o i : Nat) : Int) ((bs t i : Nat) : Int) = ((F i ^^^ bs t i : Nat) : Int) := by rw [HE.out]; exact u8_xor_nat _ _ (HXl.out i) (bs_lt t i)
          generalize hy : F i ^^^ bs t i = y at *
          have HY : Hid (F i ^^^ bs t i = y) := hy
          clear hy
          generalize o i = x at *
          generalize hzz : bs t i = z at *
          have HZZ : Hid (bs t i = z) := hzz
          clear hzz
          go_wp2
          go_region
          go_wp2
          refine ⟨⟨i + 1, _, hil, by simp, (A2.out.set i y hil).drew, (fun p hp => ?_)⟩, by simp [intOf]; omega⟩
          unfold upd
          by_cases e : p = i
          · rw [if_pos e, if_pos (by omega), e, ← HY.out, HZZ.out]
          · rw [if_neg e, HO.out p hp]
            by_cases h2 : p < i
            · rw [if_pos h2, if_pos (by omega)]
            · rw [if_neg h2, if_neg (by omega)]
        · have hin : ¬ ((i : Int) < 64) := by omega
          have A3 : Hid (Ad W w1 a 3 b ss (xa ss (j + 1))) := by
            have h := A2.out
            refine ⟨h.s, ⟨h.q.lt, fun p hp => ?_, h.q.frozen⟩, h.ne, h.l, h.d⟩
            rw [h.q.cell p hp, HO.out p hp, if_pos (by omega), HX.out]
          clear A2 HO
          go_wp2
          exact ⟨⟨j + 1, hjl, by simp, A3⟩, by simp [intOf]; omega⟩
    · have hjn : ¬ ((j : Int) < 2) := by omega
      have HE : Hid (xa ss j = xa ss 2) := by rw [show j = 2 by omega]; exact (rfl : xa ss 2 = xa ss 2)
      have hcv := conv_u8 (cap := cp) A1.out.q.cell (xa_lt ss j)
      generalize xa ss j = F at *
      generalize htx : txt F = tx at *
      go_wp2
      go_ret
      exact ⟨by rw [← HE.out, htx]; rfl, A1.out.d⟩


def ss2 (a b : ByteArray) : Nat → ByteArray
  | 0 => a | _ => b
def ss3 (a b c : ByteArray) : Nat → ByteArray
  | 0 => a | 1 => b | _ => c
/-- Two texts, added; three. -/
def add2 (a b : ByteArray) : ByteArray := txt (xa (ss2 a b) 1)
def add3 (a b c : ByteArray) : ByteArray := txt (xa (ss3 a b c) 2)
theorem add2_size (a b : ByteArray) : (add2 a b).size = 64 := txt_size _
theorem add3_size (a b c : ByteArray) : (add3 a b c).size = 64 := txt_size _
theorem add2_any (g : Nat) (a b : ByteArray) (ha : a.size = 64) (hb : b.size = 64) (w : World) (h0 : w.cell? ⟨g, 0, none⟩ = some (.string a)) (h1 : w.cell? ⟨g, 1, none⟩ = some (.string b)) : Calls Tryz.prog 119 #[.slice (some ⟨g, 0, none⟩) 2 2] w fun e w' => e = .returned (.string (add2 a b)) ∧ Below w.heap.size w w' :=
  added_2 g (ss2 a b) (fun k hk => by rcases k with _ | k; · exact ha
                                      · exact hb) w (cell_lt h0) (fun k hk => by
    have : k = 0 ∨ k = 1 := by omega
    rcases this with rfl | rfl
    · exact h0
    · exact h1)
theorem add3_any (g : Nat) (a b c : ByteArray) (ha : a.size = 64) (hb : b.size = 64) (hc : c.size = 64) (w : World) (h0 : w.cell? ⟨g, 0, none⟩ = some (.string a)) (h1 : w.cell? ⟨g, 1, none⟩ = some (.string b)) (h2 : w.cell? ⟨g, 2, none⟩ = some (.string c)) : Calls Tryz.prog 119 #[.slice (some ⟨g, 0, none⟩) 3 3] w fun e w' => e = .returned (.string (add3 a b c)) ∧ Below w.heap.size w w' :=
  added_3 g (ss3 a b c) (fun k hk => by
    have : k = 0 ∨ k = 1 ∨ k = 2 := by omega
    rcases this with rfl | rfl | rfl
    · exact ha
    · exact hb
    · exact hc) w (cell_lt h0) (fun k hk => by
    have : k = 0 ∨ k = 1 ∨ k = 2 := by omega
    rcases this with rfl | rfl | rfl
    · exact h0
    · exact h1
    · exact h2)
/-- Both ways of a text. -/
def wP (s : ByteArray) : ByteArray := txt (fwd adP tnP (bs s) 6)
def wQ (s : ByteArray) : ByteArray := txt (fwd adQ tnQ (bs s) 6)
theorem wP_size (s : ByteArray) : (wP s).size = 64 := txt_size _
theorem wQ_size (s : ByteArray) : (wQ s).size = 64 := txt_size _
/-- What is pressed. -/
def prs (h m : ByteArray) : ByteArray := add3 (wP (add2 h m)) (wQ m) h
theorem prs_size (h m : ByteArray) : (prs h m).size = 64 := add3_size _ _ _
/-- What is closed. -/
def cls (h : ByteArray) : ByteArray := (add2 (wP h) h).extract 32 64
theorem press_nil (h m : ByteArray) : Ret 111 #[.pointer none, .string h, .string m] (.tuple #[.string (ByteArray.mk #[]), .int .i64 1]) := by
  intro W
  go_enter Tryz.func111, Tryz.ntmps111
  go_wp2
  go_ret2
  exact ⟨rfl, Below.refl _ _⟩
theorem press_h (g : Nat) (h m : ByteArray) (hh : h.size ≠ 64) : Ret 111 #[.pointer (some ⟨g, 0, none⟩), .string h, .string m] (.tuple #[.string (ByteArray.mk #[]), .int .i64 6]) := by
  intro W
  have h1 : ((h.size : Int) == 64) = false := by simp; omega
  have h2 : ¬ ((h.size : Int) = 64) := by omega
  go_enter Tryz.func111, Tryz.ntmps111
  go_wp2
  go_ret2
  exact ⟨rfl, Below.refl _ _⟩
theorem press_m (g : Nat) (h m : ByteArray) (hh : h.size = 64) (hm : m.size ≠ 64) : Ret 111 #[.pointer (some ⟨g, 0, none⟩), .string h, .string m] (.tuple #[.string (ByteArray.mk #[]), .int .i64 6]) := by
  intro W
  have h0 : (h.size : Int) = 64 := by omega
  have h1 : ((m.size : Int) == 64) = false := by simp; omega
  have h2 : ¬ ((m.size : Int) = 64) := by omega
  go_enter Tryz.func111, Tryz.ntmps111
  go_wp2
  go_ret2
  exact ⟨rfl, Below.refl _ _⟩
set_option maxHeartbeats 3200000 in
theorem press_ok (g : Nat) (h m : ByteArray) (hh : h.size = 64) (hm : m.size = 64) (W : World) (hT : Tab W g) : Calls Tryz.prog 111 #[.pointer (some ⟨g, 0, none⟩), .string h, .string m] W fun e w' => e = .returned (.tuple #[.string (prs h m), .int .i64 0]) ∧ Below W.heap.size W w' := by
  have HT : Hid (Hold W W g) := ⟨hT, Below.refl _ _⟩
  have HP : Hid (∀ w, Tab w g → Calls Tryz.prog 118 #[.pointer (some ⟨g, 0, none⟩), .string (add2 h m)] w fun e w' => e = .returned (.tuple #[.string (wP (add2 h m)), .int .i64 0]) ∧ Below w.heap.size w w') := fun w h' => P_ok g _ (add2_size h m) w h'
  have HQ : Hid (∀ w, Tab w g → Calls Tryz.prog 133 #[.pointer (some ⟨g, 0, none⟩), .string m] w fun e w' => e = .returned (.tuple #[.string (wQ m), .int .i64 0]) ∧ Below w.heap.size w w') := fun w h' => Q_ok g _ hm w h'
  have HA : Hid (∀ a w, w.cell? ⟨a, 0, none⟩ = some (.string h) → w.cell? ⟨a, 1, none⟩ = some (.string m) → Calls Tryz.prog 119 #[.slice (some ⟨a, 0, none⟩) 2 2] w fun e w' => e = .returned (.string (add2 h m)) ∧ Below w.heap.size w w') := fun a w c0 c1 => add2_any a h m hh hm w c0 c1
  have HB : Hid (∀ a w, w.cell? ⟨a, 0, none⟩ = some (.string (wP (add2 h m))) → w.cell? ⟨a, 1, none⟩ = some (.string (wQ m)) → w.cell? ⟨a, 2, none⟩ = some (.string h) → Calls Tryz.prog 119 #[.slice (some ⟨a, 0, none⟩) 3 3] w fun e w' => e = .returned (.string (prs h m)) ∧ Below w.heap.size w w') := fun a w c0 c1 c2 => add3_any a _ _ _ (wP_size _) (wQ_size _) hh w c0 c1 c2
  clear hT
  generalize prs h m = r at *
  generalize wP (add2 h m) = p at *
  generalize add2 h m = x at *
  generalize wQ m = q at *
  have h0 : (h.size : Int) = 64 := by omega
  have m0 : (m.size : Int) = 64 := by omega
  go_enter Tryz.func111, Tryz.ntmps111
  go_wp2_with (first | (go_at_call_of 119 (2 : Nat); refine (HA.out _ _ (by simp [go_sem]) (by simp [go_sem])).mono ?_; rintro e w1 ⟨rfl, hb1⟩; have HT1 : Hid (Hold W w1 g) := (HT.out.below ((Below.refl _ _).alloc (Nat.le_refl _) _)).below hb1; clear HT hb1) | (go_at_call 118; refine (HP.out _ HT1.out.t).mono ?_; rintro e w2 ⟨rfl, hb2⟩; have HT2 : Hid (Hold W w2 g) := HT1.out.below hb2; clear HT1 hb2) | (go_at_call 133; refine (HQ.out _ HT2.out.t).mono ?_; rintro e w3 ⟨rfl, hb3⟩; have HT3 : Hid (Hold W w3 g) := HT2.out.below hb3; clear HT2 hb3) | (go_at_call_of 119 (3 : Nat); refine (HB.out _ _ (by simp [go_sem]) (by simp [go_sem]) (by simp [go_sem])).mono ?_; rintro e w4 ⟨rfl, hb4⟩; have HT4 : Hid (Hold W w4 g) := (HT3.out.below ((Below.refl _ _).alloc (Nat.le_refl _) _)).below hb4; clear HT3 hb4))

  go_ret2
  exact ⟨rfl, HT4.out.d⟩


theorem close_err (p : Option Addr) (h : ByteArray) (n : Nat) (hb : Bad p h n) : Ret 92 #[.pointer p, .string h] (.tuple #[.string (ByteArray.mk #[]), .int .i64 (n : Int)]) := by
  intro W
  have HP : Hid (Ret 118 #[.pointer p, .string h] (.tuple #[.string (ByteArray.mk #[]), .int .i64 (n : Int)])) := P_err p h n hb
  have hn := hb.pos
  have hn1 : ¬ ((n : Int) = 0) := by omega
  have hn2 : ((n : Int) == 0) = false := by simp; omega
  clear hb
  go_enter Tryz.func92, Tryz.ntmps92
  go_wp2_with (go_at_call 118; refine (HP.out.go _).mono ?_; rintro e w1 ⟨rfl, hb1⟩)
  go_ret2
  exact ⟨rfl, hb1⟩
set_option maxHeartbeats 3200000 in
theorem close_ok (g : Nat) (h : ByteArray) (hh : h.size = 64) (W : World) (hT : Tab W g) : Calls Tryz.prog 92 #[.pointer (some ⟨g, 0, none⟩), .string h] W fun e w' => e = .returned (.tuple #[.string (cls h), .int .i64 0]) ∧ Below W.heap.size W w' := by
  have HP : Hid (∀ w, Tab w g → Calls Tryz.prog 118 #[.pointer (some ⟨g, 0, none⟩), .string h] w fun e w' => e = .returned (.tuple #[.string (wP h), .int .i64 0]) ∧ Below w.heap.size w w') := fun w h' => P_ok g _ hh w h'
  have HT : Hid (Tab W g) := hT
  have HA : Hid (∀ a w, w.cell? ⟨a, 0, none⟩ = some (.string (wP h)) → w.cell? ⟨a, 1, none⟩ = some (.string h) → Calls Tryz.prog 119 #[.slice (some ⟨a, 0, none⟩) 2 2] w fun e w' => e = .returned (.string (add2 (wP h) h)) ∧ Below w.heap.size w w') := fun a w c0 c1 => add2_any a _ h (wP_size _) hh w c0 c1
  have hz := add2_size (wP h) h
  have HC : Hid (cls h = (add2 (wP h) h).extract 32 64) := (rfl : cls h = (add2 (wP h) h).extract 32 64)
  clear hT
  generalize cls h = r at *
  generalize add2 (wP h) h = x at *
  generalize wP h = p at *
  go_enter Tryz.func92, Tryz.ntmps92
  go_wp2_with (first | (go_at_call 118; refine (HP.out _ HT.out).mono ?_; rintro e w1 ⟨rfl, hb1⟩) | (go_at_call 119; refine (HA.out _ _ (by simp [go_sem]) (by simp [go_sem])).mono ?_; rintro e w2 ⟨rfl, hb2⟩; have D2 : Hid (Below W.heap.size W w2) := (hb1.alloc hb1.size _).trans (hb2.mono (by have := hb1.size; simp; omega)); clear hb2))
  go_ret2
  exact ⟨by rw [HC.out]; rfl, D2.out⟩


set_option maxHeartbeats 3200000 in
set_option maxRecDepth 100000 in
theorem radd11 (a b : ByteArray) (ha : a.size = 64) (hb : b.size = 64) : Ret 73 #[.string a, .string b] (.string (add2 a b)) := by
  intro W
  obtain ⟨j0, hj0, jz0, jz1, jz2⟩ := info_u8
  have HJ : Hid (Tryz.prog.info? 5 = some j0 ∧ j0.zero = some (.int .u8 0) ∧ j0.size = 1 ∧ j0.bytes = 1) := ⟨hj0, jz0, jz1, jz2⟩
  clear hj0 jz0 jz1 jz2
  go_enter Tryz.func73, Tryz.ntmps73
  go_wp2
  go_loopw [5, 6] (fun v u wr => ∃ n : Nat, n ≤ 64 ∧ u = .int .i64 n ∧ Hid (wr.ownsRow W.heap.size 5 1 v n (u8s (xa (ss2 a b) 1) n)) ∧ Hid (Below W.heap.size W wr)) (fun _ u _ => 64 - (intOf u).toNat)
  case atStart => exact ⟨0, by omega, rfl, World.ownsRow_nil _ _ _ _, Below.refl _ _⟩
  case round =>
    obtain ⟨n, hn, rfl, HO, HB⟩ := hrel
    have hal : (a.size : Int) = 64 := by omega
    by_cases hnl : n < 64
    · have n1 : (n : Int) < 64 := by omega
      have hia := ix_str a n (by omega)
      have hib := ix_str b n (by omega)
      have hx : bits .xor .u8 ((bs a n : Nat) : Int) ((bs b n : Nat) : Int) = ((xa (ss2 a b) 1 n : Nat) : Int) := u8_xor_nat _ _ (bs_lt a n) (bs_lt b n)
      have HE : Hid (u8s (xa (ss2 a b) 1) (n + 1) = u8s (xa (ss2 a b) 1) n ++ [.int .u8 ((xa (ss2 a b) 1 n : Nat) : Int)]) := u8s_succ _ n
      generalize xa (ss2 a b) 1 n = y at *
      generalize bs a n = p at *
      generalize bs b n = q at *
      have n2 : (0 : Int) ≤ (n : Int) := by omega
      go_wp2
      refine wp_region_noPanic ?_
      refine wp_region_peel (S := fun _ => True) 10 (by kernel_rfl) rfl (by kernel_rfl) True.intro (fun hHeld => ?_)
      refine wpAnyH_take (i := 0) (oi := _) (v := ?_) rfl (by kernel_rfl) (by kernel_rfl) (by kernel_rfl) (fun _ _ _ h => h) (Or.inl ⟨by rfl, ?_⟩) (by assumption) ?_
      rotate_left
      · ((intro w hSw; (try dsimp only at hSw); go_simp) <;> (try with_reducible rfl))
      try simp only [Act.put]
      refine wpAnyH_take (i := 1) (oi := _) (v := ?_) rfl (by kernel_rfl) (by kernel_rfl) (by kernel_rfl) (fun _ _ _ h => h) (Or.inl ⟨by rfl, ?_⟩) (by assumption) ?_
      rotate_left
      · ((intro w hSw; (try dsimp only at hSw); go_simp) <;> (try with_reducible rfl))
      try simp only [Act.put]
      refine wpAnyH_take (i := 2) (oi := _) (v := ?_) rfl (by kernel_rfl) (by kernel_rfl) (by kernel_rfl) (fun _ _ _ h => h) (Or.inl ⟨by rfl, ?_⟩) (by assumption) ?_
      rotate_left
      · ((intro w hSw; (try dsimp only at hSw); go_simp) <;> (try with_reducible rfl))
      try simp only [Act.put]
      refine wpAnyH_take (i := 3) (oi := _) (v := ?_) rfl (by kernel_rfl) (by kernel_rfl) (by kernel_rfl) (fun _ _ _ h => h) (Or.inl ⟨by rfl, ?_⟩) (by assumption) ?_
      rotate_left
      · ((intro w hSw; (try dsimp only at hSw); go_simp) <;> (try with_reducible rfl))
      try simp only [Act.put]
      refine wpAnyH_take (i := 4) (oi := _) (v := ?_) rfl (by kernel_rfl) (by kernel_rfl) (by kernel_rfl) (fun _ _ _ h => h) (Or.inl ⟨by rfl, ?_⟩) (by assumption) ?_
      rotate_left
      · ((intro w hSw; (try dsimp only at hSw); go_simp) <;> (try with_reducible rfl))
      try simp only [Act.put]
      refine wpAnyH_take (i := 5) (oi := _) (v := ?_) rfl (by kernel_rfl) (by kernel_rfl) (by kernel_rfl) (fun _ _ _ h => h) (Or.inl ⟨by rfl, ?_⟩) (by assumption) ?_
      rotate_left
      · ((intro w hSw; (try dsimp only at hSw); go_simp) <;> (try with_reducible rfl))
      try simp only [Act.put]
      refine wpAnyH_take (i := 6) (oi := _) (v := ?_) rfl (by kernel_rfl) (by kernel_rfl) (by kernel_rfl) (fun _ _ _ h => h) (Or.inl ⟨by rfl, ?_⟩) (by assumption) ?_
      rotate_left
      · ((intro w hSw; (try dsimp only at hSw); go_simp) <;> (try with_reducible rfl))
      try simp only [Act.put]
      refine wpAnyH_take (i := 7) (oi := _) (v := ?_) rfl (by kernel_rfl) (by kernel_rfl) (by kernel_rfl) (fun _ _ _ h => h) (Or.inl ⟨by rfl, ?_⟩) (by assumption) ?_
      rotate_left
      · ((intro w hSw; (try dsimp only at hSw); go_simp) <;> (try with_reducible rfl))
      try simp only [Act.put]
      refine wpAnyH_ready (rs := [8]) (by kernel_rfl) (by simp) ?_
      refine AllReadyH.cons (o := _) rfl (fun KK hKK => ?_) AllReadyH.nil
      go_simp
      refine hKK.out _ _ True.intro (fun hHeld => ?_)
      clear hKK KK
      try simp only [Act.put]
      refine wpAnyH_ready (rs := [9]) (by kernel_rfl) (by simp) ?_
      refine AllReadyH.cons (o := _) rfl (fun KK hKK => ?_) AllReadyH.nil
      simp only [Array.getElem_pop, List.getElem_toArray, List.getElem_cons_succ, List.getElem_cons_zero]
      rw [if_pos (by rfl)]
      refine wp_append_own _ _ _ 51 rfl W.heap.size 5 j0 (.int .u8 0) 1 1 Tryz.underlying51 HJ.out.1 HJ.out.2.1 HJ.out.2.2.1 HJ.out.2.2.2 rfl (by decide) u5 n (u8s (xa (ss2 a b) 1) n) rfl (own_below (w := wr.drew) HO.out ((Below.refl _ _).alloc (Nat.le_refl _) _)) ⟨wr.heap.size, 0, none⟩ 1 1 [.int .u8 (y : Int)] rfl rfl ?_ ?_ (by simp only [maxLen]; omega) (by omega) ?_ ?_
      · exact fun p u hu => by rcases p with _ | p <;> simp at hu; subst hu; simp [go_sem]
      · intro u hu; simp at hu; subst hu; rfl
      · have := HB.out.size; simp; omega
      intro v' w' hown' hgr _
      refine hKK.out _ _ True.intro (fun hHeld => ?_)
      clear hKK KK
      try simp only [Act.put]
      refine wpAnyH_done (by kernel_rfl) ?_ _
      refine peel_last rfl (fun KK hKK => ?_)
      go_simp
      refine hKK _ _ ?_
      refine NoPanic.normal ?_
      clear hKK KK
      go_wp2
      refine ⟨⟨n + 1, hnl, by simp, ?_, ?_⟩, by simp [intOf]; omega⟩
      · rw [HE.out]; exact hown'
      · exact (HB.out.drew.alloc HB.out.size _).grown hgr (by have := HB.out.size; simp; omega) fun q hq => (HO.out.lt q hq).1
    · have hnn : ¬ ((n : Int) < 64) := by omega
      have HG : Hid (∃ g c, u5 = .slice (some ⟨g, 0, none⟩) 64 c ∧ ∀ i, i < 64 → wr.cell? ⟨g, i, none⟩ = some (.int .u8 (xa (ss2 a b) 1 i : Nat))) := by
        have e : n = 64 := by omega
        rw [e] at HO
        exact u8_own HO.out
      obtain ⟨gb, cb, rfl, hC⟩ := HG.out
      have hcv := conv_u8 (cap := cb) hC (xa_lt (ss2 a b) 1)
      have HT : Hid (add2 a b = txt (xa (ss2 a b) 1)) := (rfl : add2 a b = txt (xa (ss2 a b) 1))
      clear HG hC HO
      generalize htx : txt (xa (ss2 a b) 1) = tx at *
      go_wp2
      go_ret
      exact ⟨by rw [HT.out]; rfl, HB.out⟩


theorem prs_eq (h m : ByteArray) : add2 (add2 (wP (add2 h m)) (wQ m)) h = prs h m := by
  unfold prs
  refine txt_congr fun i hi => ?_
  show bs (add2 (wP (add2 h m)) (wQ m)) i ^^^ bs h i = (bs (wP (add2 h m)) i ^^^ bs (wQ m) i) ^^^ bs h i
  have : bs (add2 (wP (add2 h m)) (wQ m)) i = bs (wP (add2 h m)) i ^^^ bs (wQ m) i := bs_txt (xa_lt (ss2 _ _) 1) i hi
  rw [this]
/-- The document's tables, and where they are handed on. -/
structure Pk (W w : World) (gB cB gT cT : Nat) (gs cs : Nat → Nat) (b : Nat) : Prop where
  t : RTab w gB gT gs cs
  c0 : w.cell? ⟨b, 0, none⟩ = some (.slice (some ⟨gB, 0, none⟩) 256 cB)
  c1 : w.cell? ⟨b, 1, none⟩ = some (.slice (some ⟨gT, 0, none⟩) 8 cT)
  d : Below W.heap.size W w
theorem Pk.below {W w w' : World} {gB cB gT cT : Nat} {gs cs : Nat → Nat} {b : Nat} (h : Pk W w gB cB gT cT gs cs b) (q : Below w.heap.size w w') : Pk W w' gB cB gT cT gs cs b := ⟨h.t.below q, keepc q h.c0, keepc q h.c1, h.d.trans (q.mono h.d.size)⟩
theorem Pk.drew {W w : World} {gB cB gT cT : Nat} {gs cs : Nat → Nat} {b : Nat} (h : Pk W w gB cB gT cT gs cs b) : Pk W w.drew gB cB gT cT gs cs b := ⟨h.t.drew, h.c0, h.c1, h.d.drew⟩
theorem Pk.facts {W w : World} {gB cB gT cT : Nat} {gs cs : Nat → Nat} {b : Nat} (h : Pk W w gB cB gT cT gs cs b) : w.cell? ⟨b, 0, none⟩ = some (.slice (some ⟨gB, 0, none⟩) 256 cB) ∧ w.cell? ⟨b, 1, none⟩ = some (.slice (some ⟨gT, 0, none⟩) 8 cT) := ⟨h.c0, h.c1⟩
set_option maxHeartbeats 6400000 in
theorem rpress_any (gB cB gT cT : Nat) (gs cs : Nat → Nat) (h m : ByteArray) (hh : h.size = 64) (hm : m.size = 64) (W : World) (hR : RTab W gB gT gs cs) :
    Calls Tryz.prog 51 #[.agg #[.slice (some ⟨gB, 0, none⟩) 256 cB, .slice (some ⟨gT, 0, none⟩) 8 cT], .string h, .string m] W fun e w' => e = .returned (.string (prs h m)) ∧ Below W.heap.size W w' := by
  have W1 : Hid (∀ w, RTab w gB gT gs cs → Calls Tryz.prog 74 #[.agg #[.slice (some ⟨gB, 0, none⟩) 256 cB, .slice (some ⟨gT, 0, none⟩) 8 cT], .string (add2 h m), .bool false] w fun e w' => e = .returned (.string (wP (add2 h m))) ∧ Below w.heap.size w w') := fun w r => rwayP gB cB gT cT gs cs _ (add2_size h m) w r
  have W2 : Hid (∀ w, RTab w gB gT gs cs → Calls Tryz.prog 74 #[.agg #[.slice (some ⟨gB, 0, none⟩) 256 cB, .slice (some ⟨gT, 0, none⟩) 8 cT], .string m, .bool true] w fun e w' => e = .returned (.string (wQ m)) ∧ Below w.heap.size w w') := fun w r => rwayQ gB cB gT cT gs cs _ hm w r
  have A1 : Hid (Ret 73 #[.string h, .string m] (.string (add2 h m))) := radd11 h m hh hm
  have A2 : Hid (Ret 73 #[.string (wP (add2 h m)), .string (wQ m)] (.string (add2 (wP (add2 h m)) (wQ m)))) := radd11 _ _ (wP_size _) (wQ_size _)
  have A3 : Hid (Ret 73 #[.string (add2 (wP (add2 h m)) (wQ m)), .string h] (.string (prs h m))) := by rw [← prs_eq]; exact radd11 _ _ (add2_size _ _) hh
  have RT : Hid (RTab W gB gT gs cs ∧ Below W.heap.size W W) := ⟨hR, Below.refl _ _⟩
  clear hR
  generalize prs h m = r at *
  generalize add2 (wP (add2 h m)) (wQ m) = y at *
  generalize wP (add2 h m) = p at *
  generalize add2 h m = x at *
  generalize wQ m = q at *
  go_enter Tryz.func51, Tryz.ntmps51
  go_wp2_with fail
  have K : Pk W (W.alloc (Obj.cells #[.slice (some ⟨gB, 0, none⟩) 256 cB, .slice (some ⟨gT, 0, none⟩) 8 cT] 31)) gB cB gT cT gs cs W.heap.size := ⟨RT.out.1.below ((Below.refl _ _).alloc (Nat.le_refl _) _), by simp [go_sem], by simp [go_sem], (Below.refl _ _).alloc (Nat.le_refl _) _⟩
  have F := K.facts
  clear RT
  generalize W.alloc (Obj.cells #[.slice (some ⟨gB, 0, none⟩) 256 cB, .slice (some ⟨gT, 0, none⟩) 8 cT] 31) = w0 at *
  generalize hb : W.heap.size = b at *
  go_region_held3 (fun w => w.cell? ⟨b, 0, none⟩ = some (.slice (some ⟨gB, 0, none⟩) 256 cB) ∧ w.cell? ⟨b, 1, none⟩ = some (.slice (some ⟨gT, 0, none⟩) 8 cT)) (go_keep) (first | (go_at_call_of 73 (#[.string h, .string m] : Array Value); refine (A1.out.go _).mono ?_; rintro e w' ⟨rfl, hb'⟩; have K' := Pk.below (w' := w') (by first | exact K | exact K.drew) hb'; clear F K hb'; have K := K'; clear K'; have F := K.facts) | (go_at_call_of 73 (#[.string p, .string q] : Array Value); refine (A2.out.go _).mono ?_; rintro e w' ⟨rfl, hb'⟩; have K' := Pk.below (w' := w') (by first | exact K | exact K.drew) hb'; clear F K hb'; have K := K'; clear K'; have F := K.facts) | (go_at_call_of 73 (#[.string y, .string h] : Array Value); refine (A3.out.go _).mono ?_; rintro e w' ⟨rfl, hb'⟩; have K' := Pk.below (w' := w') (by first | exact K | exact K.drew) hb'; clear F K hb'; have K := K'; clear K'; have F := K.facts) | (go_at_call_of 74 (#[.agg #[.slice (some ⟨gB, 0, none⟩) 256 cB, .slice (some ⟨gT, 0, none⟩) 8 cT], .string x, .bool false] : Array Value); refine (W1.out _ (by first | exact K.t | exact K.drew.t)).mono ?_; rintro e w' ⟨rfl, hb'⟩; have K' := Pk.below (w' := w') (by first | exact K | exact K.drew) hb'; clear F K hb'; have K := K'; clear K'; have F := K.facts) | (go_at_call_of 74 (#[.agg #[.slice (some ⟨gB, 0, none⟩) 256 cB, .slice (some ⟨gT, 0, none⟩) 8 cT], .string m, .bool true] : Array Value); refine (W2.out _ (by first | exact K.t | exact K.drew.t)).mono ?_; rintro e w' ⟨rfl, hb'⟩; have K' := Pk.below (w' := w') (by first | exact K | exact K.drew) hb'; clear F K hb'; have K := K'; clear K'; have F := K.facts))
  go_wp2
  go_ret
  exact ⟨rfl, K.d⟩
set_option maxHeartbeats 6400000 in
theorem rclose_any (gB cB gT cT : Nat) (gs cs : Nat → Nat) (h : ByteArray) (hh : h.size = 64) (W : World) (hR : RTab W gB gT gs cs) :
    Calls Tryz.prog 52 #[.agg #[.slice (some ⟨gB, 0, none⟩) 256 cB, .slice (some ⟨gT, 0, none⟩) 8 cT], .string h] W fun e w' => e = .returned (.string (cls h)) ∧ Below W.heap.size W w' := by
  have W1 : Hid (∀ w, RTab w gB gT gs cs → Calls Tryz.prog 74 #[.agg #[.slice (some ⟨gB, 0, none⟩) 256 cB, .slice (some ⟨gT, 0, none⟩) 8 cT], .string h, .bool false] w fun e w' => e = .returned (.string (wP h)) ∧ Below w.heap.size w w') := fun w r => rwayP gB cB gT cT gs cs _ hh w r
  have A1 : Hid (Ret 73 #[.string (wP h), .string h] (.string (add2 (wP h) h))) := radd11 _ h (wP_size _) hh
  have hz := add2_size (wP h) h
  have HC : Hid (cls h = (add2 (wP h) h).extract 32 64) := (rfl : cls h = (add2 (wP h) h).extract 32 64)
  generalize cls h = r at *
  generalize add2 (wP h) h = x at *
  generalize wP h = p at *
  have RT : Hid (RTab W gB gT gs cs) := hR
  clear hR
  go_enter Tryz.func52, Tryz.ntmps52
  go_wp2_with fail
  have K : Pk W (W.alloc (Obj.cells #[.slice (some ⟨gB, 0, none⟩) 256 cB, .slice (some ⟨gT, 0, none⟩) 8 cT] 31)) gB cB gT cT gs cs W.heap.size := ⟨RT.out.below ((Below.refl _ _).alloc (Nat.le_refl _) _), by simp [go_sem], by simp [go_sem], (Below.refl _ _).alloc (Nat.le_refl _) _⟩
  have F := K.facts
  clear RT
  generalize W.alloc (Obj.cells #[.slice (some ⟨gB, 0, none⟩) 256 cB, .slice (some ⟨gT, 0, none⟩) 8 cT] 31) = w0 at *
  generalize hb : W.heap.size = b at *
  go_wp2_with (first | (go_at_call_of 73 (#[.string p, .string h] : Array Value); refine (A1.out.go _).mono ?_; rintro e w' ⟨rfl, hb'⟩; have K' := Pk.below (w' := w') (by first | exact K | exact K.drew) hb'; clear F K hb'; have K := K'; clear K'; have F := K.facts) | (go_at_call_of 74 (#[.agg #[.slice (some ⟨gB, 0, none⟩) 256 cB, .slice (some ⟨gT, 0, none⟩) 8 cT], .string h, .bool false] : Array Value); refine (W1.out _ (by first | exact K.t | exact K.drew.t)).mono ?_; rintro e w' ⟨rfl, hb'⟩; have K' := Pk.below (w' := w') (by first | exact K | exact K.drew) hb'; clear F K hb'; have K := K'; clear K'; have F := K.facts))
  go_ret
  exact ⟨by rw [HC.out]; rfl, K.d⟩

open Go.Shelf Go.RowKit
def lays105_ren : Go.Shelf.Ren := ⟨fun | 105 => 94 | 212 => 122 | 99 => 123 | 165 => 124 | 166 => 67 | 170 => 80 | 169 => 69 | 263 => 137 | 264 => 138 | 206 => 139 | 240 => 95 | 241 => 140 | 276 => 125 | 277 => 150 | n => n, fun | 9 => 9 | 3 => 3 | 4 => 4 | 20 => 20 | 0 => 0 | 46 => 50 | 109 => 169 | 5 => 5 | 72 => 115 | 76 => 118 | 51 => 90 | 146 => 190 | 53 => 46 | 148 => 192 | 70 => 113 | 37 => 51 | 75 => 117 | 127 => 147 | 164 => 173 | 80 => 36 | n => n, fun | n => n⟩
theorem lays105 : Go.Proofs.Lays.n105 Tryz.prog lays105_ren := {
  mixed := by kernel_rfl
  f99 := Tryz.func123.trans (congrArg some (by kernel_rfl))
  f105 := Tryz.func94.trans (congrArg some (by kernel_rfl))
  f165 := Tryz.func124.trans (congrArg some (by kernel_rfl))
  f166 := Tryz.func67.trans (congrArg some (by kernel_rfl))
  f169 := Tryz.func69.trans (congrArg some (by kernel_rfl))
  f170 := Tryz.func80.trans (congrArg some (by kernel_rfl))
  f206 := Tryz.func139.trans (congrArg some (by kernel_rfl))
  f212 := Tryz.func122.trans (congrArg some (by kernel_rfl))
  f240 := Tryz.func95.trans (congrArg some (by kernel_rfl))
  f241 := Tryz.func140.trans (congrArg some (by kernel_rfl))
  f263 := Tryz.func137.trans (congrArg some (by kernel_rfl))
  f264 := Tryz.func138.trans (congrArg some (by kernel_rfl))
  f276 := Tryz.func125.trans (congrArg some (by kernel_rfl))
  f277 := Tryz.func150.trans (congrArg some (by kernel_rfl))
  t0 := Tryz.underlying0
  a0 := Tryz.isAgg0
  z0 := Tryz.sizeOf0
  v0 := Tryz.zeroValue0
  t3 := Tryz.underlying3
  a3 := Tryz.isAgg3
  z3 := Tryz.sizeOf3
  v3 := Tryz.zeroValue3
  t4 := Tryz.underlying4
  a4 := Tryz.isAgg4
  z4 := Tryz.sizeOf4
  v4 := Tryz.zeroValue4
  t5 := Tryz.underlying5
  a5 := Tryz.isAgg5
  z5 := Tryz.sizeOf5
  v5 := Tryz.zeroValue5
  t9 := Tryz.underlying9
  a9 := Tryz.isAgg9
  z9 := Tryz.sizeOf9
  v9 := Tryz.zeroValue9
  t20 := Tryz.underlying20
  a20 := Tryz.isAgg20
  z20 := Tryz.sizeOf20
  v20 := Tryz.zeroValue20
  t37 := Tryz.underlying51
  a37 := Tryz.isAgg51
  z37 := Tryz.sizeOf51
  v37 := Tryz.zeroValue51
  t46 := Tryz.underlying50
  a46 := Tryz.isAgg50
  z46 := Tryz.sizeOf50
  v46 := Tryz.zeroValue50
  t51 := Tryz.underlying90
  a51 := Tryz.isAgg90
  z51 := Tryz.sizeOf90
  v51 := Tryz.zeroValue90
  t53 := Tryz.underlying46
  a53 := Tryz.isAgg46
  z53 := Tryz.sizeOf46
  v53 := Tryz.zeroValue46
  t70 := Tryz.underlying113
  a70 := Tryz.isAgg113
  z70 := Tryz.sizeOf113
  v70 := Tryz.zeroValue113
  t72 := Tryz.underlying115
  a72 := Tryz.isAgg115
  z72 := Tryz.sizeOf115
  v72 := Tryz.zeroValue115
  t75 := Tryz.underlying117
  a75 := Tryz.isAgg117
  z75 := Tryz.sizeOf117
  v75 := Tryz.zeroValue117
  t76 := Tryz.underlying118
  a76 := Tryz.isAgg118
  z76 := Tryz.sizeOf118
  v76 := Tryz.zeroValue118
  t109 := Tryz.underlying169
  a109 := Tryz.isAgg169
  z109 := Tryz.sizeOf169
  v109 := Tryz.zeroValue169
  t127 := Tryz.underlying147
  a127 := Tryz.isAgg147
  z127 := Tryz.sizeOf147
  v127 := Tryz.zeroValue147
  t146 := Tryz.underlying190
  a146 := Tryz.isAgg190
  z146 := Tryz.sizeOf190
  v146 := Tryz.zeroValue190
  t148 := Tryz.underlying192
  a148 := Tryz.isAgg192
  z148 := Tryz.sizeOf192
  v148 := Tryz.zeroValue192
  t164 := Tryz.underlying173
  a164 := Tryz.isAgg173
  z164 := Tryz.sizeOf173
  v164 := Tryz.zeroValue173 }
theorem builder105 : Builder.Extra Tryz.prog lays105_ren := {
  sizeBuilder := by kernel_rfl
  liesBuilder := by kernel_rfl
  t5 := Tryz.underlying5
  a5 := Tryz.isAgg5
  z5 := Tryz.sizeOf5
  v5 := Tryz.zeroValue5
  infoByte := by kernel_rfl
  cellsByte := by kernel_rfl
  sizeByte := by kernel_rfl
  neB5 := by decide }
open Go.RowKit Go.Lib in
theorem repeat_any (s : ByteArray) (c : Nat) (w : World) (hc : c ≤ 9223372036854775807) (hlen : s.size * c ≤ 140737488355328) :
    Calls Tryz.prog 94 #[.string s, .int .i64 (c : Int)] w fun e w' => e = .returned (.string ⟨(Lib.repeatL s.data.toList c).toArray⟩) ∧ Below w.heap.size w w' := Any.strings_Repeat lays105 builder105 s c w hc hlen


/-- How many blocks a text of n bytes has, filled up. -/
def nb (n : Nat) : Nat := (n + 8) / 64 + 1
theorem fblocks (n : Nat) (hn : n ≤ 1000000000000) : Same 120 #[.int .i64 (n : Int)] (.int .i64 ((nb n : Nat) : Int)) := by
  intro W
  have h1 : ((n : Int) + 1 + 8 - 1).tdiv 64 + 1 = ((nb n : Nat) : Int) := by unfold nb; rw [Int.tdiv_eq_ediv_of_nonneg (by omega)]; omega
  have h2 : ((n : Int) + 1 + 8 - 1) / 64 + 1 = ((nb n : Nat) : Int) := by unfold nb; omega
  generalize nb n = q at *
  go_enter Tryz.func120, Tryz.ntmps120
  go_wp2
  go_ret
  exact ⟨rfl, rfl⟩
/-- A number as eight bytes, the highest first. -/
def hf8 (n : Nat) : ByteArray := ⟨((List.range 8).map fun j => UInt8.ofNat (n / 2 ^ (8 * (7 - j)))).toArray⟩
theorem hf8_size (n : Nat) : (hf8 n).size = 8 := by
  show ((List.range 8).map fun j => UInt8.ofNat (n / 2 ^ (8 * (7 - j)))).toArray.size = 8
  simp
set_option maxHeartbeats 6400000 in
set_option maxRecDepth 100000 in
theorem high_any11 (n : Nat) (hn : n < 9223372036854775808) : Ret 121 #[.int .i64 (n : Int)] (.string (hf8 n)) := by
  intro W
  have R0 : Hid (World.rowIs (W.alloc (Obj.cells #[.int .u8 0, .int .u8 0, .int .u8 0, .int .u8 0, .int .u8 0, .int .u8 0, .int .u8 0, .int .u8 0] 189)) W.heap.size 189 8 (fun _ => .int .u8 0)) := World.rowIs_alloc W #[.int .u8 0, .int .u8 0, .int .u8 0, .int .u8 0, .int .u8 0, .int .u8 0, .int .u8 0, .int .u8 0] 189 (fun _ => .int .u8 0) (fun i hi => by rcases lt8 (show i < 8 from hi) with rfl | rfl | rfl | rfl | rfl | rfl | rfl | rfl <;> rfl)
  have B0 : Hid (Below W.heap.size W (W.alloc (Obj.cells #[.int .u8 0, .int .u8 0, .int .u8 0, .int .u8 0, .int .u8 0, .int .u8 0, .int .u8 0, .int .u8 0] 189))) := (Below.refl _ _).alloc (Nat.le_refl _) _
  have hw : IntKind.u64.wrap (n : Int) = (n : Int) := by rw [IntKind.wrap_u64]; omega
  go_enter Tryz.func121, Tryz.ntmps121
  go_wp2
  generalize W.alloc (Obj.cells #[.int .u8 0, .int .u8 0, .int .u8 0, .int .u8 0, .int .u8 0, .int .u8 0, .int .u8 0, .int .u8 0] 189) = w0 at *
  go_loopw [5] (fun u wr => ∃ (i : Nat) (f : Nat → Value), i ≤ 8 ∧ u = .int .i64 i ∧ Hid (wr.rowIs W.heap.size 189 8 f) ∧ Hid (∀ j, 8 - i ≤ j → j < 8 → f j = .int .u8 ((n / 2 ^ (8 * (7 - j)) % 256 : Nat) : Int)) ∧ Hid (Below W.heap.size W wr)) (fun u _ => 8 - (intOf u).toNat)
  case atStart => exact ⟨0, _, by omega, rfl, R0, (fun j h1 h2 => by omega), B0⟩
  case round =>
    obtain ⟨i, f, hi, rfl, R1, HF, B1⟩ := hrel
    clear R0 B0
    by_cases hil : i < 8
    · rcases lt8 hil with rfl | rfl | rfl | rfl | rfl | rfl | rfl | rfl
      · have hv : (n : Int) % 256 = ((n / 2 ^ (8 * 0) % 256 : Nat) : Int) := by rw [show 2 ^ (8 * 0) = 1 by decide]; omega
        have c1 := R1.out.cell (i := 7) (by decide)
        have z1 := R1.out.frozen 7
        generalize hy : n / 2 ^ (8 * 0) % 256 = y at *
        have HY : Hid (n / 2 ^ (8 * 0) % 256 = y) := hy
        clear hy
        rw [show ((0 : Nat) : Int) = 0 from rfl]
        go_wp2
        refine ⟨⟨1, _, by omega, by simp, R1.out.set 7 _, (fun j h1 h2 => ?_), B1.out.setCell (Nat.le_refl _) _⟩, by simp [intOf]⟩
        show (if j = 7 then _ else _) = _
        by_cases e : j = 7
        · rw [if_pos e, e, ← HY.out]
        · rw [if_neg e]; exact HF.out j (by omega) h2
      · have hv : (n : Int) / 256 % 256 = ((n / 2 ^ (8 * 1) % 256 : Nat) : Int) := by rw [show 2 ^ (8 * 1) = 256 by decide]; omega
        have c1 := R1.out.cell (i := 6) (by decide)
        have z1 := R1.out.frozen 6
        generalize hy : n / 2 ^ (8 * 1) % 256 = y at *
        have HY : Hid (n / 2 ^ (8 * 1) % 256 = y) := hy
        clear hy
        rw [show ((1 : Nat) : Int) = 1 from rfl]
        go_wp2
        refine ⟨⟨2, _, by omega, by simp, R1.out.set 6 _, (fun j h1 h2 => ?_), B1.out.setCell (Nat.le_refl _) _⟩, by simp [intOf]⟩
        show (if j = 6 then _ else _) = _
        by_cases e : j = 6
        · rw [if_pos e, e, ← HY.out]
        · rw [if_neg e]; exact HF.out j (by omega) h2
      · have hv : (n : Int) / 65536 % 256 = ((n / 2 ^ (8 * 2) % 256 : Nat) : Int) := by rw [show 2 ^ (8 * 2) = 65536 by decide]; omega
        have c1 := R1.out.cell (i := 5) (by decide)
        have z1 := R1.out.frozen 5
        generalize hy : n / 2 ^ (8 * 2) % 256 = y at *
        have HY : Hid (n / 2 ^ (8 * 2) % 256 = y) := hy
        clear hy
        rw [show ((2 : Nat) : Int) = 2 from rfl]
        go_wp2
        refine ⟨⟨3, _, by omega, by simp, R1.out.set 5 _, (fun j h1 h2 => ?_), B1.out.setCell (Nat.le_refl _) _⟩, by simp [intOf]⟩
        show (if j = 5 then _ else _) = _
        by_cases e : j = 5
        · rw [if_pos e, e, ← HY.out]
        · rw [if_neg e]; exact HF.out j (by omega) h2
      · have hv : (n : Int) / 16777216 % 256 = ((n / 2 ^ (8 * 3) % 256 : Nat) : Int) := by rw [show 2 ^ (8 * 3) = 16777216 by decide]; omega
        have c1 := R1.out.cell (i := 4) (by decide)
        have z1 := R1.out.frozen 4
        generalize hy : n / 2 ^ (8 * 3) % 256 = y at *
        have HY : Hid (n / 2 ^ (8 * 3) % 256 = y) := hy
        clear hy
        rw [show ((3 : Nat) : Int) = 3 from rfl]
        go_wp2
        refine ⟨⟨4, _, by omega, by simp, R1.out.set 4 _, (fun j h1 h2 => ?_), B1.out.setCell (Nat.le_refl _) _⟩, by simp [intOf]⟩
        show (if j = 4 then _ else _) = _
        by_cases e : j = 4
        · rw [if_pos e, e, ← HY.out]
        · rw [if_neg e]; exact HF.out j (by omega) h2
      · have hv : (n : Int) / 4294967296 % 256 = ((n / 2 ^ (8 * 4) % 256 : Nat) : Int) := by rw [show 2 ^ (8 * 4) = 4294967296 by decide]; omega
        have c1 := R1.out.cell (i := 3) (by decide)
        have z1 := R1.out.frozen 3
        generalize hy : n / 2 ^ (8 * 4) % 256 = y at *
        have HY : Hid (n / 2 ^ (8 * 4) % 256 = y) := hy
        clear hy
        rw [show ((4 : Nat) : Int) = 4 from rfl]
        go_wp2
        refine ⟨⟨5, _, by omega, by simp, R1.out.set 3 _, (fun j h1 h2 => ?_), B1.out.setCell (Nat.le_refl _) _⟩, by simp [intOf]⟩
        show (if j = 3 then _ else _) = _
        by_cases e : j = 3
        · rw [if_pos e, e, ← HY.out]
        · rw [if_neg e]; exact HF.out j (by omega) h2
      · have hv : (n : Int) / 1099511627776 % 256 = ((n / 2 ^ (8 * 5) % 256 : Nat) : Int) := by rw [show 2 ^ (8 * 5) = 1099511627776 by decide]; omega
        have c1 := R1.out.cell (i := 2) (by decide)
        have z1 := R1.out.frozen 2
        generalize hy : n / 2 ^ (8 * 5) % 256 = y at *
        have HY : Hid (n / 2 ^ (8 * 5) % 256 = y) := hy
        clear hy
        rw [show ((5 : Nat) : Int) = 5 from rfl]
        go_wp2
        refine ⟨⟨6, _, by omega, by simp, R1.out.set 2 _, (fun j h1 h2 => ?_), B1.out.setCell (Nat.le_refl _) _⟩, by simp [intOf]⟩
        show (if j = 2 then _ else _) = _
        by_cases e : j = 2
        · rw [if_pos e, e, ← HY.out]
        · rw [if_neg e]; exact HF.out j (by omega) h2
      · have hv : (n : Int) / 281474976710656 % 256 = ((n / 2 ^ (8 * 6) % 256 : Nat) : Int) := by rw [show 2 ^ (8 * 6) = 281474976710656 by decide]; omega
        have c1 := R1.out.cell (i := 1) (by decide)
        have z1 := R1.out.frozen 1
        generalize hy : n / 2 ^ (8 * 6) % 256 = y at *
        have HY : Hid (n / 2 ^ (8 * 6) % 256 = y) := hy
        clear hy
        rw [show ((6 : Nat) : Int) = 6 from rfl]
        go_wp2
        refine ⟨⟨7, _, by omega, by simp, R1.out.set 1 _, (fun j h1 h2 => ?_), B1.out.setCell (Nat.le_refl _) _⟩, by simp [intOf]⟩
        show (if j = 1 then _ else _) = _
        by_cases e : j = 1
        · rw [if_pos e, e, ← HY.out]
        · rw [if_neg e]; exact HF.out j (by omega) h2
      · have hv : (n : Int) / 72057594037927936 = ((n / 2 ^ (8 * 7) % 256 : Nat) : Int) := by rw [show 2 ^ (8 * 7) = 72057594037927936 by decide]; omega
        have c1 := R1.out.cell (i := 0) (by decide)
        have z1 := R1.out.frozen 0
        generalize hy : n / 2 ^ (8 * 7) % 256 = y at *
        have HY : Hid (n / 2 ^ (8 * 7) % 256 = y) := hy
        clear hy
        rw [show ((7 : Nat) : Int) = 7 from rfl]
        go_wp2
        refine ⟨⟨8, _, by omega, by simp, R1.out.set 0 _, (fun j h1 h2 => ?_), B1.out.setCell (Nat.le_refl _) _⟩, by simp [intOf]⟩
        show (if j = 0 then _ else _) = _
        by_cases e : j = 0
        · rw [if_pos e, e, ← HY.out]
        · rw [if_neg e]; exact HF.out j (by omega) h2
    · have hin : ¬ ((i : Int) < 8) := by omega
      have hcv : (convert 51 9 (.slice (some ⟨W.heap.size, 0, none⟩) 8 8)).run Tryz.prog wr = .ok (.string (hf8 n)) wr := by
        have := run_convert_bytes_back (P := Tryz.prog) wr 51 9 5 ⟨W.heap.size, 0, none⟩ 8 ((List.range 8).map fun j => UInt8.ofNat (n / 2 ^ (8 * (7 - j)))) Tryz.underlying51 Tryz.underlying5 Tryz.underlying9 (fun j hj => by
          have hj' : j < 8 := by simpa using hj
          rw [Addr.add_mid, Nat.zero_add, R1.out.cell hj', HF.out j (by omega) hj']
          simp)
        rw [show ((List.range 8).map fun j => UInt8.ofNat (n / 2 ^ (8 * (7 - j)))).length = 8 by simp] at this
        exact this
      go_wp2
      go_ret
      exact ⟨rfl, B1.out⟩
theorem rep_len (c : Nat) : (Lib.repeatL [(0 : UInt8)] c).length = c := by
  first
    | (simp [Lib.repeatL]; done)
    | (induction c with
       | zero => rfl
       | succ c ih => simp [Lib.repeatL] at *; omega)
/-- What fills a text of n bytes up. -/
def fil (n : Nat) : ByteArray := ((ByteArray.mk #[128]) ++ ⟨(Lib.repeatL [0] (nb n * 64 - n - 9)).toArray⟩) ++ hf8 (nb n)
set_option maxHeartbeats 3200000 in
theorem filling_any (n : Nat) (hn : n ≤ 1000000000) : Ret 93 #[.int .i64 (n : Int)] (.string (fil n)) := by
  intro W
  have H1 : Hid (Same 120 #[.int .i64 (n : Int)] (.int .i64 ((nb n : Nat) : Int))) := fblocks n (by omega)
  have hz : (nb n : Int) * 64 - (n : Int) - 1 - 8 = ((nb n * 64 - n - 9 : Nat) : Int) := by unfold nb; omega
  have hb : nb n < 100000000 := by unfold nb; omega
  have hc : nb n * 64 - n - 9 ≤ 64 := by unfold nb; omega
  have H2 : Hid (∀ w, Calls Tryz.prog 94 #[.string (ByteArray.mk #[0]), .int .i64 ((nb n * 64 - n - 9 : Nat) : Int)] w fun e w' => e = .returned (.string ⟨(Lib.repeatL [0] (nb n * 64 - n - 9)).toArray⟩) ∧ Below w.heap.size w w') := fun w => repeat_any (ByteArray.mk #[0]) _ w (by omega) (by show 1 * _ ≤ _; omega)
  have H3 : Hid (Ret 121 #[.int .i64 ((nb n : Nat) : Int)] (.string (hf8 (nb n)))) := high_any11 _ (by omega)
  have HF : Hid (fil n = ((ByteArray.mk #[128]) ++ ⟨(Lib.repeatL [0] (nb n * 64 - n - 9)).toArray⟩) ++ hf8 (nb n)) := (rfl : fil n = _)
  have hxs : (⟨(Lib.repeatL [0] (nb n * 64 - n - 9)).toArray⟩ : ByteArray).size ≤ 64 := by show (Lib.repeatL [(0 : UInt8)] _).toArray.size ≤ 64; rw [List.size_toArray, rep_len]; exact hc
  have hys := hf8_size (nb n)
  generalize hx : (⟨(Lib.repeatL [0] (nb n * 64 - n - 9)).toArray⟩ : ByteArray) = x at *
  clear hx
  generalize nb n * 64 - n - 9 = c at *
  generalize hf8 (nb n) = y at *
  generalize nb n = q at *
  have hs1 : (ByteArray.mk #[128]).size = 1 := rfl
  have hs2 : ((ByteArray.mk #[128]) ++ x).size = 1 + x.size := ByteArray.size_append
  go_enter Tryz.func93, Tryz.ntmps93
  go_wp2_with (first | (go_at_call 120; refine (H1.out.go _).mono ?_; rintro e w1 ⟨rfl, rfl⟩) | (go_at_call 94; refine (H2.out _).mono ?_; rintro e w2 ⟨rfl, hb2⟩) | (go_at_call 121; refine (H3.out.go _).mono ?_; rintro e w3 ⟨rfl, hb3⟩; have D3 := hb2.trans (hb3.mono hb2.size); clear hb3))
  go_ret
  exact ⟨by rw [HF.out]; rfl, D3⟩
/-- A text filled up. -/
def ful (s : ByteArray) : ByteArray := s ++ fil s.size
theorem fil_size (n : Nat) : (fil n).size = nb n * 64 - n := by
  unfold fil
  rw [ByteArray.size_append, ByteArray.size_append, hf8_size]
  show 1 + (Lib.repeatL [(0 : UInt8)] _).toArray.size + 8 = _
  rw [List.size_toArray, rep_len]
  unfold nb
  omega
theorem ful_size (s : ByteArray) : (ful s).size = nb s.size * 64 := by
  unfold ful
  rw [ByteArray.size_append, fil_size]
  unfold nb
  omega
/-- The first chain value. -/
def fst0 : ByteArray := ⟨(Lib.repeatL [0] 62).toArray⟩ ++ (ByteArray.mk #[1, 0])
theorem fst0_size : fst0.size = 64 := by
  unfold fst0
  rw [ByteArray.size_append]
  show (Lib.repeatL [(0 : UInt8)] 62).toArray.size + 2 = 64
  rw [List.size_toArray, rep_len]
theorem first_any : Ret 66 #[] (.string fst0) := by
  intro W
  have H : Hid (∀ w, Calls Tryz.prog 94 #[.string (ByteArray.mk #[0]), .int .i64 62] w fun e w' => e = .returned (.string ⟨(Lib.repeatL [0] 62).toArray⟩) ∧ Below w.heap.size w w') := fun w => repeat_any (ByteArray.mk #[0]) 62 w (by omega) (by show 1 * 62 ≤ _; omega)
  have hx : (⟨(Lib.repeatL [0] 62).toArray⟩ : ByteArray).size = 62 := by show (Lib.repeatL [(0 : UInt8)] 62).toArray.size = 62; rw [List.size_toArray, rep_len]
  have hy : (ByteArray.mk #[1, 0]).size = 2 := rfl
  have HU : Hid (fst0 = ⟨(Lib.repeatL [0] 62).toArray⟩ ++ (ByteArray.mk #[1, 0])) := (rfl : fst0 = _)
  generalize (⟨(Lib.repeatL [0] 62).toArray⟩ : ByteArray) = x at *
  go_enter Tryz.func66, Tryz.ntmps66
  go_wp2_with (go_at_call 94; refine (H.out _).mono ?_; rintro e w1 ⟨rfl, hb1⟩)
  go_ret
  exact ⟨by rw [HU.out]; rfl, hb1⟩
end Go.Proofs.YtopmkooegpaeaaaGreat
