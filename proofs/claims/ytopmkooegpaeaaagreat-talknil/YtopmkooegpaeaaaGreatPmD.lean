/- Contracts of perm.box, perm.times and perm.Make, over the seat's translation: the tables in memory. -/
import Derived.Test.YtopmkooegpaeaaaGreatPmA
import Derived.Test.YtopmkooegpaeaaaGreatTwIn
import Derived.Deep.WholeRow
namespace Go.Proofs.YtopmkooegpaeaaaGreat
open Go.RowKit

/-- The box of an inverse, by its first j turns. -/
def boxp (x : Nat) : Nat → Nat
  | 0 => x ^^^ 99
  | j + 1 => boxp x j ^^^ rl8 x (j + 1)
theorem boxp_lt (x : Nat) (hx : x < 256) : ∀ j, boxp x j < 256
  | 0 => Nat.xor_lt_two_pow (n := 8) hx (by decide)
  | j + 1 => Nat.xor_lt_two_pow (n := 8) (boxp_lt x hx j) (rl8_lt x _ hx)
/-- A byte's inverse. -/
def binv (b : Nat) : Nat := (invv 3 (0, b)).2 % 256
/-- A byte's box. -/
def bx (b : Nat) : Nat := boxp (binv b) 4
/-- A byte times a number. -/
def tmul (k b : Nat) : Nat := (mulv 3 (0, k) (0, b)).2 % 256
theorem binv_lt (b : Nat) : binv b < 256 := Nat.mod_lt _ (by decide)
theorem bx_lt (b : Nat) : bx b < 256 := boxp_lt _ (binv_lt b) 4
theorem tmul_lt (k b : Nat) : tmul k b < 256 := Nat.mod_lt _ (by decide)
theorem rot8_any (x n : Nat) (hx : x < 256) (hn : n < 4) : Same 44 #[.int .u8 (x : Int), .int .i64 ((n : Int) + 1)] (.int .u8 (rl8 x (n + 1) : Nat)) := by
  have : n = 0 ∨ n = 1 ∨ n = 2 ∨ n = 3 := by omega
  rcases this with rfl | rfl | rfl | rfl
  · exact rot8_1 x hx
  · exact rot8_2 x hx
  · exact rot8_3 x hx
  · exact rot8_4 x hx
set_option maxHeartbeats 800000 in
theorem box_any (b : Nat) (hb : b < 256) : Ret 21 #[.int .u8 (b : Int)] (.int .u8 ((bx b : Nat) : Int)) := by
  intro W
  have HI : Hid (Ret 43 #[.int .i64 3, .agg #[.int .u64 0, .int .u64 (b : Int)]] (.agg #[.int .u64 ((invv 3 (0, b)).1 : Int), .int .u64 ((invv 3 (0, b)).2 : Int)])) := inv_any 3 (0, b) (Nat.two_pow_pos 64) (by show b < 2 ^ 64; omega)
  have hv : ((invv 3 (0, b)).2 : Int) % 256 = ((binv b : Nat) : Int) := by unfold binv; omega
  have HX : Hid (bx b = boxp (binv b) 4) := (rfl : bx b = boxp (binv b) 4)
  have hx := binv_lt b
  generalize bx b = z at *
  generalize binv b = x at *
  generalize (invv 3 (0, b)).1 = v1 at *
  generalize (invv 3 (0, b)).2 = v2 at *
  have h0 : bits .xor .u8 (x : Int) 99 = ((boxp x 0 : Nat) : Int) := u8_xor_nat x 99 hx (by decide)
  go_enter Tryz.func21, Tryz.ntmps21
  go_wp2_with (go_at_call 43; refine (HI.out.go _).mono ?_; rintro e w1 ⟨rfl, hb1⟩)
  have HD : Hid (Below W.heap.size W (w1.alloc (Obj.cells #[.int .u64 (v1 : Int), .int .u64 (v2 : Int)] 48))) := hb1.alloc hb1.size _
  rw [hv]
  clear hb1 h0
  go_loopw [4, 15] (fun v u wr => ∃ j : Nat, j ≤ 4 ∧ v = .int .u8 ((boxp x j : Nat) : Int) ∧ u = .int .i64 j ∧ Hid (Below W.heap.size W wr)) (fun _ u _ => 4 - (intOf u).toNat)
  case atStart => exact ⟨0, by omega, rfl, rfl, HD⟩
  case round =>
    obtain ⟨j, hj, rfl, rfl, HB⟩ := hrel
    clear HD
    by_cases hlt : j < 4
    · have HA : Hid (Same 44 #[.int .u8 (x : Int), .int .i64 ((j : Int) + 1)] (.int .u8 (rl8 x (j + 1) : Nat))) := rot8_any x j hx hlt
      have hx2 : bits .xor .u8 ((boxp x j : Nat) : Int) ((rl8 x (j + 1) : Nat) : Int) = ((boxp x (j + 1) : Nat) : Int) := u8_xor_nat _ _ (boxp_lt x hx j) (rl8_lt x _ hx)
      generalize rl8 x (j + 1) = q at *
      generalize hz : boxp x (j + 1) = y at *
      have HZ : Hid (boxp x (j + 1) = y) := hz
      clear hz
      generalize boxp x j = p at *
      go_wp2_with (go_at_call 44; refine (HA.out.go _).mono ?_; rintro e w3 ⟨rfl, rfl⟩)
      exact ⟨⟨j + 1, hlt, by rw [HZ.out], by simp, HB⟩, by simp [intOf]; omega⟩
    · obtain rfl : j = 4 := by omega
      go_wp2
      go_ret
      exact ⟨by rw [HX.out]; rfl, HB.out⟩
theorem times_any (k b : Nat) (hk : k < 8) (hb : b < 256) : Ret 23 #[.int .i64 (k : Int), .int .u8 (b : Int)] (.int .u8 ((tmul k b : Nat) : Int)) := by
  intro W
  have HI : Hid (Ret 45 #[.int .i64 3, .agg #[.int .u64 0, .int .u64 (k : Int)], .agg #[.int .u64 0, .int .u64 (b : Int)]] (.agg #[.int .u64 ((mulv 3 (0, k) (0, b)).1 : Int), .int .u64 ((mulv 3 (0, k) (0, b)).2 : Int)])) := mul_any 3 (0, k) (0, b) (Nat.two_pow_pos 64) (by show k < 2 ^ 64; omega) (Nat.two_pow_pos 64) (by show b < 2 ^ 64; omega)
  have hv : ((mulv 3 (0, k) (0, b)).2 : Int) % 256 = ((tmul k b : Nat) : Int) := by unfold tmul; omega
  have hw : IntKind.u64.wrap (k : Int) = (k : Int) := by rw [IntKind.wrap_u64]; omega
  generalize tmul k b = z at *
  generalize (mulv 3 (0, k) (0, b)).1 = v1 at *
  generalize (mulv 3 (0, k) (0, b)).2 = v2 at *
  go_enter Tryz.func23, Tryz.ntmps23
  go_wp2_with (go_at_call 45; refine (HI.out.go _).mono ?_; rintro e w1 ⟨rfl, hb1⟩)
  go_ret
  exact ⟨by rw [← hv]; rfl, hb1.alloc hb1.size _⟩


def is8 : Value → Bool
  | .int .u8 (.ofNat 0) => true
  | _ => false
def is64 : Value → Bool
  | .int .u64 (.ofNat 0) => true
  | _ => false
def one1 : List Value → Bool
  | [_] => true
  | _ => false
def zchk (P : Program) (t : TypeId) : Bool :=
  match P.info? t with
  | some i => match i.zero with
    | some (.agg z) => (z.toList.take 2560).all is8 && (z.toList.drop 2560).all is64 && one1 (z.toList.drop 3071)
    | _ => false
  | none => false
theorem zchk_ok : zchk Tryz.prog 66 = true := by kernel_rfl
theorem is8_eq {v : Value} (h : is8 v = true) : v = .int .u8 0 := by
  unfold is8 at h
  split at h
  · rfl
  · cases h
theorem is64_eq {v : Value} (h : is64 v = true) : v = .int .u64 0 := by
  unfold is64 at h
  split at h
  · rfl
  · cases h
/-- New tables are noughts. -/
theorem zer_tab : ∃ z : Array Value, (∀ w, (zeroValue 66).run Tryz.prog w = .ok (.agg z) w) ∧ z.size = 3072 ∧ (∀ p, p < 2560 → z[p]? = some (.int .u8 0)) ∧ ∀ p, 2560 ≤ p → p < 3072 → z[p]? = some (.int .u64 0) := by
  have h := zchk_ok
  unfold zchk at h
  cases hi : Tryz.prog.info? 66 with
  | none => simp [hi] at h
  | some i =>
    rw [hi] at h
    cases hz : i.zero with
    | none => simp [hz] at h
    | some v =>
      cases v with
      | agg z =>
        simp only [hz, Bool.and_eq_true] at h
        obtain ⟨⟨h1, h2⟩, h3⟩ := h
        have hl : z.size = 3072 := by
          have : (z.toList.drop 3071).length = 1 := by
            generalize z.toList.drop 3071 = l at h3
            match l, h3 with
            | [_], _ => rfl
          simp at this
          omega
        refine ⟨z, fun w => by simp [zeroValue, typeInfo, hi, hz], hl, fun p hp => ?_, fun p hp hp2 => ?_⟩
        · have hlt : p < z.size := by omega
          rw [Array.getElem?_eq_getElem hlt]
          refine congrArg some (is8_eq (List.all_eq_true.1 h1 _ ?_))
          rw [List.mem_take_iff_getElem]
          exact ⟨p, by simp; omega, by simp⟩
        · have hlt : p < z.size := by omega
          rw [Array.getElem?_eq_getElem hlt]
          refine congrArg some (is64_eq (List.all_eq_true.1 h2 _ ?_))
          rw [List.mem_drop_iff_getElem]
          exact ⟨p - 2560, by simp; omega, by simp [show 2560 + (p - 2560) = p by omega]⟩
      | _ => simp [hz] at h


def tabv (fb fu : Nat → Nat) (ft : Nat → Nat → Nat) (fm fn : Nat → Nat) (p : Nat) : Value :=
  if p < 256 then .int .u8 (fb p : Nat) else if p < 512 then .int .u8 (fu (p - 256) : Nat) else if p < 2560 then .int .u8 (ft ((p - 512) / 256) ((p - 512) % 256) : Nat) else if p < 2816 then .int .u64 (fm (p - 2560) : Nat) else .int .u64 (fn (p - 2816) : Nat)
def upd (f : Nat → Nat) (x v : Nat) : Nat → Nat := fun y => if y = x then v else f y
def upd2 (f : Nat → Nat → Nat) (k x v : Nat) : Nat → Nat → Nat := fun l y => if l = k ∧ y = x then v else f l y
/-- Tables that lie at g. -/
def Tabs (w : World) (g : Nat) (fb fu : Nat → Nat) (ft : Nat → Nat → Nat) (fm fn : Nat → Nat) : Prop := w.rowIs g 66 3072 (tabv fb fu ft fm fn)
section
variable {w w' : World} {g : Nat} {fb fu : Nat → Nat} {ft : Nat → Nat → Nat} {fm fn : Nat → Nat}
theorem Tabs.lt (h : Tabs w g fb fu ft fm fn) : g < w.heap.size := World.rowIs.lt h
theorem Tabs.below (h : Tabs w g fb fu ft fm fn) (hb : Below w.heap.size w w') : Tabs w' g fb fu ft fm fn := World.rowIs.of_block h (hb.block g h.lt)
theorem Tabs.frozen (h : Tabs w g fb fu ft fm fn) (i : Nat) : w.frozen? ⟨g, i, none⟩ = false := World.rowIs.frozen h i
theorem Tabs.box (h : Tabs w g fb fu ft fm fn) {x : Nat} (hx : x < 256) : w.cell? ⟨g, x, none⟩ = some (.int .u8 (fb x : Nat)) := by
  rw [World.rowIs.cell h (by omega)]; unfold tabv; rw [if_pos hx]
theorem Tabs.unbox (h : Tabs w g fb fu ft fm fn) {x : Nat} (hx : x < 256) : w.cell? ⟨g, 256 + x, none⟩ = some (.int .u8 (fu x : Nat)) := by
  rw [World.rowIs.cell h (by omega)]; unfold tabv; rw [if_neg (by omega), if_pos (by omega), show 256 + x - 256 = x by omega]
theorem Tabs.times (h : Tabs w g fb fu ft fm fn) {k x : Nat} (hk : k < 8) (hx : x < 256) : w.cell? ⟨g, 512 + 256 * k + x, none⟩ = some (.int .u8 (ft k x : Nat)) := by
  rw [World.rowIs.cell h (by omega)]; unfold tabv; rw [if_neg (by omega), if_neg (by omega), if_pos (by omega), show (512 + 256 * k + x - 512) / 256 = k by omega, show (512 + 256 * k + x - 512) % 256 = x by omega]
theorem Tabs.mix (h : Tabs w g fb fu ft fm fn) {x : Nat} (hx : x < 256) : w.cell? ⟨g, 2560 + x, none⟩ = some (.int .u64 (fm x : Nat)) := by
  rw [World.rowIs.cell h (by omega)]; unfold tabv; rw [if_neg (by omega), if_neg (by omega), if_neg (by omega), if_pos (by omega), show 2560 + x - 2560 = x by omega]
theorem Tabs.unmix (h : Tabs w g fb fu ft fm fn) {x : Nat} (hx : x < 256) : w.cell? ⟨g, 2816 + x, none⟩ = some (.int .u64 (fn x : Nat)) := by
  rw [World.rowIs.cell h (by omega)]; unfold tabv; rw [if_neg (by omega), if_neg (by omega), if_neg (by omega), if_neg (by omega), show 2816 + x - 2816 = x by omega]
theorem Tabs.setBox (h : Tabs w g fb fu ft fm fn) {x : Nat} (hx : x < 256) (v : Nat) : Tabs (w.setCell ⟨g, x, none⟩ (.int .u8 (v : Nat))) g (upd fb x v) fu ft fm fn := by
  refine (World.rowIs.set h x _).congr fun p hp => ?_
  unfold tabv upd
  by_cases e : p = x
  · simp only [if_pos e, if_pos (show p < 256 by omega)]
  · simp only [if_neg e]
theorem Tabs.setUnbox (h : Tabs w g fb fu ft fm fn) {x : Nat} (hx : x < 256) (v : Nat) : Tabs (w.setCell ⟨g, 256 + x, none⟩ (.int .u8 (v : Nat))) g fb (upd fu x v) ft fm fn := by
  refine (World.rowIs.set h (256 + x) _).congr fun p hp => ?_
  unfold tabv upd
  by_cases e : p = 256 + x
  · simp only [if_pos e, if_neg (show ¬ p < 256 by omega), if_pos (show p < 512 by omega), if_pos (show p - 256 = x by omega)]
  · by_cases h1 : p < 256
    · simp only [if_neg e, if_pos h1]
    · simp only [if_neg e, if_neg h1, if_neg (show ¬ p - 256 = x by omega)]
theorem Tabs.setTimes (h : Tabs w g fb fu ft fm fn) {k x : Nat} (hk : k < 8) (hx : x < 256) (v : Nat) : Tabs (w.setCell ⟨g, 512 + 256 * k + x, none⟩ (.int .u8 (v : Nat))) g fb fu (upd2 ft k x v) fm fn := by
  refine (World.rowIs.set h (512 + 256 * k + x) _).congr fun p hp => ?_
  unfold tabv upd2
  by_cases e : p = 512 + 256 * k + x
  · simp only [if_pos e, if_neg (show ¬ p < 256 by omega), if_neg (show ¬ p < 512 by omega), if_pos (show p < 2560 by omega), if_pos (show (p - 512) / 256 = k ∧ (p - 512) % 256 = x by omega)]
  · by_cases h1 : p < 512
    · simp only [if_neg e, if_pos h1]
    · simp only [if_neg e, if_neg h1, if_neg (show ¬ ((p - 512) / 256 = k ∧ (p - 512) % 256 = x) by omega)]
theorem Tabs.setMix (h : Tabs w g fb fu ft fm fn) {x : Nat} (hx : x < 256) (v : Nat) : Tabs (w.setCell ⟨g, 2560 + x, none⟩ (.int .u64 (v : Nat))) g fb fu ft (upd fm x v) fn := by
  refine (World.rowIs.set h (2560 + x) _).congr fun p hp => ?_
  unfold tabv upd
  by_cases e : p = 2560 + x
  · simp only [if_pos e, if_neg (show ¬ p < 256 by omega), if_neg (show ¬ p < 512 by omega), if_neg (show ¬ p < 2560 by omega), if_pos (show p < 2816 by omega), if_pos (show p - 2560 = x by omega)]
  · by_cases h1 : p < 2560
    · simp only [if_neg e, if_pos h1]
    · simp only [if_neg e, if_neg h1, if_neg (show ¬ p - 2560 = x by omega)]
theorem Tabs.setUnmix (h : Tabs w g fb fu ft fm fn) {x : Nat} (hx : x < 256) (v : Nat) : Tabs (w.setCell ⟨g, 2816 + x, none⟩ (.int .u64 (v : Nat))) g fb fu ft fm (upd fn x v) := by
  refine (World.rowIs.set h (2816 + x) _).congr fun p hp => ?_
  unfold tabv upd
  by_cases e : p = 2816 + x
  · simp only [if_pos e, if_neg (show ¬ p < 256 by omega), if_neg (show ¬ p < 512 by omega), if_neg (show ¬ p < 2560 by omega), if_neg (show ¬ p < 2816 by omega), if_pos (show p - 2816 = x by omega)]
  · by_cases h1 : p < 2816
    · simp only [if_neg e, if_pos h1]
    · simp only [if_neg e, if_neg h1, if_neg (show ¬ p - 2816 = x by omega)]
end
theorem Tabs.new (w : World) (z : Array Value) (hz : z.size = 3072) (h1 : ∀ p, p < 2560 → z[p]? = some (.int .u8 0)) (h2 : ∀ p, 2560 ≤ p → p < 3072 → z[p]? = some (.int .u64 0)) : Tabs (w.alloc (.cells z 66)) w.heap.size (fun _ => 0) (fun _ => 0) (fun _ _ => 0) (fun _ => 0) (fun _ => 0) := by
  have := World.rowIs_alloc w z 66 (tabv (fun _ => 0) (fun _ => 0) (fun _ _ => 0) (fun _ => 0) (fun _ => 0)) (fun p hp => by
    unfold tabv
    by_cases h : p < 2560
    · rw [h1 p h]
      by_cases a : p < 256
      · rw [if_pos a]; rfl
      · rw [if_neg a]
        by_cases b : p < 512
        · rw [if_pos b]; rfl
        · rw [if_neg b, if_pos h]; rfl
    · rw [h2 p (by omega) (by omega), if_neg (by omega), if_neg (by omega), if_neg h]
      by_cases c : p < 2816
      · rw [if_pos c]; rfl
      · rw [if_neg c]; rfl)
  rw [hz] at this
  exact this


def tok (k : Nat) : Bool := k == 2 || k == 3 || k == 4 || k == 5 || k == 7
def tmv (k b : Nat) : Nat := if tok k then tmul k b else 0
def ubp : Nat → Nat → Nat
  | 0, _ => 0
  | i + 1, y => if y = bx i then i else ubp i y
def hasf (j k : Nat) : Bool := (List.range j).any fun m => fac m == k
theorem fac_lt (j : Nat) : fac j < 8 := by
  unfold fac
  split <;> decide
set_option maxRecDepth 100000 in
theorem fac_ix (j : Nat) (hj : j < 8) : ∀ w, (Instr.index 68 (.agg #[.int .i64 2, .int .i64 2, .int .i64 3, .int .i64 4, .int .i64 5, .int .i64 3, .int .i64 5, .int .i64 7]) (.int .i64 (j : Int))).run Tryz.prog w = .ok (.int .i64 ((fac j : Nat) : Int)) w := by
  rcases lt8 hj with rfl | rfl | rfl | rfl | rfl | rfl | rfl | rfl
  · exact fun _ => by kernel_rfl
  · exact fun _ => by kernel_rfl
  · exact fun _ => by kernel_rfl
  · exact fun _ => by kernel_rfl
  · exact fun _ => by kernel_rfl
  · exact fun _ => by kernel_rfl
  · exact fun _ => by kernel_rfl
  · exact fun _ => by kernel_rfl
theorem hasf_succ (j k : Nat) : hasf (j + 1) k = (hasf j k || fac j == k) := by
  unfold hasf
  rw [List.range_succ, List.any_append]
  simp
theorem hasf_all (k : Nat) (hk : k < 8) : hasf 8 k = tok k := by
  have all : ∀ k : Fin 8, hasf 8 k.val = tok k.val := by decide
  exact all ⟨k, hk⟩
/-- Boxes and products of the first i bytes. -/
structure L1 (i : Nat) (fb fu : Nat → Nat) (ft : Nat → Nat → Nat) : Prop where
  b : ∀ x, x < i → fb x = bx x
  u : ∀ y, y < 256 → fu y = ubp i y
  t : ∀ k x, k < 8 → x < i → ft k x = tmv k x
  z : ∀ k x, k < 8 → i ≤ x → ft k x = 0
/-- .. and of the byte i the first j products. -/
structure L2 (i j : Nat) (fb fu : Nat → Nat) (ft : Nat → Nat → Nat) : Prop where
  b : ∀ x, x < i + 1 → fb x = bx x
  u : ∀ y, y < 256 → fu y = ubp (i + 1) y
  t : ∀ k x, k < 8 → x < i → ft k x = tmv k x
  m : ∀ k, k < 8 → ft k i = if hasf j k then tmul k i else 0
  z : ∀ k x, k < 8 → i + 1 ≤ x → ft k x = 0
theorem L1.step {i : Nat} {fb fu : Nat → Nat} {ft : Nat → Nat → Nat} (h : L1 i fb fu ft) : L2 i 0 (upd fb i (bx i)) (upd fu (bx i) i) ft where
  b x hx := by
    unfold upd
    by_cases e : x = i
    · rw [if_pos e, e]
    · rw [if_neg e]; exact h.b x (by omega)
  u y hy := by
    unfold upd ubp
    rw [h.u y hy]
  t := h.t
  m k hk := by rw [h.z k i hk (Nat.le_refl _)]; rfl
  z k x hk hx := h.z k x hk (by omega)
theorem L2.step {i j : Nat} {fb fu : Nat → Nat} {ft : Nat → Nat → Nat} (h : L2 i j fb fu ft) : L2 i (j + 1) fb fu (upd2 ft (fac j) i (tmul (fac j) i)) where
  b := h.b
  u := h.u
  t k x hk hx := by
    unfold upd2
    rw [if_neg (by omega)]
    exact h.t k x hk hx
  m k hk := by
    unfold upd2
    rw [hasf_succ]
    by_cases e : k = fac j
    · subst e
      simp
    · rw [if_neg (by omega), h.m k hk]
      have : (fac j == k) = false := by simp; omega
      rw [this, Bool.or_false]
  z k x hk hx := by
    unfold upd2
    rw [if_neg (by omega)]
    exact h.z k x hk hx
theorem L2.last {i : Nat} {fb fu : Nat → Nat} {ft : Nat → Nat → Nat} (h : L2 i 8 fb fu ft) : L1 (i + 1) fb fu ft where
  b := h.b
  u := h.u
  t k x hk hx := by
    by_cases e : x = i
    · subst e
      rw [h.m k hk, hasf_all k hk]
      rfl
    · exact h.t k x hk (by omega)
  z := h.z
theorem tmv_lt (k x : Nat) : tmv k x < 256 := by
  unfold tmv
  split
  · exact tmul_lt k x
  · decide
def mixv (b : Nat) : Nat := mxp tmv b 8
theorem mixv_lt (b : Nat) : mixv b < 2 ^ 64 := mxp_lt tmv tmv_lt b 8
def unmixv (b : Nat) : Nat := t3p tmv (whn mixv b 7) 8
theorem unmixv_lt (b : Nat) : unmixv b < 2 ^ 64 := t3p_lt tmv tmv_lt _ 8 (Nat.le_refl _)
/-- The tables lie at g. -/
def Tab (w : World) (g : Nat) : Prop := Tabs w g bx (ubp 256) tmv mixv unmixv
theorem tab_of {w : World} {g : Nat} {fb fu : Nat → Nat} {ft : Nat → Nat → Nat} {fm fn : Nat → Nat} (h : Tabs w g fb fu ft fm fn) (l : L1 256 fb fu ft) (hm : ∀ x, x < 256 → fm x = mixv x) (hn : ∀ x, x < 256 → fn x = unmixv x) : Tab w g := by
  refine World.rowIs.congr h fun p hp => ?_
  unfold tabv
  by_cases h1 : p < 256
  · rw [if_pos h1, if_pos h1, l.b p h1]
  · rw [if_neg h1, if_neg h1]
    by_cases h2 : p < 512
    · rw [if_pos h2, if_pos h2, l.u _ (by omega)]
    · rw [if_neg h2, if_neg h2]
      by_cases h3 : p < 2560
      · rw [if_pos h3, if_pos h3, l.t _ _ (by omega) (by omega)]
      · rw [if_neg h3, if_neg h3]
        by_cases h4 : p < 2816
        · rw [if_pos h4, if_pos h4, hm _ (by omega)]
        · rw [if_neg h4, if_neg h4, hn _ (by omega)]
set_option maxHeartbeats 3200000 in
set_option maxRecDepth 100000 in
theorem make_any (W : World) : Calls Tryz.prog 9 #[] W fun e w' => ∃ g, e = .returned (.pointer (some ⟨g, 0, none⟩)) ∧ W.heap.size ≤ g ∧ Tab w' g ∧ Below W.heap.size W w' := by
  obtain ⟨z, hz, hs, hz1, hz2⟩ := zer_tab
  have HT0 : Hid (Tabs (W.alloc (.cells z 66)) W.heap.size (fun _ => 0) (fun _ => 0) (fun _ _ => 0) (fun _ => 0) (fun _ => 0)) := Tabs.new W z hs hz1 hz2
  have HB0 : Hid (Below W.heap.size W (W.alloc (.cells z 66))) := (Below.refl _ _).alloc (Nat.le_refl _) _
  clear hs hz1 hz2
  go_enter Tryz.func9, Tryz.ntmps9
  go_wp2_with fail
  clear hz
  go_loopw [9] (fun u wr => ∃ (i : Nat) (fb fu : Nat → Nat) (ft : Nat → Nat → Nat), i ≤ 256 ∧ u = .int .i64 i ∧ Hid (Tabs wr W.heap.size fb fu ft (fun _ => 0) (fun _ => 0)) ∧ Hid (L1 i fb fu ft) ∧ Hid (Below W.heap.size W wr)) (fun u _ => 256 - (intOf u).toNat)
  case atStart => exact ⟨0, _, _, _, by omega, rfl, HT0, ⟨fun x hx => by omega, fun y _ => rfl, fun k x _ hx => by omega, fun k x _ _ => rfl⟩, HB0⟩
  case round =>
    obtain ⟨i, fb, fu, ft, hi, rfl, HT, HL, HB⟩ := hrel
    clear HT0 HB0
    generalize hg : W.heap.size = g at *
    have HG : Hid (W.heap.size = g) := hg
    clear hg
    by_cases hlt : i < 256
    · have HX : Hid (Ret 21 #[.int .u8 (i : Int)] (.int .u8 ((bx i : Nat) : Int))) := box_any i hlt
      have hb := bx_lt i
      generalize hq : bx i = q at *
      have hw : (i : Int) % 256 = (i : Int) := by omega
      have hi1 : (0 : Int) ≤ (i : Int) := by omega
      have hi2 : (i : Int) < 256 := by omega
      go_wp2
      go_region_with (go_at_call 21; refine (HX.out.go _).mono ?_; rintro e w3 ⟨rfl, hb3⟩; have R3 : Hid (Tabs w3 g fb fu ft (fun _ => 0) (fun _ => 0)) := Tabs.below (w := wr.drew) HT.out hb3; have c1 := R3.out.box hlt; have z1 := R3.out.frozen i)
      have R4 : Hid (Tabs (w3.setCell ⟨g, i, none⟩ (.int .u8 (q : Int))) g (upd fb i q) fu ft (fun _ => 0) (fun _ => 0)) := R3.out.setBox hlt q
      have D4 : Hid (Below g W (w3.setCell ⟨g, i, none⟩ (.int .u8 (q : Int)))) := (HB.out.drew.trans (hb3.mono (Nat.le_of_lt HT.out.lt))).setCell (Nat.le_refl _) _
      generalize w3.setCell ⟨g, i, none⟩ (.int .u8 (q : Int)) = w4 at *
      clear c1 z1 R3 hb3 w3
      have c4 : w4.cell? ⟨g, i, none⟩ = some (.int .u8 (q : Int)) := by rw [R4.out.box hlt]; unfold upd; rw [if_pos rfl]
      have c5 := R4.out.unbox hb
      have z5 := R4.out.frozen (256 + q)
      have hq1 : (0 : Int) ≤ (q : Int) := by omega
      have hq2 : (q : Int) < 256 := by omega
      go_wp2
      go_region
      have R5 : Hid (Tabs (w4.setCell ⟨g, 256 + q, none⟩ (.int .u8 (i : Int))).drew g (upd fb i q) (upd fu q i) ft (fun _ => 0) (fun _ => 0)) := R4.out.setUnbox hb i
      have D5 : Hid (Below g W (w4.setCell ⟨g, 256 + q, none⟩ (.int .u8 (i : Int))).drew) := (D4.out.setCell (Nat.le_refl _) _).drew
      generalize (w4.setCell ⟨g, 256 + q, none⟩ (.int .u8 (i : Int))).drew = w5 at *
      have HQ : Hid (bx i = q) := hq
      clear c4 c5 z5 R4 D4 w4 hq1 hq2 hb HX HT HB hq
      go_wp2_with (go_at_call 22; refine (factors_any _).mono ?_; rintro e w6 ⟨rfl, hb6⟩)
      have R6 : Hid (Tabs w6 g (upd fb i q) (upd fu q i) ft (fun _ => 0) (fun _ => 0)) := R5.out.below hb6
      have D6 : Hid (Below g W w6) := D5.out.trans (hb6.mono (Nat.le_of_lt R5.out.lt))
      clear R5 D5 hb6
      have HL6 : Hid (L2 i 0 (upd fb i q) (upd fu q i) ft) := by have := HL.out.step; rw [HQ.out] at this; exact this
      clear HL
      generalize upd fb i q = fb1 at *
      generalize upd fu q i = fu1 at *
      go_loopw [33] (fun u wr => ∃ (j : Nat) (ft1 : Nat → Nat → Nat), j ≤ 8 ∧ u = .int .i64 j ∧ Hid (Tabs wr g fb1 fu1 ft1 (fun _ => 0) (fun _ => 0)) ∧ Hid (L2 i j fb1 fu1 ft1) ∧ Hid (Below g W wr)) (fun u _ => 8 - (intOf u).toNat)
      case atStart => exact ⟨0, _, by omega, rfl, R6, HL6, D6⟩
      case round =>
        obtain ⟨j, ft1, hj, rfl, HT, HL, HB⟩ := hrel
        clear R6 D6 HL6
        by_cases hlt2 : j < 8
        · have hix := fac_ix j hlt2
          have hF := fac_lt j
          have HS := HL.out.step
          generalize fac j = F at *
          have HX : Hid (Ret 23 #[.int .i64 (F : Int), .int .u8 (i : Int)] (.int .u8 ((tmul F i : Nat) : Int))) := times_any F i hF hlt
          generalize tmul F i = y at *
          have HS' : Hid (L2 i (j + 1) fb1 fu1 (upd2 ft1 F i y)) := HS
          clear HS
          have hf1 : (0 : Int) ≤ (F : Int) := by omega
          have hf2 : (F : Int) < 8 := by omega
          go_wp2
          go_region_held3 (fun _ => True) (exact True.intro) ((go_at_call 23; refine (HX.out.go _).mono ?_; rintro e w3 ⟨rfl, hb3⟩; have R3 : Hid (Tabs w3 g fb1 fu1 ft1 (fun _ => 0) (fun _ => 0)) := Tabs.below (w := wr.drew) HT.out hb3; have c1 : w3.cell? ⟨g, 512 + F * 256 + i, none⟩ = some (.int .u8 (ft1 F i : Nat)) := (by rw [Nat.mul_comm]; exact R3.out.times hF hlt); have z1 := R3.out.frozen (512 + F * 256 + i)))
          have R4 : Hid (Tabs (w3.setCell ⟨g, 512 + F * 256 + i, none⟩ (.int .u8 (y : Int))) g fb1 fu1 (upd2 ft1 F i y) (fun _ => 0) (fun _ => 0)) := by rw [Nat.mul_comm F]; exact R3.out.setTimes hF hlt y
          have D4 : Hid (Below g W (w3.setCell ⟨g, 512 + F * 256 + i, none⟩ (.int .u8 (y : Int)))) := (HB.out.drew.trans (hb3.mono (Nat.le_of_lt HT.out.lt))).setCell (Nat.le_refl _) _
          clear c1 z1 hb3
          go_wp2
          exact ⟨⟨j + 1, _, hlt2, by simp, R4, HS', D4⟩, by simp [intOf]; omega⟩
        · have HJ : Hid (L1 (i + 1) fb1 fu1 ft1) := by
            have e : j = 8 := by omega
            rw [e] at HL
            exact HL.out.last
          clear HL
          go_wp2
          exact ⟨⟨i + 1, _, _, _, hlt, by simp, HT, HJ, HB⟩, by simp [intOf]; omega⟩
    · have HJ : Hid (L1 256 fb fu ft) := by
        have e : i = 256 := by omega
        rw [e] at HL
        exact HL.out
      clear HL
      have hnl : ¬ ((i : Int) < 256) := by omega
      go_wp2
      go_loopw [48] (fun u wr => ∃ (i : Nat) (fm : Nat → Nat), i ≤ 256 ∧ u = .int .i64 i ∧ Hid (Tabs wr g fb fu ft fm (fun _ => 0)) ∧ Hid (∀ x, x < i → fm x = mixv x) ∧ Hid (Below g W wr)) (fun u _ => 256 - (intOf u).toNat)
      case atStart => exact ⟨0, _, by omega, rfl, HT, (fun x hx => by omega), HB⟩
      case round =>
        clear HT HB
        obtain ⟨x, fm, hx, rfl, HT, HM, HB⟩ := hrel
        by_cases hxl : x < 256
        · have hw : (x : Int) % 256 = (x : Int) := by omega
          have hi1 : (0 : Int) ≤ (x : Int) := by omega
          have hi2 : (x : Int) < 256 := by omega
          have HX : Hid (∀ w, Tabs w g fb fu ft fm (fun _ => 0) → Calls Tryz.prog 24 #[.pointer (some ⟨g, 0, none⟩), .int .u8 (x : Int)] w fun e w' => e = .returned (.int .u64 ((mixv x : Nat) : Int)) ∧ Below w.heap.size w w') := fun w h => mixed_any g x tmv tmv_lt hxl w h.lt (fun k hk => by have := h.times hk hxl; rw [HJ.out.t k x hk hxl] at this; exact this)
          generalize hy : mixv x = y at *
          have HY : Hid (mixv x = y) := hy
          clear hy
          have hw2 : IntKind.u8.wrap (x : Int) = (x : Int) := by rw [IntKind.wrap_u8']; omega
          go_wp2
          go_region_held3 (fun _ => True) (exact True.intro) ((go_at_call 24; refine (HX.out wr.drew HT.out).mono ?_; rintro e w3 ⟨rfl, hb3⟩; have R3 : Hid (Tabs w3 g fb fu ft fm (fun _ => 0)) := Tabs.below (w := wr.drew) HT.out hb3; have c1 := R3.out.mix hxl; have z1 := R3.out.frozen (2560 + x)))
          have R4 : Hid (Tabs (w3.setCell ⟨g, 2560 + x, none⟩ (.int .u64 (y : Int))) g fb fu ft (upd fm x y) (fun _ => 0)) := R3.out.setMix hxl y
          have D4 : Hid (Below g W (w3.setCell ⟨g, 2560 + x, none⟩ (.int .u64 (y : Int)))) := (HB.out.drew.trans (hb3.mono (Nat.le_of_lt HT.out.lt))).setCell (Nat.le_refl _) _
          clear c1 z1 hb3
          go_wp2
          refine ⟨⟨x + 1, _, hxl, by simp, R4, (fun p hp => ?_), D4⟩, by simp [intOf]; omega⟩
          unfold upd
          by_cases e : p = x
          · rw [if_pos e, e]; exact HY.out.symm
          · rw [if_neg e]; exact HM.out p (by omega)
        · have HM2 : Hid (∀ x, x < 256 → fm x = mixv x) := (fun p hp => HM.out p (by omega))
          clear HM
          have hnl2 : ¬ ((x : Int) < 256) := by omega
          go_wp2
          go_loopw [61] (fun u wr => ∃ (i : Nat) (fn : Nat → Nat), i ≤ 256 ∧ u = .int .i64 i ∧ Hid (Tabs wr g fb fu ft fm fn) ∧ Hid (∀ x, x < i → fn x = unmixv x) ∧ Hid (Below g W wr)) (fun u _ => 256 - (intOf u).toNat)
          case atStart => exact ⟨0, _, by omega, rfl, HT, (fun x hx => by omega), HB⟩
          case round =>
            clear HT HB
            obtain ⟨p, fn, hp, rfl, HT, HM, HB⟩ := hrel
            by_cases hpl : p < 256
            · have hw : (p : Int) % 256 = (p : Int) := by omega
              have hi1 : (0 : Int) ≤ (p : Int) := by omega
              have hi2 : (p : Int) < 256 := by omega
              have HX : Hid (∀ w, Tabs w g fb fu ft fm fn → Calls Tryz.prog 25 #[.pointer (some ⟨g, 0, none⟩), .int .u8 (p : Int)] w fun e w' => e = .returned (.int .u64 ((unmixv p : Nat) : Int)) ∧ Below w.heap.size w w') := fun w h => by
                refine (unmixed_any g p tmv tmv_lt mixv mixv_lt hpl w (fun x hx => by have := h.times (k := 3) (by decide) hx; rw [HJ.out.t 3 x (by decide) hx] at this; exact this) (fun x hx => by rw [h.mix hx, HM2.out x hx])).mono ?_
                rintro e w' ⟨rfl, k, rfl⟩
                exact ⟨rfl, below_drewN (Below.refl _ _) k⟩
              generalize hy : unmixv p = y at *
              have HY : Hid (unmixv p = y) := hy
              clear hy
              have hw2 : IntKind.u8.wrap (p : Int) = (p : Int) := by rw [IntKind.wrap_u8']; omega
              go_wp2
              go_region_held3 (fun _ => True) (exact True.intro) ((go_at_call 25; refine (HX.out wr.drew HT.out).mono ?_; rintro e w3 ⟨rfl, hb3⟩; have R3 : Hid (Tabs w3 g fb fu ft fm fn) := Tabs.below (w := wr.drew) HT.out hb3; have c1 := R3.out.unmix hpl; have z1 := R3.out.frozen (2816 + p)))
              have R4 : Hid (Tabs (w3.setCell ⟨g, 2816 + p, none⟩ (.int .u64 (y : Int))) g fb fu ft fm (upd fn p y)) := R3.out.setUnmix hpl y
              have D4 : Hid (Below g W (w3.setCell ⟨g, 2816 + p, none⟩ (.int .u64 (y : Int)))) := (HB.out.drew.trans (hb3.mono (Nat.le_of_lt HT.out.lt))).setCell (Nat.le_refl _) _
              clear c1 z1 hb3
              go_wp2
              refine ⟨⟨p + 1, _, hpl, by simp, R4, (fun q hq => ?_), D4⟩, by simp [intOf]; omega⟩
              unfold upd
              by_cases e : q = p
              · rw [if_pos e, e]; exact HY.out.symm
              · rw [if_neg e]; exact HM.out q (by omega)
            · have HM3 : Hid (∀ x, x < 256 → fn x = unmixv x) := (fun q hq => HM.out q (by omega))
              clear HM
              have hnl3 : ¬ ((p : Int) < 256) := by omega
              go_wp2
              go_ret
              refine ⟨g, rfl, Nat.le_of_eq HG.out, ?_, by rw [HG.out]; exact HB.out⟩
              exact tab_of HT.out HJ.out HM2.out HM3.out
end Go.Proofs.YtopmkooegpaeaaaGreat
