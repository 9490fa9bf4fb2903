/- The state of 64 bytes; the contracts of shuffle, unshuffle, addPlaces, stepP and stepQ, over the seat's translation. -/
import Derived.Test.YtopmkooegpaeaaaGreatPmH
import Derived.Deep.MidRow
import Derived.Lib.LazyBuf
namespace Go.Proofs.YtopmkooegpaeaaaGreat
open Go.RowKit

/-- A state's cells. -/
def st (f : Nat → Nat) : List Value := (List.range 64).map fun i => .int .u8 (f i : Nat)
theorem st_len (f : Nat → Nat) : (st f).length = 64 := by unfold st; simp
theorem st_get (f : Nat → Nat) (i : Nat) (h : i < 64) : (st f)[i]? = some (.int .u8 (f i : Nat)) := by unfold st; simp [h]
theorem st_congr {f f' : Nat → Nat} (h : ∀ i, i < 64 → f i = f' i) : st f = st f' := by
  unfold st
  refine List.map_congr_left fun i hi => ?_
  rw [h i (by simpa using hi)]
/-- A state that lies in the block b. -/
def Stt (w : World) (b : Nat) (f : Nat → Nat) : Prop := w.rowIs b 196 64 fun i => .int .u8 (f i : Nat)
section
variable {w w' : World} {b : Nat} {f f' : Nat → Nat}
theorem Stt.lt (h : Stt w b f) : b < w.heap.size := World.rowIs.lt h
theorem Stt.cell (h : Stt w b f) {i : Nat} (hi : i < 64) : w.cell? ⟨b, i, none⟩ = some (.int .u8 (f i : Nat)) := World.rowIs.cell h hi
theorem Stt.frozen (h : Stt w b f) (i : Nat) : w.frozen? ⟨b, i, none⟩ = false := World.rowIs.frozen h i
theorem Stt.below (h : Stt w b f) (hb : Below w.heap.size w w') : Stt w' b f := World.rowIs.of_block h (hb.block b h.lt)
theorem Stt.congr (h : Stt w b f) (e : ∀ i, i < 64 → f i = f' i) : Stt w b f' := World.rowIs.congr h fun i hi => by rw [e i hi]
theorem Stt.range (h : Stt w b f) : w.rangeAt b 0 (st f) := fun j v hv => by
  have hj : j < 64 := by
    have := (List.getElem?_eq_some_iff.1 hv).1
    rwa [st_len] at this
  rw [st_get f j hj] at hv
  cases hv
  rw [Nat.zero_add]
  exact h.cell hj
theorem Stt.there (h : Stt w b f) : w.there b 0 64 := fun j hj => by
  rw [Nat.zero_add]
  exact ⟨by rw [h.cell hj]; rfl, h.frozen j⟩
theorem Stt.set (h : Stt w b f) (i v : Nat) : Stt (w.setCell ⟨b, i, none⟩ (.int .u8 (v : Nat))) b (upd f i v) := by
  refine (World.rowIs.set h i _).congr fun p hp => ?_
  unfold upd
  by_cases e : p = i
  · rw [if_pos e, if_pos e]
  · rw [if_neg e, if_neg e]
theorem Stt.setAll (h : Stt w b f) (f' : Nat → Nat) : Stt (w.setCells b 0 (st f')) b f' := by
  refine (Go.rowIs_setCells (st f') 0 w _ h).congr fun p hp => ?_
  rw [st_len, if_pos (by omega)]
  have := st_get f' p hp
  simp only [Nat.sub_zero]
  simp [this]
theorem Stt.setOther (h : Stt w b f) {a : Addr} (ha : b ≠ a.block) (v : Value) : Stt (w.setCell a v) b f := World.rowIs.setOther h ha v
theorem Stt.setAllOther (h : Stt w b f) {b' : Nat} (hne : b ≠ b') (vs : List Value) : Stt (w.setCells b' 0 vs) b f := Go.rowIs_setCells_other hne vs 0 w h
theorem Stt.alloc (h : Stt w b f) (o : Obj) : Stt (w.alloc o) b f := World.rowIs.alloc h o
end
theorem Stt.new (w : World) (f : Nat → Nat) : Stt (w.alloc (.cells (st f).toArray 196)) w.heap.size f := by
  have := World.rowIs_alloc w (st f).toArray 196 (fun i => .int .u8 (f i : Nat)) (fun i hi => by
    have : i < 64 := by simpa [st_len] using hi
    simpa using st_get f i this)
  have e : (st f).toArray.size = 64 := by simp [st_len]
  rw [e] at this
  exact this
theorem st_zero : (st fun _ => 0).toArray = #[.int .u8 0, .int .u8 0, .int .u8 0, .int .u8 0, .int .u8 0, .int .u8 0, .int .u8 0, .int .u8 0, .int .u8 0, .int .u8 0, .int .u8 0, .int .u8 0, .int .u8 0, .int .u8 0, .int .u8 0, .int .u8 0, .int .u8 0, .int .u8 0, .int .u8 0, .int .u8 0, .int .u8 0, .int .u8 0, .int .u8 0, .int .u8 0, .int .u8 0, .int .u8 0, .int .u8 0, .int .u8 0, .int .u8 0, .int .u8 0, .int .u8 0, .int .u8 0, .int .u8 0, .int .u8 0, .int .u8 0, .int .u8 0, .int .u8 0, .int .u8 0, .int .u8 0, .int .u8 0, .int .u8 0, .int .u8 0, .int .u8 0, .int .u8 0, .int .u8 0, .int .u8 0, .int .u8 0, .int .u8 0, .int .u8 0, .int .u8 0, .int .u8 0, .int .u8 0, .int .u8 0, .int .u8 0, .int .u8 0, .int .u8 0, .int .u8 0, .int .u8 0, .int .u8 0, .int .u8 0, .int .u8 0, .int .u8 0, .int .u8 0, .int .u8 0] := rfl
theorem zero_st (w : World) : (zeroValue 196).run Tryz.prog w = .ok (.agg (st fun _ => 0).toArray) w := by rw [st_zero]; exact Tryz.zeroValue196 w
theorem info_st (f : Nat → Nat) : (Tryz.prog.info? 196).map (·.size) = some (st f).length := by rw [st_len]; kernel_rfl
theorem info_st2 (f : Nat → Nat) : (Tryz.prog.info? 196).map (·.size) = some (st f).toArray.size := by rw [List.size_toArray, st_len]; kernel_rfl
theorem one_st (f : Nat → Nat) : (st f).toArray.all (·.oneCell') = true := all_oneCell_toArray fun v hv => by
  unfold st at hv
  obtain ⟨i, _, rfl⟩ := List.mem_map.1 hv
  rfl
theorem eta_st (f : Nat → Nat) : (Value.agg (st f).toArray).cells = (st f).toArray := rfl
/-- A single result that lives in a variable. -/
theorem results_cell1 {fn : Func} {p : Tmp} {ty : TypeId} {b : Nat} {v : Value} {tmps : Array Value} {P : Program} {w : World} (h : fn.results = #[.cell p ty]) (hp : tmps.getD p undef = .pointer (some ⟨b, 0, none⟩)) (hl : (loadVar ty ⟨b, 0, none⟩).run P w = .ok v w) :
    (results fn tmps).run P w = .ok v w := by
  have hp' : tmps[p]?.getD undef = .pointer (some ⟨b, 0, none⟩) := by rw [← hp]; simp
  simp only [results, h]
  simp [hp', asAddr, hl]
/-- A variable of the type is laid. -/
theorem wp_new {ops : Array Oper} {rest : List Oper} {o : Oper} {a : Act} {w : World} {Q : Exit → Act → World → Prop} (hg : o.guard = none) (ho : o.op = .alloc 196)
    (h : wpList Tryz.prog ops Q rest (a.put o.dst (.pointer (some ⟨w.heap.size, 0, none⟩))) (w.alloc (.cells (st fun _ => 0).toArray 196))) : wpList Tryz.prog ops Q (o :: rest) a w := by
  refine wpList_plain hg fun _ hK => ?_
  unfold Oper.wp execOp
  simp only [ho]
  simp [go_sem]
  exact hK _ _ h


/-- A column mixed, by its first rows. -/
def mcol (f tn : Nat → Nat) (c : Nat) : Nat → Nat
  | 0 => 0
  | r + 1 => mcol f tn c r ^^^ rl64 (mixv (bx (f ((8 * (c + tn r) + r) % 64)))) (8 * r)
theorem mcol_lt (f tn : Nat → Nat) (c : Nat) : ∀ r, mcol f tn c r < 2 ^ 64
  | 0 => by unfold mcol; decide
  | r + 1 => by
    unfold mcol
    exact Nat.xor_lt_two_pow (mcol_lt f tn c r) (rl64_lt _ _ (mixv_lt _))
/-- What a state is shuffled to. -/
def shf (f tn : Nat → Nat) (p : Nat) : Nat := mcol f tn (p / 8) 8 / 2 ^ (8 * (p % 8)) % 256
theorem shf_lt (f tn : Nat → Nat) (p : Nat) : shf f tn p < 256 := Nat.mod_lt _ (by decide)
/-- What lies in memory while a state is shuffled. -/
structure Sh (W w : World) (g b0 b1 b2 b3 : Nat) (f o : Nat → Nat) (t0 t1 t2 t3 t4 t5 t6 t7 : Value) : Prop where
  t : Tab w g
  s : Stt w b0 f
  c0 : w.cell? ⟨b1, 0, none⟩ = some t0
  c1 : w.cell? ⟨b1, 1, none⟩ = some t1
  c2 : w.cell? ⟨b1, 2, none⟩ = some t2
  c3 : w.cell? ⟨b1, 3, none⟩ = some t3
  c4 : w.cell? ⟨b1, 4, none⟩ = some t4
  c5 : w.cell? ⟨b1, 5, none⟩ = some t5
  c6 : w.cell? ⟨b1, 6, none⟩ = some t6
  c7 : w.cell? ⟨b1, 7, none⟩ = some t7
  r : Stt w b2 (fun _ => 0)
  o : Stt w b3 o
  d : Below W.heap.size W w
  n0 : b3 ≠ g
  n1 : b3 ≠ b0
  n2 : b3 ≠ b1
  n3 : b3 ≠ b2
  l2 : W.heap.size ≤ b2
  l3 : W.heap.size ≤ b3
section
variable {W w w' : World} {g b0 b1 b2 b3 : Nat} {f o : Nat → Nat} {t0 t1 t2 t3 t4 t5 t6 t7 : Value}
theorem cell_other {a : Addr} {b i : Nat} (h : a.block ≠ b) (v : Value) : (w.setCell ⟨b, i, none⟩ v).cell? a = w.cell? a := World.cell?_setCell_far w ⟨b, i, none⟩ a v (fun e => h e.symm)
theorem Sh.drew (h : Sh W w g b0 b1 b2 b3 f o t0 t1 t2 t3 t4 t5 t6 t7) : Sh W w.drew g b0 b1 b2 b3 f o t0 t1 t2 t3 t4 t5 t6 t7 :=
  ⟨h.t, h.s, h.c0, h.c1, h.c2, h.c3, h.c4, h.c5, h.c6, h.c7, h.r, h.o, h.d.drew, h.n0, h.n1, h.n2, h.n3, h.l2, h.l3⟩
theorem Sh.set (h : Sh W w g b0 b1 b2 b3 f o t0 t1 t2 t3 t4 t5 t6 t7) (i v : Nat) : Sh W (w.setCell ⟨b3, i, none⟩ (.int .u8 (v : Nat))) g b0 b1 b2 b3 f (upd o i v) t0 t1 t2 t3 t4 t5 t6 t7 :=
  ⟨World.rowIs.setOther h.t (fun e => h.n0 e.symm) _, h.s.setOther (fun e => h.n1 e.symm) _, by rw [cell_other (fun e => h.n2 e.symm)]; exact h.c0, by rw [cell_other (fun e => h.n2 e.symm)]; exact h.c1, by rw [cell_other (fun e => h.n2 e.symm)]; exact h.c2, by rw [cell_other (fun e => h.n2 e.symm)]; exact h.c3, by rw [cell_other (fun e => h.n2 e.symm)]; exact h.c4, by rw [cell_other (fun e => h.n2 e.symm)]; exact h.c5, by rw [cell_other (fun e => h.n2 e.symm)]; exact h.c6, by rw [cell_other (fun e => h.n2 e.symm)]; exact h.c7, h.r.setOther (fun e => h.n3 e.symm) _, h.o.set i v, h.d.setCell h.l3 _, h.n0, h.n1, h.n2, h.n3, h.l2, h.l3⟩
end
theorem sh_new (W : World) (g : Nat) (f : Nat → Nat) (t0 t1 t2 t3 t4 t5 t6 t7 : Value) (hT : Tab W g) :
    Sh W ((((W.alloc (Obj.cells (st f).toArray 196)).alloc (Obj.cells #[t0, t1, t2, t3, t4, t5, t6, t7] 68)).alloc (Obj.cells (st fun _ => 0).toArray 196)).alloc (Obj.cells (st fun _ => 0).toArray 196)) g W.heap.size (W.heap.size + 1) (W.heap.size + 1 + 1) (W.heap.size + 1 + 1 + 1) f (fun _ => 0) t0 t1 t2 t3 t4 t5 t6 t7 := by
  have hl := Tabs.lt hT
  refine ⟨(((World.rowIs.alloc hT _).alloc _).alloc _).alloc _, (((Stt.new W f).alloc _).alloc _).alloc _, by simp [go_sem], by simp [go_sem], by simp [go_sem], by simp [go_sem], by simp [go_sem], by simp [go_sem], by simp [go_sem], by simp [go_sem], ?_, ?_, ?_, by omega, by omega, by omega, by omega, by omega, by omega⟩
  · have := Stt.new ((W.alloc (Obj.cells (st f).toArray 196)).alloc (Obj.cells #[t0, t1, t2, t3, t4, t5, t6, t7] 68)) (fun _ => 0)
    simp only [World.size_alloc] at this
    exact this.alloc _
  · have := Stt.new (((W.alloc (Obj.cells (st f).toArray 196)).alloc (Obj.cells #[t0, t1, t2, t3, t4, t5, t6, t7] 68)).alloc (Obj.cells (st fun _ => 0).toArray 196)) (fun _ => 0)
    simp only [World.size_alloc] at this
    exact this
  · go_grown
set_option maxHeartbeats 3200000 in
set_option maxRecDepth 100000 in
theorem shuffle_core (g : Nat) (f tn : Nat → Nat) (t0 t1 t2 t3 t4 t5 t6 t7 : Value) (hf : ∀ i, f i < 256) (ht : ∀ r, tn r < 8)
    (hix : ∀ j : Nat, j < 8 → ∀ w, (Instr.index 68 (.agg #[t0, t1, t2, t3, t4, t5, t6, t7]) (.int .i64 (j : Int))).run Tryz.prog w = .ok (.int .i64 ((tn j : Nat) : Int)) w)
    (W : World) (hT : Tab W g) :
    Calls Tryz.prog 147 #[.pointer (some ⟨g, 0, none⟩), .agg (st f).toArray, .agg #[t0, t1, t2, t3, t4, t5, t6, t7]] W fun e w' => e = .returned (.agg (st (shf f tn)).toArray) ∧ Below W.heap.size W w' := by
  have HIX : Hid (∀ j : Nat, j < 8 → ∀ w, (Instr.index 68 (.agg #[t0, t1, t2, t3, t4, t5, t6, t7]) (.int .i64 (j : Int))).run Tryz.prog w = .ok (.int .i64 ((tn j : Nat) : Int)) w) := hix
  have HF : Hid (∀ i, f i < 256) := hf
  have HN : Hid (∀ r, tn r < 8) := ht
  have HS : Hid (Sh W ((((W.alloc (Obj.cells (st f).toArray 196)).alloc (Obj.cells #[t0, t1, t2, t3, t4, t5, t6, t7] 68)).alloc (Obj.cells (st fun _ => 0).toArray 196)).alloc (Obj.cells (st fun _ => 0).toArray 196)) g W.heap.size (W.heap.size + 1) (W.heap.size + 1 + 1) (W.heap.size + 1 + 1 + 1) f (fun _ => 0) t0 t1 t2 t3 t4 t5 t6 t7) := sh_new W g f t0 t1 t2 t3 t4 t5 t6 t7 hT
  clear hix hf ht hT
  go_enter Tryz.func147, Tryz.ntmps147
  go_wp2_with (refine wp_new rfl rfl ?_)
  generalize ((((W.alloc (Obj.cells (st f).toArray 196)).alloc (Obj.cells #[t0, t1, t2, t3, t4, t5, t6, t7] 68)).alloc (Obj.cells (st fun _ => 0).toArray 196)).alloc (Obj.cells (st fun _ => 0).toArray 196)) = w0 at *
  generalize W.heap.size + 1 + 1 + 1 = b3 at *
  generalize W.heap.size + 1 + 1 = b2 at *
  generalize W.heap.size + 1 = b1 at *
  generalize hb0 : W.heap.size = b0 at *
  have HB0 : Hid (W.heap.size = b0) := hb0
  clear hb0
  generalize hcs : (st f).toArray = cs at *
  clear hcs
  go_loopw [13] (fun u wr => ∃ (c : Nat) (o : Nat → Nat), c ≤ 8 ∧ u = .int .i64 c ∧ Hid (Sh W wr g b0 b1 b2 b3 f o t0 t1 t2 t3 t4 t5 t6 t7) ∧ Hid (∀ p, p < 8 * c → o p = shf f tn p)) (fun u _ => 8 - (intOf u).toNat)
  case atStart => exact ⟨0, _, by omega, rfl, HS, (fun p hp => by omega)⟩
  case round =>
    obtain ⟨c, o, hc, rfl, HS1, HO⟩ := hrel
    clear HS
    by_cases hcl : c < 8
    · have hci : (c : Int) < 8 := by omega
      have k0 := HS1.out.c0
      have k1 := HS1.out.c1
      have k2 := HS1.out.c2
      have k3 := HS1.out.c3
      have k4 := HS1.out.c4
      have k5 := HS1.out.c5
      have k6 := HS1.out.c6
      have k7 := HS1.out.c7
      go_wp2
      clear k0 k1 k2 k3 k4 k5 k6 k7
      go_loopw [9, 17] (fun v u w1 => ∃ r : Nat, r ≤ 8 ∧ v = .int .u64 ((mcol f tn c r : Nat) : Int) ∧ u = .int .i64 r ∧ Hid (Sh W w1 g b0 b1 b2 b3 f o t0 t1 t2 t3 t4 t5 t6 t7)) (fun _ u _ => 8 - (intOf u).toNat)
      case atStart => exact ⟨0, by omega, rfl, rfl, HS1⟩
      case round =>
        rename World => w1
        obtain ⟨r, hr, rfl, rfl, HS2⟩ := hrel
        clear HS1
        by_cases hrl : r < 8
        · have hix := HIX.out r hrl
          have hn := HN.out r
          have hq : (8 * (c + tn r) + r) % 64 < 64 := Nat.mod_lt _ (by decide)
          have HP : Hid (Same 152 #[.int .i64 ((c : Int) + ((tn r : Nat) : Int)), .int .i64 (r : Int)] (.int .i64 (((8 * (c + tn r) + r) % 64 : Nat) : Int))) := by have := pl_any (c + tn r) r (by omega) hrl; rwa [Int.natCast_add] at this
          have d1 := HS2.out.s.cell hq
          have hx := HF.out ((8 * (c + tn r) + r) % 64)
          have d2 := Tabs.box HS2.out.t hx
          have hy := bx_lt (f ((8 * (c + tn r) + r) % 64))
          have HA : Hid (∀ w, Tab w g → Calls Tryz.prog 72 #[.pointer (some ⟨g, 2560, none⟩), .int .i64 (r : Int), .int .u8 ((bx (f ((8 * (c + tn r) + r) % 64)) : Nat) : Int)] w fun e w' => e = .returned (.int .u64 ((rl64 (mixv (bx (f ((8 * (c + tn r) + r) % 64)))) (8 * r) : Nat) : Int)) ∧ w' = w) := fun w h => alone_any g 2560 r _ _ w hrl hy (mixv_lt _) (Tabs.mix h hy)
          have hz : bits .xor .u64 ((mcol f tn c r : Nat) : Int) ((rl64 (mixv (bx (f ((8 * (c + tn r) + r) % 64)))) (8 * r) : Nat) : Int) = ((mcol f tn c (r + 1) : Nat) : Int) := u64_xor_nat _ _ (mcol_lt f tn c r) (rl64_lt _ _ (mixv_lt _))
          generalize rl64 (mixv (bx (f ((8 * (c + tn r) + r) % 64)))) (8 * r) = q1 at *
          generalize bx (f ((8 * (c + tn r) + r) % 64)) = y at *
          generalize f ((8 * (c + tn r) + r) % 64) = x at *
          generalize (8 * (c + tn r) + r) % 64 = q at *
          generalize tn r = n at *
          generalize hv : mcol f tn c (r + 1) = v2 at *
          have HV : Hid (mcol f tn c (r + 1) = v2) := hv
          clear hv
          generalize mcol f tn c r = v1 at *
          have i1 : (0 : Int) ≤ (q : Int) := by omega
          have i2 : (q : Int) < 64 := by omega
          have i3 : (0 : Int) ≤ (x : Int) := by omega
          have i4 : (x : Int) < 256 := by omega
          have i5 : IntKind.i64.wrap ((c : Int) + (n : Int)) = (c : Int) + (n : Int) := by rw [IntKind.wrap_i64]; omega
          go_wp2
          go_region_held3 (fun w => w.cell? ⟨b0, q, none⟩ = some (.int .u8 (x : Int)) ∧ w.cell? ⟨g, x, none⟩ = some (.int .u8 (y : Int))) (go_keep) (first | (go_at_call 152; refine (HP.out.go _).mono ?_; rintro e w' ⟨rfl, rfl⟩) | (go_at_call 72; refine (HA.out w1.drew HS2.out.t).mono ?_; rintro e w' ⟨rfl, rfl⟩))
          go_wp2
          exact ⟨⟨r + 1, hrl, by rw [HV.out], by simp, HS2.out.drew⟩, by simp [intOf]; omega⟩
        · have HV : Hid (mcol f tn c r = mcol f tn c 8) := by rw [show r = 8 by omega]; exact (rfl : mcol f tn c 8 = mcol f tn c 8)
          have hv := mcol_lt f tn c r
          have hrn : ¬ ((r : Int) < 8) := by omega
          generalize mcol f tn c r = m at *
          go_wp2
          go_loopw [41] (fun u w1 => ∃ (r : Nat) (o : Nat → Nat), r ≤ 8 ∧ u = .int .i64 r ∧ Hid (Sh W w1 g b0 b1 b2 b3 f o t0 t1 t2 t3 t4 t5 t6 t7) ∧ Hid (∀ p, p < 8 * c + r → o p = shf f tn p)) (fun u _ => 8 - (intOf u).toNat)
          case atStart => exact ⟨0, _, by omega, rfl, HS2, (fun p hp => HO.out p (by omega))⟩
          case round =>
            clear HS2
            rename World => w2
            obtain ⟨j, o1, hj, rfl, HS3, HO1⟩ := hrel
            by_cases hjl : j < 8
            · have HP : Hid (Same 152 #[.int .i64 (c : Int), .int .i64 (j : Int)] (.int .i64 ((8 * c + j : Nat) : Int))) := by have := pl_any c j (by omega) hjl; rwa [Nat.mod_eq_of_lt (show 8 * c + j < 64 by omega)] at this
              have HA : Hid (Same 48 #[.int .u64 (m : Int), .int .i64 (j : Int)] (.int .u8 ((m / 2 ^ (8 * j) % 256 : Nat) : Int))) := at_any m j hjl
              have HZ : Hid (shf f tn (8 * c + j) = m / 2 ^ (8 * j) % 256) := by
                show shf f tn (8 * c + j) = m / 2 ^ (8 * j) % 256
                unfold shf
                rw [show (8 * c + j) / 8 = c by omega, show (8 * c + j) % 8 = j by omega, ← HV.out]
              have hq : 8 * c + j < 64 := by omega
              have d1 := HS3.out.o.cell hq
              have z1 := HS3.out.o.frozen (8 * c + j)
              generalize m / 2 ^ (8 * j) % 256 = y at *
              generalize hqq : 8 * c + j = q at *
              have HQ : Hid (8 * c + j = q) := hqq
              clear hqq
              have i1 : (0 : Int) ≤ (q : Int) := by omega
              have i2 : (q : Int) < 64 := by omega
              have i3 : (j : Int) < 8 := by omega
              go_wp2_with (first | (go_at_call 152; refine (HP.out.go _).mono ?_; rintro e w' ⟨rfl, rfl⟩) | (go_at_call 48; refine (HA.out.go _).mono ?_; rintro e w' ⟨rfl, rfl⟩))
              refine ⟨⟨j + 1, _, hjl, by simp, HS3.out.set q y, (fun p hp => ?_)⟩, by simp [intOf]; omega⟩
              unfold upd
              have e := HQ.out
              by_cases h : p = q
              · rw [if_pos h, h]; exact HZ.out.symm
              · rw [if_neg h]; exact HO1.out p (by omega)
            · have hjn : ¬ ((j : Int) < 8) := by omega
              go_wp2
              exact ⟨⟨c + 1, _, hcl, by simp, HS3, (fun p hp => HO1.out p (by omega))⟩, by simp [intOf]; omega⟩
    · have HF2 : Hid (∀ p, p < 64 → o p = shf f tn p) := (fun p hp => HO.out p (by omega))
      have hcn : ¬ ((c : Int) < 8) := by omega
      have HR : Hid (wr.rangeAt b3 0 (st o)) := HS1.out.o.range
      have HH : Hid (wr.there b2 0 (st o).toArray.size) := by rw [List.size_toArray, st_len]; exact HS1.out.r.there
      have HI1 : Hid ((Tryz.prog.info? 196).map (·.size) = some (st o).length) := info_st o
      have HI2 : Hid ((Tryz.prog.info? 196).map (·.size) = some (st o).toArray.size) := info_st2 o
      have HI3 : Hid ((st o).toArray.all (·.oneCell') = true) := one_st o
      have HC : Hid (st o = st o) := rfl
      generalize hcs2 : st o = cs2 at *
      replace HC : Hid (st o = cs2) := hcs2
      clear hcs2
      go_wp2_with (first | (refine wpList_load_mid rfl 196 _ rfl b3 0 rfl cs2 _ HR.out Tryz.underlying196 rfl HI1.out ?_) | (refine wpList_store_mid rfl 196 _ _ rfl b2 0 cs2.toArray rfl rfl HH.out HI2.out HI3.out ?_))
      have HX : Hid (Stt (wr.setCells b2 0 cs2) b2 o) := by rw [← HC.out]; exact HS1.out.r.setAll o
      have hld : (loadVar 196 ⟨b2, 0, none⟩).run Tryz.prog (wr.setCells b2 0 cs2) = .ok (.agg (st (shf f tn)).toArray) (wr.setCells b2 0 cs2) := by
        rw [← st_congr HF2.out]
        exact run_loadVar_mid _ b2 0 196 (st o) _ HX.out.range Tryz.underlying196 rfl (info_st o)
      refine bodyPost_ret (v := .agg (st (shf f tn)).toArray) ?_ rfl ⟨rfl, ?_⟩
      · exact results_cell1 Tryz.results147 rfl hld
      · exact below_setCells HS1.out.l2 _ _ _ HS1.out.d


/-- A column mixed back, by its first rows. -/
def ucol (f : Nat → Nat) (c : Nat) : Nat → Nat
  | 0 => 0
  | r + 1 => ucol f c r ^^^ rl64 (unmixv (f (8 * c + r))) (8 * r)
theorem ucol_lt (f : Nat → Nat) (c : Nat) : ∀ r, ucol f c r < 2 ^ 64
  | 0 => by unfold ucol; decide
  | r + 1 => by
    unfold ucol
    exact Nat.xor_lt_two_pow (ucol_lt f c r) (rl64_lt _ _ (unmixv_lt _))
def uval (f : Nat → Nat) (c r : Nat) : Nat := ubp 256 (ucol f c 8 / 2 ^ (8 * r) % 256)
/-- What a state is shuffled back to. -/
def ush (f tn : Nat → Nat) (p : Nat) : Nat := uval f ((p / 8 + 8 - tn (p % 8)) % 8) (p % 8)
theorem ush_of {f tn o : Nat → Nat} {c : Nat} (hc : c = 8) (ht : ∀ r, tn r < 8) (h : ∀ d r, d < c → r < 8 → o ((8 * (d + tn r) + r) % 64) = uval f d r) (p : Nat) (hp : p < 64) : o p = ush f tn p := by
  have := h ((p / 8 + 8 - tn (p % 8)) % 8) (p % 8) (by omega) (by omega)
  have hn := ht (p % 8)
  unfold ush
  rw [← this]
  congr 1
  generalize tn (p % 8) = n at *
  omega
theorem ush_step {f tn o : Nat → Nat} {c j q y : Nat} (ht : ∀ r, tn r < 8) (hc : c < 8) (hj : j < 8) (hq : (8 * (c + tn j) + j) % 64 = q) (hy : uval f c j = y)
    (h : (∀ d r, d < c → r < 8 → o ((8 * (d + tn r) + r) % 64) = uval f d r) ∧ ∀ s, s < j → o ((8 * (c + tn s) + s) % 64) = uval f c s) :
    (∀ d r, d < c → r < 8 → upd o q y ((8 * (d + tn r) + r) % 64) = uval f d r) ∧ ∀ s, s < j + 1 → upd o q y ((8 * (c + tn s) + s) % 64) = uval f c s := by
  have hnj := ht j
  refine ⟨fun d r hd hr => ?_, fun s hs => ?_⟩
  · have hnr := ht r
    unfold upd
    rw [if_neg, h.1 d r hd hr]
    intro e
    rw [← hq] at e
    by_cases er : r = j
    · rw [er] at e
      generalize tn j = k at *
      omega
    · generalize tn j = k at *
      generalize tn r = k2 at *
      omega
  · unfold upd
    by_cases es : s = j
    · rw [es, hq, if_pos rfl, hy]
    · have hns := ht s
      rw [if_neg, h.2 s (by omega)]
      intro e
      rw [← hq] at e
      generalize tn j = k at *
      generalize tn s = k2 at *
      omega
/-- A state with numbers added in a row, in its first c columns. -/
def apl (f : Nat → Nat) (row i c : Nat) (p : Nat) : Nat := if p % 8 = row ∧ p / 8 < c then f p ^^^ ((16 * (p / 8) + i) % 256) else f p
theorem apl_lt {f : Nat → Nat} (hf : ∀ p, f p < 256) (row i c p : Nat) : apl f row i c p < 256 := by
  unfold apl
  split
  · exact Nat.xor_lt_two_pow (n := 8) (hf p) (Nat.mod_lt _ (by decide))
  · exact hf p
set_option maxHeartbeats 1600000 in
set_option maxRecDepth 100000 in
theorem places_any (f : Nat → Nat) (row i : Nat) (hf : ∀ p, f p < 256) (hr : row < 8) (hi : i < 16) (W : World) :
    Calls Tryz.prog 149 #[.agg (st f).toArray, .int .i64 (row : Int), .int .i64 (i : Int)] W fun e w' => e = .returned (.agg (st (apl f row i 8)).toArray) ∧ Below W.heap.size W w' := by
  have HF : Hid (∀ p, f p < 256) := hf
  have H0 : Hid (Stt ((W.alloc (Obj.cells (st f).toArray 196)).alloc (Obj.cells (st fun _ => 0).toArray 196)) W.heap.size f ∧ Stt ((W.alloc (Obj.cells (st f).toArray 196)).alloc (Obj.cells (st fun _ => 0).toArray 196)) (W.heap.size + 1) (fun _ => 0) ∧ Below W.heap.size W ((W.alloc (Obj.cells (st f).toArray 196)).alloc (Obj.cells (st fun _ => 0).toArray 196))) := by
    refine ⟨(Stt.new W f).alloc _, ?_, by go_grown⟩
    have := Stt.new (W.alloc (Obj.cells (st f).toArray 196)) (fun _ => 0)
    simp only [World.size_alloc] at this
    exact this
  clear hf
  go_enter Tryz.func149, Tryz.ntmps149
  go_wp2_with (refine wp_new rfl rfl ?_)
  generalize (W.alloc (Obj.cells (st f).toArray 196)).alloc (Obj.cells (st fun _ => 0).toArray 196) = w0 at *
  have HN : Hid (W.heap.size ≠ W.heap.size + 1 ∧ W.heap.size ≤ W.heap.size ∧ W.heap.size ≤ W.heap.size + 1) := ⟨by omega, by omega, by omega⟩
  generalize W.heap.size + 1 = b1 at *
  generalize hb0 : W.heap.size = b0 at *
  have HB : Hid (W.heap.size = b0) := hb0
  clear hb0
  generalize (st f).toArray = cs at *
  go_loopw [8] (fun u wr => ∃ (c : Nat) (o : Nat → Nat), c ≤ 8 ∧ u = .int .i64 c ∧ Hid (Stt wr b0 o ∧ Stt wr b1 (fun _ => 0) ∧ Below b0 W wr) ∧ Hid (∀ p, p < 64 → o p = apl f row i c p)) (fun u _ => 8 - (intOf u).toNat)
  case atStart => exact ⟨0, _, by omega, rfl, H0, (fun p hp => by unfold apl; rw [if_neg (by omega)])⟩
  case round =>
    obtain ⟨c, o, hc, rfl, HS, HO⟩ := hrel
    clear H0
    by_cases hcl : c < 8
    · have HP : Hid (Same 152 #[.int .i64 (c : Int), .int .i64 (row : Int)] (.int .i64 ((8 * c + row : Nat) : Int))) := by have := pl_any c row (by omega) hr; rwa [Nat.mod_eq_of_lt (show 8 * c + row < 64 by omega)] at this
      have hq : 8 * c + row < 64 := by omega
      have d1 := HS.out.1.cell hq
      have z1 := HS.out.1.frozen (8 * c + row)
      have ho : o (8 * c + row) < 256 := by rw [HO.out _ hq]; exact apl_lt HF.out _ _ _ _
      have hx : bits .xor .u8 ((o (8 * c + row) : Nat) : Int) (16 * (c : Int) + (i : Int)) = ((o (8 * c + row) ^^^ ((16 * c + i) % 256) : Nat) : Int) := by
        have := u8_xor_nat (o (8 * c + row)) ((16 * c + i) % 256) ho (Nat.mod_lt _ (by decide))
        rw [← this, show (((16 * c + i) % 256 : Nat) : Int) = 16 * (c : Int) + (i : Int) by omega]
      have HZ : Hid (o (8 * c + row) ^^^ ((16 * c + i) % 256) = f (8 * c + row) ^^^ ((16 * c + i) % 256)) := by
        have e := HO.out _ hq
        unfold apl at e
        rw [if_neg (by omega)] at e
        rw [e]
        exact (rfl : f (8 * c + row) ^^^ ((16 * c + i) % 256) = f (8 * c + row) ^^^ ((16 * c + i) % 256))
      generalize o (8 * c + row) ^^^ ((16 * c + i) % 256) = y at *
      generalize o (8 * c + row) = x at *
      generalize hqq : 8 * c + row = q at *
      have HQ : Hid (8 * c + row = q) := hqq
      clear hqq
      have i1 : (0 : Int) ≤ (q : Int) := by omega
      have i2 : (q : Int) < 64 := by omega
      have i3 : (c : Int) < 8 := by omega
      go_wp2_with (first | (go_at_call 152; refine (HP.out.go _).mono ?_; rintro e w' ⟨rfl, rfl⟩))
      refine ⟨⟨c + 1, _, hcl, by simp, ⟨HS.out.1.set q y, HS.out.2.1.setOther (fun e => HN.out.1 e.symm) _, HS.out.2.2.setCell HN.out.2.1 _⟩, (fun p hp => ?_)⟩, by simp [intOf]; omega⟩
      have e := HQ.out
      unfold upd
      by_cases h : p = q
      · rw [if_pos h]
        unfold apl
        rw [if_pos (by omega), HZ.out, h, show q / 8 = c by omega]
      · rw [if_neg h, HO.out p hp]
        unfold apl
        by_cases h2 : p % 8 = row ∧ p / 8 < c
        · rw [if_pos h2, if_pos (by omega)]
        · rw [if_neg h2, if_neg (by omega)]
    · have HF2 : Hid (∀ p, p < 64 → o p = apl f row i 8 p) := (fun p hp => by rw [HO.out p hp, show c = 8 by omega])
      have hcn : ¬ ((c : Int) < 8) := by omega
      have HR : Hid (wr.rangeAt b0 0 (st o)) := HS.out.1.range
      have HH : Hid (wr.there b1 0 (st o).toArray.size) := by rw [List.size_toArray, st_len]; exact HS.out.2.1.there
      have HI1 : Hid ((Tryz.prog.info? 196).map (·.size) = some (st o).length) := info_st o
      have HI2 : Hid ((Tryz.prog.info? 196).map (·.size) = some (st o).toArray.size) := info_st2 o
      have HI3 : Hid ((st o).toArray.all (·.oneCell') = true) := one_st o
      have HC : Hid (st o = st o) := rfl
      generalize hcs2 : st o = cs2 at *
      replace HC : Hid (st o = cs2) := hcs2
      clear hcs2
      go_wp2_with (first | (refine wpList_load_mid rfl 196 _ rfl b0 0 rfl cs2 _ HR.out Tryz.underlying196 rfl HI1.out ?_) | (refine wpList_store_mid rfl 196 _ _ rfl b1 0 cs2.toArray rfl rfl HH.out HI2.out HI3.out ?_))
      have HX : Hid (Stt (wr.setCells b1 0 cs2) b1 o) := by rw [← HC.out]; exact HS.out.2.1.setAll o
      have hld : (loadVar 196 ⟨b1, 0, none⟩).run Tryz.prog (wr.setCells b1 0 cs2) = .ok (.agg (st (apl f row i 8)).toArray) (wr.setCells b1 0 cs2) := by
        rw [← st_congr HF2.out]
        exact run_loadVar_mid _ b1 0 196 (st o) _ HX.out.range Tryz.underlying196 rfl (info_st o)
      refine bodyPost_ret (v := .agg (st (apl f row i 8)).toArray) ?_ rfl ⟨rfl, ?_⟩
      · exact results_cell1 Tryz.results149 rfl hld
      · rw [HB.out]
        exact below_setCells HN.out.2.2 _ _ _ HS.out.2.2


/-- What a round of the way P adds. -/
def adP (f : Nat → Nat) (i : Nat) : Nat → Nat := apl f 0 i 8
/-- What a round of the way Q adds. -/
def adQ (f : Nat → Nat) (i : Nat) : Nat → Nat := apl (fun p => f p ^^^ 255) 7 i 8
theorem adP_lt {f : Nat → Nat} (hf : ∀ p, f p < 256) (i p : Nat) : adP f i p < 256 := apl_lt hf 0 i 8 p
theorem not_lt {f : Nat → Nat} (hf : ∀ p, f p < 256) (p : Nat) : f p ^^^ 255 < 256 := Nat.xor_lt_two_pow (n := 8) (hf p) (by decide)
theorem adQ_lt {f : Nat → Nat} (hf : ∀ p, f p < 256) (i p : Nat) : adQ f i p < 256 := apl_lt (not_lt hf) 7 i 8 p
theorem two_new (f : Nat → Nat) (W : World) : Stt ((W.alloc (Obj.cells (st f).toArray 196)).alloc (Obj.cells (st fun _ => 0).toArray 196)) W.heap.size f ∧ Stt ((W.alloc (Obj.cells (st f).toArray 196)).alloc (Obj.cells (st fun _ => 0).toArray 196)) (W.heap.size + 1) (fun _ => 0) ∧ Below W.heap.size W ((W.alloc (Obj.cells (st f).toArray 196)).alloc (Obj.cells (st fun _ => 0).toArray 196)) := by
  refine ⟨(Stt.new W f).alloc _, ?_, by go_grown⟩
  have := Stt.new (W.alloc (Obj.cells (st f).toArray 196)) (fun _ => 0)
  simp only [World.size_alloc] at this
  exact this
set_option maxHeartbeats 1600000 in
set_option maxRecDepth 100000 in
theorem stepP_any (f : Nat → Nat) (i : Nat) (hf : ∀ p, f p < 256) (hi : i < 16) (W : World) :
    Calls Tryz.prog 148 #[.agg (st f).toArray, .int .i64 (i : Int)] W fun e w' => e = .returned (.agg (st (adP f i)).toArray) ∧ Below W.heap.size W w' := by
  have HA : Hid (∀ W, Calls Tryz.prog 149 #[.agg (st f).toArray, .int .i64 0, .int .i64 (i : Int)] W fun e w' => e = .returned (.agg (st (adP f i)).toArray) ∧ Below (World.heap W).size W w') := fun W => places_any f 0 i hf (by decide) hi W
  have H0 := two_new f W
  have HR : Hid (World.rangeAt ((W.alloc (Obj.cells (st f).toArray 196)).alloc (Obj.cells (st fun _ => 0).toArray 196)) W.heap.size 0 (st f)) := H0.1.range
  have HI : Hid ((Tryz.prog.info? 196).map (·.size) = some (st f).length) := info_st f
  have HT : Hid (Stt ((W.alloc (Obj.cells (st f).toArray 196)).alloc (Obj.cells (st fun _ => 0).toArray 196)) (W.heap.size + 1) (fun _ => 0) ∧ Below W.heap.size W ((W.alloc (Obj.cells (st f).toArray 196)).alloc (Obj.cells (st fun _ => 0).toArray 196))) := ⟨H0.2.1, H0.2.2⟩
  have HI2 : Hid ((Tryz.prog.info? 196).map (·.size) = some (st (adP f i)).toArray.size) := info_st2 _
  have HI3 : Hid ((st (adP f i)).toArray.all (·.oneCell') = true) := one_st _
  have HL : Hid ((st (adP f i)).toArray.size = 64) := by rw [List.size_toArray, st_len]; exact (rfl : 64 = 64)
  have HC : Hid (st (adP f i) = st (adP f i)) := rfl
  clear H0
  generalize hcs : st (adP f i) = cs at *
  replace HC : Hid (st (adP f i) = cs) := hcs
  clear hcs
  generalize st f = ds at *
  go_enter Tryz.func148, Tryz.ntmps148
  go_wp2_with (first | (refine wp_new rfl rfl ?_) | (refine wpList_load_mid rfl 196 _ rfl W.heap.size 0 rfl ds _ HR.out Tryz.underlying196 rfl HI.out ?_) | (go_at_call 149; refine (HA.out _).mono ?_; rintro e w1 ⟨rfl, hb1⟩; have R1 : Hid (Stt w1 (W.heap.size + 1) (fun _ => 0)) := HT.out.1.below hb1; have D1 : Hid (Below W.heap.size W w1) := HT.out.2.trans (hb1.mono HT.out.2.size)) | (refine wpList_store_mid rfl 196 _ _ rfl (W.heap.size + 1) 0 cs.toArray rfl rfl (by rw [HL.out]; exact R1.out.there) HI2.out HI3.out ?_))
  have HX : Hid (Stt (w1.setCells (W.heap.size + 1) 0 cs) (W.heap.size + 1) (adP f i)) := by rw [← HC.out]; exact R1.out.setAll _
  have hld : (loadVar 196 ⟨W.heap.size + 1, 0, none⟩).run Tryz.prog (w1.setCells (W.heap.size + 1) 0 cs) = .ok (.agg cs.toArray) (w1.setCells (W.heap.size + 1) 0 cs) := run_loadVar_mid _ _ 0 196 cs _ (by have := HX.out.range; rwa [HC.out] at this) Tryz.underlying196 rfl (by have := info_st (adP f i); rwa [HC.out] at this)
  exact bodyPost_ret (v := .agg cs.toArray) (results_cell1 Tryz.results148 rfl hld) rfl ⟨rfl, below_setCells (Nat.le_succ _) _ _ _ D1.out⟩
set_option maxHeartbeats 1600000 in
set_option maxRecDepth 100000 in
theorem stepQ_any (f : Nat → Nat) (i : Nat) (hf : ∀ p, f p < 256) (hi : i < 16) (W : World) :
    Calls Tryz.prog 151 #[.agg (st f).toArray, .int .i64 (i : Int)] W fun e w' => e = .returned (.agg (st (adQ f i)).toArray) ∧ Below W.heap.size W w' := by
  have HF : Hid (∀ p, f p < 256) := hf
  have HI0 : Hid (i < 16) := hi
  have HT : Hid (Stt ((W.alloc (Obj.cells (st f).toArray 196)).alloc (Obj.cells (st fun _ => 0).toArray 196)) W.heap.size f ∧ Stt ((W.alloc (Obj.cells (st f).toArray 196)).alloc (Obj.cells (st fun _ => 0).toArray 196)) (W.heap.size + 1) (fun _ => 0) ∧ Below W.heap.size W ((W.alloc (Obj.cells (st f).toArray 196)).alloc (Obj.cells (st fun _ => 0).toArray 196))) := two_new f W
  clear hf hi
  go_enter Tryz.func151, Tryz.ntmps151
  go_wp2_with (first | (refine wp_new rfl rfl ?_))
  generalize ((W.alloc (Obj.cells (st f).toArray 196)).alloc (Obj.cells (st fun _ => 0).toArray 196)) = w0 at *
  generalize hb1 : W.heap.size + 1 = b1 at *
  generalize hb0 : W.heap.size = b0 at *
  have HB : Hid (W.heap.size = b0 ∧ b0 + 1 = b1) := ⟨hb0, hb1⟩
  clear hb0 hb1
  generalize (st f).toArray = cs0 at *
  go_loopw [6] (fun u wr => ∃ (n : Nat) (o : Nat → Nat), n ≤ 64 ∧ u = .int .i64 n ∧ Hid (Stt wr b0 o ∧ Stt wr b1 (fun _ => 0) ∧ Below b0 W wr) ∧ Hid (∀ p, p < 64 → o p = if p < n then f p ^^^ 255 else f p)) (fun u _ => 64 - (intOf u).toNat)
  case atStart => exact ⟨0, _, by omega, rfl, HT, (fun p hp => by rw [if_neg (by omega)])⟩
  case round =>
    obtain ⟨n, o, hn, rfl, HS, HO⟩ := hrel
    clear HT
    by_cases hnl : n < 64
    · have d1 := HS.out.1.cell hnl
      have z1 := HS.out.1.frozen n
      have HE : Hid (o n = f n) := by have := HO.out n hnl; rw [if_neg (by omega)] at this; exact this
      have hx : bits .xor .u8 ((o n : Nat) : Int) 255 = ((f n ^^^ 255 : Nat) : Int) := by rw [HE.out]; exact u8_xor_nat (f n) 255 (HF.out n) (by decide)
      generalize o n = x at *
      generalize hy : f n ^^^ 255 = y at *
      have HY : Hid (f n ^^^ 255 = y) := hy
      clear hy
      have i1 : (0 : Int) ≤ (n : Int) := by omega
      have i2 : (n : Int) < 64 := by omega
      go_wp2
      refine ⟨⟨n + 1, _, hnl, by simp, ⟨HS.out.1.set n y, HS.out.2.1.setOther (fun e => absurd (show b1 = b0 from e) (by have := HB.out.2; omega)) _, HS.out.2.2.setCell (Nat.le_refl _) _⟩, (fun p hp => ?_)⟩, by simp [intOf]; omega⟩
      unfold upd
      by_cases h : p = n
      · rw [if_pos h, if_pos (by omega), h]; exact HY.out.symm
      · rw [if_neg h, HO.out p hp]
        by_cases h2 : p < n
        · rw [if_pos h2, if_pos (by omega)]
        · rw [if_neg h2, if_neg (by omega)]
    · have hnn : ¬ ((n : Int) < 64) := by omega
      have HE : Hid (st o = st (fun p => f p ^^^ 255)) := st_congr fun p hp => by rw [HO.out p hp, if_pos (by omega)]
      have HA : Hid (∀ W, Calls Tryz.prog 149 #[.agg (st o).toArray, .int .i64 7, .int .i64 (i : Int)] W fun e w' => e = .returned (.agg (st (adQ f i)).toArray) ∧ Below (World.heap W).size W w') := fun W => by rw [HE.out]; exact places_any (fun p => f p ^^^ 255) 7 i (not_lt HF.out) (by decide) HI0.out W
      have HR : Hid (World.rangeAt wr b0 0 (st o)) := HS.out.1.range
      have HI : Hid ((Tryz.prog.info? 196).map (·.size) = some (st o).length) := info_st o
      have HI2 : Hid ((Tryz.prog.info? 196).map (·.size) = some (st (adQ f i)).toArray.size) := info_st2 _
      have HI3 : Hid ((st (adQ f i)).toArray.all (·.oneCell') = true) := one_st _
      have HL : Hid ((st (adQ f i)).toArray.size = 64) := by rw [List.size_toArray, st_len]; exact (rfl : 64 = 64)
      have HC : Hid (st (adQ f i) = st (adQ f i)) := rfl
      clear HO HE
      generalize hcs : st (adQ f i) = cs at *
      replace HC : Hid (st (adQ f i) = cs) := hcs
      clear hcs
      generalize st o = ds at *
      go_wp2_with (first | (refine wpList_load_mid rfl 196 _ rfl b0 0 rfl ds _ HR.out Tryz.underlying196 rfl HI.out ?_) | (go_at_call 149; refine (HA.out _).mono ?_; rintro e w1 ⟨rfl, hb1⟩; have R1 : Hid (Stt w1 b1 (fun _ => 0)) := HS.out.2.1.below hb1; have D1 : Hid (Below b0 W w1) := HS.out.2.2.trans (hb1.mono (Nat.le_of_lt HS.out.1.lt))) | (refine wpList_store_mid rfl 196 _ _ rfl b1 0 cs.toArray rfl rfl (by rw [HL.out]; exact R1.out.there) HI2.out HI3.out ?_))
      have HX : Hid (Stt (w1.setCells b1 0 cs) b1 (adQ f i)) := by rw [← HC.out]; exact R1.out.setAll _
      have hld : (loadVar 196 ⟨b1, 0, none⟩).run Tryz.prog (w1.setCells b1 0 cs) = .ok (.agg (st (adQ f i)).toArray) (w1.setCells b1 0 cs) := run_loadVar_mid _ _ 0 196 (st (adQ f i)) _ HX.out.range Tryz.underlying196 rfl (info_st (adQ f i))
      refine bodyPost_ret (v := .agg (st (adQ f i)).toArray) (results_cell1 Tryz.results151 rfl hld) rfl ⟨rfl, ?_⟩
      rw [HB.out.1]
      exact below_setCells (by have := HB.out.2; omega) _ _ _ D1.out
end Go.Proofs.YtopmkooegpaeaaaGreat
