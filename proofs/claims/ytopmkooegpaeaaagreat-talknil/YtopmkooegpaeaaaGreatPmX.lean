/- The contracts of perm's forth and back, over the seat's translation. -/
import Derived.Test.YtopmkooegpaeaaaGreatPmS
import Derived.Test.YtopmkooegpaeaaaGreatPmN
import Derived.Test.YtopmkooegpaeaaaGreatPeel
namespace Go.Proofs.YtopmkooegpaeaaaGreat
open Go.RowKit

theorem ubp_lt : ∀ n y, n ≤ 256 → ubp n y < 256
  | 0, _, _ => by unfold ubp; decide
  | n + 1, y, h => by
    unfold ubp
    split
    · omega
    · exact ubp_lt n y (by omega)
theorem ush_lt (f tn : Nat → Nat) (p : Nat) : ush f tn p < 256 := ubp_lt 256 _ (Nat.le_refl _)
/-- How far the rows are turned. -/
def tnP (r : Nat) : Nat := r % 8
def tnQ (r : Nat) : Nat := if r < 4 then 2 * r + 1 else 2 * (r - 4) % 8
theorem tnP_lt (r : Nat) : tnP r < 8 := Nat.mod_lt _ (by decide)
theorem tnQ_lt (r : Nat) : tnQ r < 8 := by
  unfold tnQ
  split
  · omega
  · omega
set_option maxRecDepth 100000 in
theorem ixP (j : Nat) (hj : j < 8) : ∀ w, (Instr.index 68 (.agg #[.int .i64 0, .int .i64 1, .int .i64 2, .int .i64 3, .int .i64 4, .int .i64 5, .int .i64 6, .int .i64 7]) (.int .i64 (j : Int))).run Tryz.prog w = .ok (.int .i64 ((tnP j : Nat) : Int)) w := by
  rcases lt8 hj with rfl | rfl | rfl | rfl | rfl | rfl | rfl | rfl
  · exact fun _ => by kernel_rfl
  · exact fun _ => by kernel_rfl
  · exact fun _ => by kernel_rfl
  · exact fun _ => by kernel_rfl
  · exact fun _ => by kernel_rfl
  · exact fun _ => by kernel_rfl
  · exact fun _ => by kernel_rfl
  · exact fun _ => by kernel_rfl
set_option maxRecDepth 100000 in
theorem ixQ (j : Nat) (hj : j < 8) : ∀ w, (Instr.index 68 (.agg #[.int .i64 1, .int .i64 3, .int .i64 5, .int .i64 7, .int .i64 0, .int .i64 2, .int .i64 4, .int .i64 6]) (.int .i64 (j : Int))).run Tryz.prog w = .ok (.int .i64 ((tnQ j : Nat) : Int)) w := by
  rcases lt8 hj with rfl | rfl | rfl | rfl | rfl | rfl | rfl | rfl
  · exact fun _ => by kernel_rfl
  · exact fun _ => by kernel_rfl
  · exact fun _ => by kernel_rfl
  · exact fun _ => by kernel_rfl
  · exact fun _ => by kernel_rfl
  · exact fun _ => by kernel_rfl
  · exact fun _ => by kernel_rfl
  · exact fun _ => by kernel_rfl
/-- A state behind the first rounds. -/
def fwd (ad : (Nat → Nat) → Nat → Nat → Nat) (tn f : Nat → Nat) : Nat → Nat → Nat
  | 0 => f
  | i + 1 => shf (ad (fwd ad tn f i) i) tn
/-- A state behind the first rounds back. -/
def bwd (ad : (Nat → Nat) → Nat → Nat → Nat) (tn f : Nat → Nat) : Nat → Nat → Nat
  | 0 => f
  | i + 1 => ad (ush (bwd ad tn f i) tn) (5 - i)
theorem fwd_lt (ad : (Nat → Nat) → Nat → Nat → Nat) (tn f : Nat → Nat) (_ : ∀ F i, (∀ p, F p < 256) → ∀ p, ad F i p < 256) (hf : ∀ p, f p < 256) : ∀ i p, fwd ad tn f i p < 256
  | 0, p => hf p
  | _ + 1, p => shf_lt _ _ p
theorem bwd_lt (ad : (Nat → Nat) → Nat → Nat → Nat) (tn f : Nat → Nat) (ha : ∀ F i, (∀ p, F p < 256) → ∀ p, ad F i p < 256) (hf : ∀ p, f p < 256) : ∀ i p, bwd ad tn f i p < 256
  | 0, p => hf p
  | _ + 1, p => ha _ _ (fun q => ush_lt _ _ q) p
theorem conv_st {w : World} {b : Nat} {f : Nat → Nat} (h : Stt w b f) (hf : ∀ p, f p < 256) : (convert 51 9 (.slice (some ⟨b, 0, none⟩) 64 64)).run Tryz.prog w = .ok (.string (txt f)) w := by
  have := run_convert_bytes_back (P := Tryz.prog) w 51 9 5 ⟨b, 0, none⟩ 64 ((List.range 64).map fun i => UInt8.ofNat (f i)) Tryz.underlying51 Tryz.underlying5 Tryz.underlying9 (fun j hj => by
    have hj' : j < 64 := by simpa using hj
    rw [Addr.add_mid, Nat.zero_add, h.cell hj']
    simp [Nat.mod_eq_of_lt (hf j)])
  rw [show ((List.range 64).map fun i => UInt8.ofNat (f i)).length = 64 by simp] at this
  exact this
/-- What lies in memory while a way goes on. -/
structure Fst (W w : World) (g b0 b1 : Nat) (f : Nat → Nat) (k t0 t1 t2 t3 t4 t5 t6 t7 : Value) : Prop where
  t : Tab w g
  k : w.cell? ⟨b0, 0, none⟩ = some k
  c0 : w.cell? ⟨b0, 1, none⟩ = some t0
  c1 : w.cell? ⟨b0, 2, none⟩ = some t1
  c2 : w.cell? ⟨b0, 3, none⟩ = some t2
  c3 : w.cell? ⟨b0, 4, none⟩ = some t3
  c4 : w.cell? ⟨b0, 5, none⟩ = some t4
  c5 : w.cell? ⟨b0, 6, none⟩ = some t5
  c6 : w.cell? ⟨b0, 7, none⟩ = some t6
  c7 : w.cell? ⟨b0, 8, none⟩ = some t7
  s : Stt w b1 f
  d : Below W.heap.size W w
  l : W.heap.size ≤ b1
  n0 : b0 ≠ b1
  n1 : g ≠ b1
  lb : b0 < w.heap.size
section
variable {W w w' : World} {g b0 b1 : Nat} {f : Nat → Nat} {k t0 t1 t2 t3 t4 t5 t6 t7 : Value}
theorem Fst.below (h : Fst W w g b0 b1 f k t0 t1 t2 t3 t4 t5 t6 t7) (hb : Below w.heap.size w w') : Fst W w' g b0 b1 f k t0 t1 t2 t3 t4 t5 t6 t7 :=
  have e : ∀ i, w'.cell? ⟨b0, i, none⟩ = w.cell? ⟨b0, i, none⟩ := fun i => hb.cell (p := ⟨b0, i, none⟩) h.lb
  ⟨Tabs.below h.t hb, (e 0).trans h.k, (e 1).trans h.c0, (e 2).trans h.c1, (e 3).trans h.c2, (e 4).trans h.c3, (e 5).trans h.c4, (e 6).trans h.c5, (e 7).trans h.c6, (e 8).trans h.c7, h.s.below hb, h.d.trans (hb.mono h.d.size), h.l, h.n0, h.n1, Nat.lt_of_lt_of_le h.lb hb.size⟩
theorem Fst.drew (h : Fst W w g b0 b1 f k t0 t1 t2 t3 t4 t5 t6 t7) : Fst W w.drew g b0 b1 f k t0 t1 t2 t3 t4 t5 t6 t7 :=
  ⟨h.t, h.k, h.c0, h.c1, h.c2, h.c3, h.c4, h.c5, h.c6, h.c7, h.s, h.d.drew, h.l, h.n0, h.n1, h.lb⟩
theorem Fst.setAll (h : Fst W w g b0 b1 f k t0 t1 t2 t3 t4 t5 t6 t7) (f' : Nat → Nat) : Fst W (w.setCells b1 0 (st f')) g b0 b1 f' k t0 t1 t2 t3 t4 t5 t6 t7 :=
  have e : ∀ i, (w.setCells b1 0 (st f')).cell? ⟨b0, i, none⟩ = w.cell? ⟨b0, i, none⟩ := fun i => World.cell?_setCells_out b1 _ 0 w ⟨b0, i, none⟩ (fun e => absurd e h.n0)
  ⟨rowIs_setCells_other h.n1 _ 0 w h.t, (e 0).trans h.k, (e 1).trans h.c0, (e 2).trans h.c1, (e 3).trans h.c2, (e 4).trans h.c3, (e 5).trans h.c4, (e 6).trans h.c5, (e 7).trans h.c6, (e 8).trans h.c7, h.s.setAll f', below_setCells h.l _ _ _ h.d, h.l, h.n0, h.n1, Nat.lt_of_lt_of_le h.lb (below_setCells (Nat.zero_le _) _ _ _ (Below.refl 0 w)).size⟩
end
theorem fst_new (W w1 : World) (g : Nat) (f : Nat → Nat) (k t0 t1 t2 t3 t4 t5 t6 t7 : Value) (hT : Tab W g) (hb : Below (W.heap.size + 1) (W.alloc (Obj.cells #[k, t0, t1, t2, t3, t4, t5, t6, t7] 187)) w1) :
    Fst W ((w1.alloc (Obj.cells (st fun _ => 0).toArray 196)).setCells w1.heap.size 0 (st f)) g W.heap.size w1.heap.size f k t0 t1 t2 t3 t4 t5 t6 t7 := by
  have hl := Tabs.lt hT
  have hs : W.heap.size + 1 ≤ w1.heap.size := by have := hb.size; simpa using this
  have e : ∀ i, w1.cell? ⟨W.heap.size, i, none⟩ = (W.alloc (Obj.cells #[k, t0, t1, t2, t3, t4, t5, t6, t7] 187)).cell? ⟨W.heap.size, i, none⟩ := fun i => hb.cell (p := ⟨W.heap.size, i, none⟩) (Nat.lt_succ_self _)
  have a : ∀ i, (w1.alloc (Obj.cells (st fun _ => 0).toArray 196)).cell? ⟨W.heap.size, i, none⟩ = w1.cell? ⟨W.heap.size, i, none⟩ := fun i => World.cell?_alloc_past _ W.heap.size i (by omega)
  have t1' : Tab w1 g := World.rowIs.of_block (World.rowIs.alloc hT (Obj.cells #[k, t0, t1, t2, t3, t4, t5, t6, t7] 187)) (hb.block g (by omega))
  have F0 : Fst W (w1.alloc (Obj.cells (st fun _ => 0).toArray 196)) g W.heap.size w1.heap.size (fun _ => 0) k t0 t1 t2 t3 t4 t5 t6 t7 := by
    refine ⟨World.rowIs.alloc t1' _, ?_, ?_, ?_, ?_, ?_, ?_, ?_, ?_, ?_, Stt.new w1 _, ?_, by omega, by omega, by omega, by simp; omega⟩
    all_goals first | (rw [a, e]; simp [go_sem]; done) | skip
    exact (((Below.refl _ _).alloc (Nat.le_refl _) _).trans (hb.mono (Nat.le_succ _))).alloc (by omega) _
  exact F0.setAll f
set_option maxHeartbeats 6400000 in
set_option maxRecDepth 100000 in
theorem forthP_ok (g : Nat) (s : ByteArray) (hs : s.size = 64) (W : World) (hT : Tab W g) : Calls Tryz.prog 135 #[.pointer (some ⟨g, 0, none⟩), .string s, .agg #[.func (.func 148) #[] #[], .int .i64 0, .int .i64 1, .int .i64 2, .int .i64 3, .int .i64 4, .int .i64 5, .int .i64 6, .int .i64 7]] W fun e w' => e = .returned (.tuple #[.string (txt (fwd adP tnP (bs s) 6)), .int .i64 0]) ∧ Below W.heap.size W w' := by
  have HB : Hid (∀ W, Calls Tryz.prog 146 #[.pointer (some ⟨g, 0, none⟩), .string s] W fun e w' => e = .returned (.tuple #[.agg (st (bs s)).toArray, .int .i64 0]) ∧ Below (World.heap W).size W w') := fun W => begin_ok g s hs W
  have HH : Hid (∀ w : World, (w.alloc (Obj.cells (st fun _ => 0).toArray 196)).there w.heap.size 0 (st (bs s)).toArray.size) := fun w => by
    rw [show (st (bs s)).toArray.size = 64 by rw [List.size_toArray, st_len]]
    exact (Stt.new w _).there
  have HI2 : Hid ((Tryz.prog.info? 196).map (·.size) = some (st (bs s)).toArray.size) := info_st2 _
  have HI3 : Hid ((st (bs s)).toArray.all (·.oneCell') = true) := one_st _
  have HN : Hid (∀ (ops : Array Oper) (rest : List Oper) (o : Oper) (a : Act) (w : World) (Q : Exit → Act → World → Prop), o.guard = none → o.op = .alloc 196 → wpList Tryz.prog ops Q rest (a.put o.dst (.pointer (some ⟨w.heap.size, 0, none⟩))) (w.alloc (.cells (st fun _ => 0).toArray 196)) → wpList Tryz.prog ops Q (o :: rest) a w) := fun ops rest o a w Q hg ho h => wp_new hg ho h
  have HF : Hid (∀ w1, Below (W.heap.size + 1) (W.alloc (Obj.cells #[.func (.func 148) #[] #[], .int .i64 0, .int .i64 1, .int .i64 2, .int .i64 3, .int .i64 4, .int .i64 5, .int .i64 6, .int .i64 7] 187)) w1 → Fst W ((w1.alloc (Obj.cells (st fun _ => 0).toArray 196)).setCells w1.heap.size 0 (st (bs s))) g W.heap.size w1.heap.size (bs s) (.func (.func 148) #[] #[]) (.int .i64 0) (.int .i64 1) (.int .i64 2) (.int .i64 3) (.int .i64 4) (.int .i64 5) (.int .i64 6) (.int .i64 7)) := fun w1 hb => fst_new W w1 g (bs s) _ _ _ _ _ _ _ _ _ hT hb
  clear hT
  generalize hcs : st (bs s) = cs at *
  generalize (st fun _ => 0) = zs at *
  go_enter Tryz.func135, Tryz.ntmps135
  go_wp2_with (first | (go_at_call 146; refine (HB.out _).mono ?_; rintro e w1 ⟨rfl, hb1⟩; have F1 : Hid (Fst W ((w1.alloc (Obj.cells zs.toArray 196)).setCells w1.heap.size 0 cs) g W.heap.size w1.heap.size (bs s) (.func (.func 148) #[] #[]) (.int .i64 0) (.int .i64 1) (.int .i64 2) (.int .i64 3) (.int .i64 4) (.int .i64 5) (.int .i64 6) (.int .i64 7)) := HF.out w1 (by simpa using hb1); clear hb1) | (refine HN.out _ _ _ _ _ _ rfl rfl ?_) | (refine wpList_store_mid rfl 196 _ _ rfl w1.heap.size 0 cs.toArray rfl rfl (HH.out w1) HI2.out HI3.out ?_))
  have HJ : Hid (∀ i, i < 6 → ∀ F : Nat → Nat, (∀ p, F p < 256) → ∀ w, Calls Tryz.prog 148 #[.agg (st F).toArray, .int .i64 ((i : Nat) : Int)] w fun e w' => e = .returned (.agg (st (adP F i)).toArray) ∧ Below w.heap.size w w') := fun i hi F hF w => stepP_any F i hF (by omega) w
  have HK : Hid (∀ F : Nat → Nat, (∀ p, F p < 256) → ∀ w, Tab w g → Calls Tryz.prog 147 #[.pointer (some ⟨g, 0, none⟩), .agg (st F).toArray, .agg #[.int .i64 0, .int .i64 1, .int .i64 2, .int .i64 3, .int .i64 4, .int .i64 5, .int .i64 6, .int .i64 7]] w fun e w' => e = .returned (.agg (st (shf F tnP)).toArray) ∧ Below w.heap.size w w') := fun F hF w h => shuffle_core g F tnP _ _ _ _ _ _ _ _ hF tnP_lt ixP w h
  have HL : Hid (∀ i p, fwd adP tnP (bs s) i p < 256) := fwd_lt adP tnP (bs s) (fun F i h p => adP_lt h i p) (bs_lt s)
  rw [← show fwd adP tnP (bs s) 0 = bs s from rfl] at F1
  generalize (w1.alloc (Obj.cells zs.toArray 196)).setCells w1.heap.size 0 cs = w2 at *
  generalize w1.heap.size = b1 at *
  clear HB HH HI2 HI3 HN HF
  generalize hb0 : W.heap.size = b0 at *
  clear hb0 hcs
  have hu : Tryz.prog.underlying 196 = some (.array 64 5) := Tryz.underlying196
  go_loopw [20] (fun u wr => ∃ i : Nat, i ≤ 6 ∧ u = .int .i64 i ∧ Hid (Fst W wr g b0 b1 (fwd adP tnP (bs s) i) (.func (.func 148) #[] #[]) (.int .i64 0) (.int .i64 1) (.int .i64 2) (.int .i64 3) (.int .i64 4) (.int .i64 5) (.int .i64 6) (.int .i64 7))) (fun u _ => 6 - (intOf u).toNat)
  case atStart => exact ⟨0, by omega, rfl, F1⟩
  case round =>
    obtain ⟨i, hi, rfl, F2⟩ := hrel
    clear F1
    by_cases hil : i < 6
    · have hii : (i : Int) < 6 := by omega
      have HR : Hid (fwd adP tnP (bs s) (i + 1) = fwd adP tnP (bs s) (i + 1)) := rfl
      have hF := HL.out i
      have HA : Hid (∀ w, Calls Tryz.prog 148 #[.agg (st (fwd adP tnP (bs s) i)).toArray, .int .i64 (i : Int)] w fun e w' => e = .returned (.agg (st (adP (fwd adP tnP (bs s) i) i)).toArray) ∧ Below w.heap.size w w') := HJ.out i hil _ hF
      have HS : Hid (∀ w, Tab w g → Calls Tryz.prog 147 #[.pointer (some ⟨g, 0, none⟩), .agg (st (adP (fwd adP tnP (bs s) i) i)).toArray, .agg #[.int .i64 0, .int .i64 1, .int .i64 2, .int .i64 3, .int .i64 4, .int .i64 5, .int .i64 6, .int .i64 7]] w fun e w' => e = .returned (.agg (st (fwd adP tnP (bs s) (i + 1))).toArray) ∧ Below w.heap.size w w') := HK.out _ (fun p => adP_lt hF i p)
      clear HJ HK HL hF HR
      have hi1 : (Tryz.prog.info? 196).map (·.size) = some (st (fwd adP tnP (bs s) i)).length := info_st _
      have R1 : Hid (wr.drew.rangeAt b1 0 (st (fwd adP tnP (bs s) i))) := F2.out.s.range
      have HX : Hid (∀ w, Fst W w g b0 b1 (fwd adP tnP (bs s) i) (.func (.func 148) #[] #[]) (.int .i64 0) (.int .i64 1) (.int .i64 2) (.int .i64 3) (.int .i64 4) (.int .i64 5) (.int .i64 6) (.int .i64 7) → w.rangeAt b1 0 (st (fwd adP tnP (bs s) i)) ∧ w.there b1 0 (st (fwd adP tnP (bs s) (i + 1))).toArray.size ∧ Fst W (w.setCells b1 0 (st (fwd adP tnP (bs s) (i + 1)))) g b0 b1 (fwd adP tnP (bs s) (i + 1)) (.func (.func 148) #[] #[]) (.int .i64 0) (.int .i64 1) (.int .i64 2) (.int .i64 3) (.int .i64 4) (.int .i64 5) (.int .i64 6) (.int .i64 7)) := fun w h => ⟨h.s.range, by rw [show (st (fwd adP tnP (bs s) (i + 1))).toArray.size = 64 by rw [List.size_toArray, st_len]]; exact h.s.there, h.setAll _⟩
      have HI2 : Hid ((Tryz.prog.info? 196).map (·.size) = some (st (fwd adP tnP (bs s) (i + 1))).toArray.size) := info_st2 _
      have HI3 : Hid ((st (fwd adP tnP (bs s) (i + 1))).toArray.all (·.oneCell') = true) := one_st _
      generalize st (fwd adP tnP (bs s) (i + 1)) = cs3 at *
      generalize st (adP (fwd adP tnP (bs s) i) i) = cs2 at *
      generalize st (fwd adP tnP (bs s) i) = cs1 at *
      go_wp2
      have K0 := F2.out.drew
      refine wp_region_noPanic ?_
      refine wp_region_peel (S := fun w => w.cell? ⟨b0, 0, none⟩ = some (.func (.func 148) #[] #[]) ∧ w.cell? ⟨b0, 1, none⟩ = some (.int .i64 0) ∧ w.cell? ⟨b0, 2, none⟩ = some (.int .i64 1) ∧ w.cell? ⟨b0, 3, none⟩ = some (.int .i64 2) ∧ w.cell? ⟨b0, 4, none⟩ = some (.int .i64 3) ∧ w.cell? ⟨b0, 5, none⟩ = some (.int .i64 4) ∧ w.cell? ⟨b0, 6, none⟩ = some (.int .i64 5) ∧ w.cell? ⟨b0, 7, none⟩ = some (.int .i64 6) ∧ w.cell? ⟨b0, 8, none⟩ = some (.int .i64 7) ∧ w.rangeAt b1 0 cs1) 9 (by kernel_rfl) rfl (by kernel_rfl) ?_ (fun hHeld => ?_)
      · exact ⟨K0.k, K0.c0, K0.c1, K0.c2, K0.c3, K0.c4, K0.c5, K0.c6, K0.c7, R1.out⟩
      refine wpAnyH_take (i := 0) (oi := _) (v := ?_) rfl (by kernel_rfl) (by kernel_rfl) (by kernel_rfl) (fun _ _ _ h => h) (Or.inl ⟨by rfl, ?_⟩) (by assumption) ?_
      rotate_left
      · ((intro w hSw; (try dsimp only at hSw); go_simp) <;> (try with_reducible rfl))
      try simp only [Act.put]
      refine wpAnyH_take (i := 1) (oi := _) (v := ?_) rfl (by kernel_rfl) (by kernel_rfl) (by kernel_rfl) (fun _ _ _ h => h) (Or.inl ⟨by rfl, ?_⟩) (by assumption) ?_
      rotate_left
      · ((intro w hSw; (try dsimp only at hSw); go_simp) <;> (try with_reducible rfl))
      try simp only [Act.put]
      refine wpAnyH_take (i := 2) (oi := _) (v := ?_) rfl (by kernel_rfl) (by kernel_rfl) (by kernel_rfl) (fun _ _ _ h => h) (Or.inl ⟨by rfl, ?_⟩) (by assumption) ?_
      rotate_left
      · ((intro w hSw; (try dsimp only at hSw); go_simp) <;> (try with_reducible rfl))
      try simp only [Act.put]
      refine wpAnyH_take (i := 3) (oi := _) (v := .agg cs1.toArray) rfl (by kernel_rfl) (by kernel_rfl) (by kernel_rfl) (fun _ _ _ h => h) (yieldsIf_load_mid (by rfl) 196 _ rfl b1 0 rfl cs1 (.array 64 5) (fun w h => h.2.2.2.2.2.2.2.2.2) hu rfl hi1) (by assumption) ?_
      try simp only [Act.put]
      refine wpAnyH_take (i := 4) (oi := _) (v := ?_) rfl (by kernel_rfl) (by kernel_rfl) (by kernel_rfl) (fun _ _ _ h => h) (Or.inl ⟨by rfl, ?_⟩) (by assumption) ?_
      rotate_left
      · ((intro w hSw; (try dsimp only at hSw); go_simp) <;> (try with_reducible rfl))
      try simp only [Act.put]
      refine wpAnyH_take (i := 6) (oi := _) (v := ?_) rfl (by kernel_rfl) (by kernel_rfl) (by kernel_rfl) (fun _ _ _ h => h) (Or.inl ⟨by rfl, ?_⟩) (by assumption) ?_
      rotate_left
      · ((intro w hSw; (try dsimp only at hSw); go_simp) <;> (try with_reducible rfl))
      try simp only [Act.put]
      refine wpAnyH_take (i := 7) (oi := _) (v := ?_) rfl (by kernel_rfl) (by kernel_rfl) (by kernel_rfl) (fun _ _ _ h => h) (Or.inl ⟨by rfl, ?_⟩) (by assumption) ?_
      rotate_left
      · ((intro w hSw; (try dsimp only at hSw); go_simp) <;> (try with_reducible rfl))
      try simp only [Act.put]
      refine wpAnyH_ready (rs := [5]) (by kernel_rfl) (by simp) ?_
      refine AllReadyH.cons (o := _) rfl (fun KK hKK => ?_) AllReadyH.nil
      go_simp
      (go_at_call 148; refine (HA.out _).mono ?_; rintro e w3 ⟨rfl, hb3⟩)
      have K1 := Fst.below K0 hb3
      have R2 := (HX.out _ K1).1
      refine hKK.out _ _ ?_ (fun hHeld2 => ?_)
      · exact ⟨K1.k, K1.c0, K1.c1, K1.c2, K1.c3, K1.c4, K1.c5, K1.c6, K1.c7, R2⟩
      clear hKK KK
      try simp only [Act.put]
      refine wpAnyH_ready (rs := [8]) (by kernel_rfl) (by simp) ?_
      refine AllReadyH.cons (o := _) rfl (fun KK hKK => ?_) AllReadyH.nil
      go_simp
      (go_at_call 147; refine (HS.out _ K1.t).mono ?_; rintro e w4 ⟨rfl, hb4⟩)
      have K2 := Fst.below K1 hb4
      have R3 := (HX.out _ K2).1
      refine hKK.out _ _ ?_ (fun hHeld3 => ?_)
      · exact ⟨K2.k, K2.c0, K2.c1, K2.c2, K2.c3, K2.c4, K2.c5, K2.c6, K2.c7, R3⟩
      clear hKK KK
      try simp only [Act.put]
      refine wpAnyH_done (by kernel_rfl) ?_ _
      refine peel_last rfl (fun KK hKK => ?_)
      rw [if_pos (by rfl)]
      refine wp_store_mid 196 _ _ rfl b1 0 cs3.toArray rfl rfl (HX.out _ K2).2.1 HI2.out HI3.out ?_
      refine hKK _ _ ?_
      refine NoPanic.normal ?_
      have K3 := (HX.out _ K2).2.2
      clear hKK HX HA HS K2 K1 K0 R1 R2 R3 hHeld hHeld2 hHeld3 hb3 hb4 HI2 HI3 F2
      change Fst W (w4.setCells b1 0 cs3) _ _ _ _ _ _ _ _ _ _ _ _ _ at K3
      have K4 := K3
      clear K3
      go_wp2
      exact ⟨⟨i + 1, hil, by simp, K4⟩, by simp [intOf]; omega⟩
    · have hin : ¬ ((i : Int) < 6) := by omega
      have HE : Hid (fwd adP tnP (bs s) i = fwd adP tnP (bs s) 6) := by rw [show i = 6 by omega]; exact (rfl : fwd adP tnP (bs s) 6 = fwd adP tnP (bs s) 6)
      have hcv : (convert 51 9 (.slice (some ⟨b1, 0, none⟩) 64 64)).run Tryz.prog wr = .ok (.string (txt (fwd adP tnP (bs s) i))) wr := conv_st F2.out.s (HL.out i)
      generalize fwd adP tnP (bs s) i = F at *
      generalize htx : txt F = tx at *
      go_wp2
      go_ret2
      exact ⟨by rw [← HE.out, htx]; rfl, F2.out.d⟩
set_option maxHeartbeats 6400000 in
set_option maxRecDepth 100000 in
theorem forthQ_ok (g : Nat) (s : ByteArray) (hs : s.size = 64) (W : World) (hT : Tab W g) : Calls Tryz.prog 135 #[.pointer (some ⟨g, 0, none⟩), .string s, .agg #[.func (.func 151) #[] #[], .int .i64 1, .int .i64 3, .int .i64 5, .int .i64 7, .int .i64 0, .int .i64 2, .int .i64 4, .int .i64 6]] W fun e w' => e = .returned (.tuple #[.string (txt (fwd adQ tnQ (bs s) 6)), .int .i64 0]) ∧ Below W.heap.size W w' := by
  have HB : Hid (∀ W, Calls Tryz.prog 146 #[.pointer (some ⟨g, 0, none⟩), .string s] W fun e w' => e = .returned (.tuple #[.agg (st (bs s)).toArray, .int .i64 0]) ∧ Below (World.heap W).size W w') := fun W => begin_ok g s hs W
  have HH : Hid (∀ w : World, (w.alloc (Obj.cells (st fun _ => 0).toArray 196)).there w.heap.size 0 (st (bs s)).toArray.size) := fun w => by
    rw [show (st (bs s)).toArray.size = 64 by rw [List.size_toArray, st_len]]
    exact (Stt.new w _).there
  have HI2 : Hid ((Tryz.prog.info? 196).map (·.size) = some (st (bs s)).toArray.size) := info_st2 _
  have HI3 : Hid ((st (bs s)).toArray.all (·.oneCell') = true) := one_st _
  have HN : Hid (∀ (ops : Array Oper) (rest : List Oper) (o : Oper) (a : Act) (w : World) (Q : Exit → Act → World → Prop), o.guard = none → o.op = .alloc 196 → wpList Tryz.prog ops Q rest (a.put o.dst (.pointer (some ⟨w.heap.size, 0, none⟩))) (w.alloc (.cells (st fun _ => 0).toArray 196)) → wpList Tryz.prog ops Q (o :: rest) a w) := fun ops rest o a w Q hg ho h => wp_new hg ho h
  have HF : Hid (∀ w1, Below (W.heap.size + 1) (W.alloc (Obj.cells #[.func (.func 151) #[] #[], .int .i64 1, .int .i64 3, .int .i64 5, .int .i64 7, .int .i64 0, .int .i64 2, .int .i64 4, .int .i64 6] 187)) w1 → Fst W ((w1.alloc (Obj.cells (st fun _ => 0).toArray 196)).setCells w1.heap.size 0 (st (bs s))) g W.heap.size w1.heap.size (bs s) (.func (.func 151) #[] #[]) (.int .i64 1) (.int .i64 3) (.int .i64 5) (.int .i64 7) (.int .i64 0) (.int .i64 2) (.int .i64 4) (.int .i64 6)) := fun w1 hb => fst_new W w1 g (bs s) _ _ _ _ _ _ _ _ _ hT hb
  clear hT
  generalize hcs : st (bs s) = cs at *
  generalize (st fun _ => 0) = zs at *
  go_enter Tryz.func135, Tryz.ntmps135
  go_wp2_with (first | (go_at_call 146; refine (HB.out _).mono ?_; rintro e w1 ⟨rfl, hb1⟩; have F1 : Hid (Fst W ((w1.alloc (Obj.cells zs.toArray 196)).setCells w1.heap.size 0 cs) g W.heap.size w1.heap.size (bs s) (.func (.func 151) #[] #[]) (.int .i64 1) (.int .i64 3) (.int .i64 5) (.int .i64 7) (.int .i64 0) (.int .i64 2) (.int .i64 4) (.int .i64 6)) := HF.out w1 (by simpa using hb1); clear hb1) | (refine HN.out _ _ _ _ _ _ rfl rfl ?_) | (refine wpList_store_mid rfl 196 _ _ rfl w1.heap.size 0 cs.toArray rfl rfl (HH.out w1) HI2.out HI3.out ?_))
  have HJ : Hid (∀ i, i < 6 → ∀ F : Nat → Nat, (∀ p, F p < 256) → ∀ w, Calls Tryz.prog 151 #[.agg (st F).toArray, .int .i64 ((i : Nat) : Int)] w fun e w' => e = .returned (.agg (st (adQ F i)).toArray) ∧ Below w.heap.size w w') := fun i hi F hF w => stepQ_any F i hF (by omega) w
  have HK : Hid (∀ F : Nat → Nat, (∀ p, F p < 256) → ∀ w, Tab w g → Calls Tryz.prog 147 #[.pointer (some ⟨g, 0, none⟩), .agg (st F).toArray, .agg #[.int .i64 1, .int .i64 3, .int .i64 5, .int .i64 7, .int .i64 0, .int .i64 2, .int .i64 4, .int .i64 6]] w fun e w' => e = .returned (.agg (st (shf F tnQ)).toArray) ∧ Below w.heap.size w w') := fun F hF w h => shuffle_core g F tnQ _ _ _ _ _ _ _ _ hF tnQ_lt ixQ w h
  have HL : Hid (∀ i p, fwd adQ tnQ (bs s) i p < 256) := fwd_lt adQ tnQ (bs s) (fun F i h p => adQ_lt h i p) (bs_lt s)
  rw [← show fwd adQ tnQ (bs s) 0 = bs s from rfl] at F1
  generalize (w1.alloc (Obj.cells zs.toArray 196)).setCells w1.heap.size 0 cs = w2 at *
  generalize w1.heap.size = b1 at *
  clear HB HH HI2 HI3 HN HF
  generalize hb0 : W.heap.size = b0 at *
  clear hb0 hcs
  have hu : Tryz.prog.underlying 196 = some (.array 64 5) := Tryz.underlying196
  go_loopw [20] (fun u wr => ∃ i : Nat, i ≤ 6 ∧ u = .int .i64 i ∧ Hid (Fst W wr g b0 b1 (fwd adQ tnQ (bs s) i) (.func (.func 151) #[] #[]) (.int .i64 1) (.int .i64 3) (.int .i64 5) (.int .i64 7) (.int .i64 0) (.int .i64 2) (.int .i64 4) (.int .i64 6))) (fun u _ => 6 - (intOf u).toNat)
  case atStart => exact ⟨0, by omega, rfl, F1⟩
  case round =>
    obtain ⟨i, hi, rfl, F2⟩ := hrel
    clear F1
    by_cases hil : i < 6
    · have hii : (i : Int) < 6 := by omega
      have HR : Hid (fwd adQ tnQ (bs s) (i + 1) = fwd adQ tnQ (bs s) (i + 1)) := rfl
      have hF := HL.out i
      have HA : Hid (∀ w, Calls Tryz.prog 151 #[.agg (st (fwd adQ tnQ (bs s) i)).toArray, .int .i64 (i : Int)] w fun e w' => e = .returned (.agg (st (adQ (fwd adQ tnQ (bs s) i) i)).toArray) ∧ Below w.heap.size w w') := HJ.out i hil _ hF
      have HS : Hid (∀ w, Tab w g → Calls Tryz.prog 147 #[.pointer (some ⟨g, 0, none⟩), .agg (st (adQ (fwd adQ tnQ (bs s) i) i)).toArray, .agg #[.int .i64 1, .int .i64 3, .int .i64 5, .int .i64 7, .int .i64 0, .int .i64 2, .int .i64 4, .int .i64 6]] w fun e w' => e = .returned (.agg (st (fwd adQ tnQ (bs s) (i + 1))).toArray) ∧ Below w.heap.size w w') := HK.out _ (fun p => adQ_lt hF i p)
      clear HJ HK HL hF HR
      have hi1 : (Tryz.prog.info? 196).map (·.size) = some (st (fwd adQ tnQ (bs s) i)).length := info_st _
      have R1 : Hid (wr.drew.rangeAt b1 0 (st (fwd adQ tnQ (bs s) i))) := F2.out.s.range
      have HX : Hid (∀ w, Fst W w g b0 b1 (fwd adQ tnQ (bs s) i) (.func (.func 151) #[] #[]) (.int .i64 1) (.int .i64 3) (.int .i64 5) (.int .i64 7) (.int .i64 0) (.int .i64 2) (.int .i64 4) (.int .i64 6) → w.rangeAt b1 0 (st (fwd adQ tnQ (bs s) i)) ∧ w.there b1 0 (st (fwd adQ tnQ (bs s) (i + 1))).toArray.size ∧ Fst W (w.setCells b1 0 (st (fwd adQ tnQ (bs s) (i + 1)))) g b0 b1 (fwd adQ tnQ (bs s) (i + 1)) (.func (.func 151) #[] #[]) (.int .i64 1) (.int .i64 3) (.int .i64 5) (.int .i64 7) (.int .i64 0) (.int .i64 2) (.int .i64 4) (.int .i64 6)) := fun w h => ⟨h.s.range, by rw [show (st (fwd adQ tnQ (bs s) (i + 1))).toArray.size = 64 by rw [List.size_toArray, st_len]]; exact h.s.there, h.setAll _⟩
      have HI2 : Hid ((Tryz.prog.info? 196).map (·.size) = some (st (fwd adQ tnQ (bs s) (i + 1))).toArray.size) := info_st2 _
      have HI3 : Hid ((st (fwd adQ tnQ (bs s) (i + 1))).toArray.all (·.oneCell') = true) := one_st _
      generalize st (fwd adQ tnQ (bs s) (i + 1)) = cs3 at *
      generalize st (adQ (fwd adQ tnQ (bs s) i) i) = cs2 at *
      generalize st (fwd adQ tnQ (bs s) i) = cs1 at *
      go_wp2
      have K0 := F2.out.drew
      refine wp_region_noPanic ?_
      refine wp_region_peel (S := fun w => w.cell? ⟨b0, 0, none⟩ = some (.func (.func 151) #[] #[]) ∧ w.cell? ⟨b0, 1, none⟩ = some (.int .i64 1) ∧ w.cell? ⟨b0, 2, none⟩ = some (.int .i64 3) ∧ w.cell? ⟨b0, 3, none⟩ = some (.int .i64 5) ∧ w.cell? ⟨b0, 4, none⟩ = some (.int .i64 7) ∧ w.cell? ⟨b0, 5, none⟩ = some (.int .i64 0) ∧ w.cell? ⟨b0, 6, none⟩ = some (.int .i64 2) ∧ w.cell? ⟨b0, 7, none⟩ = some (.int .i64 4) ∧ w.cell? ⟨b0, 8, none⟩ = some (.int .i64 6) ∧ w.rangeAt b1 0 cs1) 9 (by kernel_rfl) rfl (by kernel_rfl) ?_ (fun hHeld => ?_)
      · exact ⟨K0.k, K0.c0, K0.c1, K0.c2, K0.c3, K0.c4, K0.c5, K0.c6, K0.c7, R1.out⟩
      refine wpAnyH_take (i := 0) (oi := _) (v := ?_) rfl (by kernel_rfl) (by kernel_rfl) (by kernel_rfl) (fun _ _ _ h => h) (Or.inl ⟨by rfl, ?_⟩) (by assumption) ?_
      rotate_left
      · ((intro w hSw; (try dsimp only at hSw); go_simp) <;> (try with_reducible rfl))
      try simp only [Act.put]
      refine wpAnyH_take (i := 1) (oi := _) (v := ?_) rfl (by kernel_rfl) (by kernel_rfl) (by kernel_rfl) (fun _ _ _ h => h) (Or.inl ⟨by rfl, ?_⟩) (by assumption) ?_
      rotate_left
      · ((intro w hSw; (try dsimp only at hSw); go_simp) <;> (try with_reducible rfl))
      try simp only [Act.put]
      refine wpAnyH_take (i := 2) (oi := _) (v := ?_) rfl (by kernel_rfl) (by kernel_rfl) (by kernel_rfl) (fun _ _ _ h => h) (Or.inl ⟨by rfl, ?_⟩) (by assumption) ?_
      rotate_left
      · ((intro w hSw; (try dsimp only at hSw); go_simp) <;> (try with_reducible rfl))
      try simp only [Act.put]
      refine wpAnyH_take (i := 3) (oi := _) (v := .agg cs1.toArray) rfl (by kernel_rfl) (by kernel_rfl) (by kernel_rfl) (fun _ _ _ h => h) (yieldsIf_load_mid (by rfl) 196 _ rfl b1 0 rfl cs1 (.array 64 5) (fun w h => h.2.2.2.2.2.2.2.2.2) hu rfl hi1) (by assumption) ?_
      try simp only [Act.put]
      refine wpAnyH_take (i := 4) (oi := _) (v := ?_) rfl (by kernel_rfl) (by kernel_rfl) (by kernel_rfl) (fun _ _ _ h => h) (Or.inl ⟨by rfl, ?_⟩) (by assumption) ?_
      rotate_left
      · ((intro w hSw; (try dsimp only at hSw); go_simp) <;> (try with_reducible rfl))
      try simp only [Act.put]
      refine wpAnyH_take (i := 6) (oi := _) (v := ?_) rfl (by kernel_rfl) (by kernel_rfl) (by kernel_rfl) (fun _ _ _ h => h) (Or.inl ⟨by rfl, ?_⟩) (by assumption) ?_
      rotate_left
      · ((intro w hSw; (try dsimp only at hSw); go_simp) <;> (try with_reducible rfl))
      try simp only [Act.put]
      refine wpAnyH_take (i := 7) (oi := _) (v := ?_) rfl (by kernel_rfl) (by kernel_rfl) (by kernel_rfl) (fun _ _ _ h => h) (Or.inl ⟨by rfl, ?_⟩) (by assumption) ?_
      rotate_left
      · ((intro w hSw; (try dsimp only at hSw); go_simp) <;> (try with_reducible rfl))
      try simp only [Act.put]
      refine wpAnyH_ready (rs := [5]) (by kernel_rfl) (by simp) ?_
      refine AllReadyH.cons (o := _) rfl (fun KK hKK => ?_) AllReadyH.nil
      go_simp
      (go_at_call 151; refine (HA.out _).mono ?_; rintro e w3 ⟨rfl, hb3⟩)
      have K1 := Fst.below K0 hb3
      have R2 := (HX.out _ K1).1
      refine hKK.out _ _ ?_ (fun hHeld2 => ?_)
      · exact ⟨K1.k, K1.c0, K1.c1, K1.c2, K1.c3, K1.c4, K1.c5, K1.c6, K1.c7, R2⟩
      clear hKK KK
      try simp only [Act.put]
      refine wpAnyH_ready (rs := [8]) (by kernel_rfl) (by simp) ?_
      refine AllReadyH.cons (o := _) rfl (fun KK hKK => ?_) AllReadyH.nil
      go_simp
      (go_at_call 147; refine (HS.out _ K1.t).mono ?_; rintro e w4 ⟨rfl, hb4⟩)
      have K2 := Fst.below K1 hb4
      have R3 := (HX.out _ K2).1
      refine hKK.out _ _ ?_ (fun hHeld3 => ?_)
      · exact ⟨K2.k, K2.c0, K2.c1, K2.c2, K2.c3, K2.c4, K2.c5, K2.c6, K2.c7, R3⟩
      clear hKK KK
      try simp only [Act.put]
      refine wpAnyH_done (by kernel_rfl) ?_ _
      refine peel_last rfl (fun KK hKK => ?_)
      rw [if_pos (by rfl)]
      refine wp_store_mid 196 _ _ rfl b1 0 cs3.toArray rfl rfl (HX.out _ K2).2.1 HI2.out HI3.out ?_
      refine hKK _ _ ?_
      refine NoPanic.normal ?_
      have K3 := (HX.out _ K2).2.2
      clear hKK HX HA HS K2 K1 K0 R1 R2 R3 hHeld hHeld2 hHeld3 hb3 hb4 HI2 HI3 F2
      change Fst W (w4.setCells b1 0 cs3) _ _ _ _ _ _ _ _ _ _ _ _ _ at K3
      have K4 := K3
      clear K3
      go_wp2
      exact ⟨⟨i + 1, hil, by simp, K4⟩, by simp [intOf]; omega⟩
    · have hin : ¬ ((i : Int) < 6) := by omega
      have HE : Hid (fwd adQ tnQ (bs s) i = fwd adQ tnQ (bs s) 6) := by rw [show i = 6 by omega]; exact (rfl : fwd adQ tnQ (bs s) 6 = fwd adQ tnQ (bs s) 6)
      have hcv : (convert 51 9 (.slice (some ⟨b1, 0, none⟩) 64 64)).run Tryz.prog wr = .ok (.string (txt (fwd adQ tnQ (bs s) i))) wr := conv_st F2.out.s (HL.out i)
      generalize fwd adQ tnQ (bs s) i = F at *
      generalize htx : txt F = tx at *
      go_wp2
      go_ret2
      exact ⟨by rw [← HE.out, htx]; rfl, F2.out.d⟩
end Go.Proofs.YtopmkooegpaeaaaGreat
