/- The contracts of begin, of both ways, of P, Q, BackP and BackQ where they tell an error, and the walk of PermNil, over the seat's translation. -/
import Derived.Test.YtopmkooegpaeaaaGreatPmN
import Derived.Test.YtopmkooegpaeaaaGreatPmA
import Derived.Test.YtopmkooegpaeaaaGreatPmH
import Derived.Laws.IdiomStrings
namespace Go.Proofs.YtopmkooegpaeaaaGreat
open Go.RowKit

theorem two_zero (W : World) : Stt ((W.alloc (Obj.cells (st fun _ => 0).toArray 196)).alloc (Obj.cells (st fun _ => 0).toArray 196)) W.heap.size (fun _ => 0) ∧ Stt ((W.alloc (Obj.cells (st fun _ => 0).toArray 196)).alloc (Obj.cells (st fun _ => 0).toArray 196)) (W.heap.size + 1) (fun _ => 0) ∧ Below W.heap.size W ((W.alloc (Obj.cells (st fun _ => 0).toArray 196)).alloc (Obj.cells (st fun _ => 0).toArray 196)) := by
  refine ⟨(Stt.new W _).alloc _, ?_, by go_grown⟩
  have := Stt.new (W.alloc (Obj.cells (st fun _ => 0).toArray 196)) (fun _ => 0)
  simp only [World.size_alloc] at this
  exact this
theorem results_cell2 {fn : Func} {p u : Tmp} {ty : TypeId} {b : Nat} {v x : Value} {tmps : Array Value} {P : Program} {w : World} (h : fn.results = #[.cell p ty, .tmp u]) (hp : tmps.getD p undef = .pointer (some ⟨b, 0, none⟩)) (hl : (loadVar ty ⟨b, 0, none⟩).run P w = .ok v w) (hu : tmps.getD u undef = x) :
    (results fn tmps).run P w = .ok (.tuple #[v, x]) w := by
  rw [results_cell_tmp h, hp, hu]
  simp [asAddr, hl]
set_option maxHeartbeats 3200000 in
set_option maxRecDepth 100000 in
theorem begin_err (p : Option Addr) (s : ByteArray) (n : Nat) (h : p = none ∧ n = 1 ∨ (∃ g, p = some ⟨g, 0, none⟩) ∧ s.size ≠ 64 ∧ n = 6) (W : World) : Calls Tryz.prog 146 #[.pointer p, .string s] W fun e w' => e = .returned (.tuple #[.agg (st fun _ => 0).toArray, .int .i64 (n : Int)]) ∧ Below W.heap.size W w' := by
  have H0 := two_zero W
  have HR : Hid (((W.alloc (Obj.cells (st fun _ => 0).toArray 196)).alloc (Obj.cells (st fun _ => 0).toArray 196)).rangeAt (W.heap.size + 1) 0 (st fun _ => 0)) := H0.2.1.range
  have HH : Hid (((W.alloc (Obj.cells (st fun _ => 0).toArray 196)).alloc (Obj.cells (st fun _ => 0).toArray 196)).there W.heap.size 0 (st fun _ => 0).toArray.size) := by rw [show (st fun _ => 0).toArray.size = 64 by rw [List.size_toArray, st_len]]; exact H0.1.there
  have HI1 : Hid ((Tryz.prog.info? 196).map (·.size) = some (st fun _ => 0).length) := info_st _
  have HI2 : Hid ((Tryz.prog.info? 196).map (·.size) = some (st fun _ => 0).toArray.size) := info_st2 _
  have HI3 : Hid ((st fun _ => 0).toArray.all (·.oneCell') = true) := one_st _
  have HN : Hid (∀ (ops : Array Oper) (rest : List Oper) (o : Oper) (a : Act) (w : World) (Q : Exit → Act → World → Prop), o.guard = none → o.op = .alloc 196 → wpList Tryz.prog ops Q rest (a.put o.dst (.pointer (some ⟨w.heap.size, 0, none⟩))) (w.alloc (.cells (st fun _ => 0).toArray 196)) → wpList Tryz.prog ops Q (o :: rest) a w) := fun ops rest o a w Q hg ho h => wp_new hg ho h
  have HX : Hid (Stt (((W.alloc (Obj.cells (st fun _ => 0).toArray 196)).alloc (Obj.cells (st fun _ => 0).toArray 196)).setCells W.heap.size 0 (st fun _ => 0)) W.heap.size (fun _ => 0) ∧ Below W.heap.size W ((W.alloc (Obj.cells (st fun _ => 0).toArray 196)).alloc (Obj.cells (st fun _ => 0).toArray 196))) := ⟨H0.1.setAll _, H0.2.2⟩
  have HC : Hid ((st fun _ => 0) = (st fun _ => 0)) := rfl
  clear H0
  generalize hcs : (st fun _ => 0) = zs at *
  replace HC : Hid ((st fun _ => 0) = zs) := hcs
  clear hcs
  rcases h with ⟨rfl, rfl⟩ | ⟨⟨g, rfl⟩, hs, rfl⟩
  · go_enter Tryz.func146, Tryz.ntmps146
    go_wp2_with (first | (refine HN.out _ _ _ _ _ _ rfl rfl ?_) | (refine wpList_load_mid rfl 196 _ rfl (W.heap.size + 1) 0 rfl zs _ HR.out Tryz.underlying196 rfl HI1.out ?_) | (refine wpList_store_mid rfl 196 _ _ rfl W.heap.size 0 zs.toArray rfl rfl HH.out HI2.out HI3.out ?_))
    refine bodyPost_ret (v := .tuple #[.agg zs.toArray, .int .i64 1]) (results_cell2 Tryz.results146 rfl (run_loadVar_mid _ _ 0 196 zs _ (by have := HX.out.1.range; rwa [HC.out] at this) Tryz.underlying196 rfl HI1.out) rfl) rfl ⟨rfl, below_setCells (Nat.le_refl _) _ _ _ HX.out.2⟩
  · have hs2 : ¬ ((s.size : Int) = 64) := by omega
    have hs3 : ((s.size : Int) == 64) = false := by simp; omega
    go_enter Tryz.func146, Tryz.ntmps146
    go_wp2_with (first | (refine HN.out _ _ _ _ _ _ rfl rfl ?_) | (refine wpList_load_mid rfl 196 _ rfl (W.heap.size + 1) 0 rfl zs _ HR.out Tryz.underlying196 rfl HI1.out ?_) | (refine wpList_store_mid rfl 196 _ _ rfl W.heap.size 0 zs.toArray rfl rfl HH.out HI2.out HI3.out ?_))
    refine bodyPost_ret (v := .tuple #[.agg zs.toArray, .int .i64 6]) (results_cell2 Tryz.results146 rfl (run_loadVar_mid _ _ 0 196 zs _ (by have := HX.out.1.range; rwa [HC.out] at this) Tryz.underlying196 rfl HI1.out) rfl) rfl ⟨rfl, below_setCells (Nat.le_refl _) _ _ _ HX.out.2⟩


theorem store_func (w : World) (b i : Nat) (fn : Fn) (h1 : (w.cell? ⟨b, i, none⟩).isSome = true) (h2 : w.frozen? ⟨b, i, none⟩ = false) : (store ⟨b, i, none⟩ (.func fn #[] #[])).run Tryz.prog w = .ok () (w.setCell ⟨b, i, none⟩ (.func fn #[] #[])) := by
  rw [run_store _ _ _ _ _ rfl]
  cases h : w.cell? ⟨b, i, none⟩ with
  | none => rw [h] at h1; cases h1
  | some v => simp [h2]
set_option maxHeartbeats 1600000 in
theorem wayP_any (W : World) : Calls Tryz.prog 136 #[] W fun e w' => e = .returned (.agg #[.func (.func 148) #[] #[], .int .i64 0, .int .i64 1, .int .i64 2, .int .i64 3, .int .i64 4, .int .i64 5, .int .i64 6, .int .i64 7]) ∧ Below W.heap.size W w' := by
  have hmf : ∀ (fn : Fn) (first cap : Array Value) (w : World), (Instr.makeFunc fn first cap).run Tryz.prog w = .ok (.func fn first cap) w := fun _ _ _ _ => rfl
  have hst : ∀ (w : World) (b i : Nat) (fn : Fn), (w.cell? ⟨b, i, none⟩).isSome = true → w.frozen? ⟨b, i, none⟩ = false → (store ⟨b, i, none⟩ (.func fn #[] #[])).run Tryz.prog w = .ok () (w.setCell ⟨b, i, none⟩ (.func fn #[] #[])) := fun w b i fn h1 h2 => store_func w b i fn h1 h2
  go_enter Tryz.func136, Tryz.ntmps136
  go_wp2
  refine bodyPost_ret (v := .agg #[.func (.func 148) #[] #[], .int .i64 0, .int .i64 1, .int .i64 2, .int .i64 3, .int .i64 4, .int .i64 5, .int .i64 6, .int .i64 7]) (by simp [results, Tryz.results136, go_sem]) rfl ⟨rfl, ?_⟩
  go_grown
set_option maxHeartbeats 1600000 in
theorem wayQ_any (W : World) : Calls Tryz.prog 145 #[] W fun e w' => e = .returned (.agg #[.func (.func 151) #[] #[], .int .i64 1, .int .i64 3, .int .i64 5, .int .i64 7, .int .i64 0, .int .i64 2, .int .i64 4, .int .i64 6]) ∧ Below W.heap.size W w' := by
  have hmf : ∀ (fn : Fn) (first cap : Array Value) (w : World), (Instr.makeFunc fn first cap).run Tryz.prog w = .ok (.func fn first cap) w := fun _ _ _ _ => rfl
  have hst : ∀ (w : World) (b i : Nat) (fn : Fn), (w.cell? ⟨b, i, none⟩).isSome = true → w.frozen? ⟨b, i, none⟩ = false → (store ⟨b, i, none⟩ (.func fn #[] #[])).run Tryz.prog w = .ok () (w.setCell ⟨b, i, none⟩ (.func fn #[] #[])) := fun w b i fn h1 h2 => store_func w b i fn h1 h2
  go_enter Tryz.func145, Tryz.ntmps145
  go_wp2
  refine bodyPost_ret (v := .agg #[.func (.func 151) #[] #[], .int .i64 1, .int .i64 3, .int .i64 5, .int .i64 7, .int .i64 0, .int .i64 2, .int .i64 4, .int .i64 6]) (by simp [results, Tryz.results145, go_sem]) rfl ⟨rfl, ?_⟩
  go_grown


/-- Which error there is. -/
def Bad (p : Option Addr) (s : ByteArray) (n : Nat) : Prop := p = none ∧ n = 1 ∨ (∃ g, p = some ⟨g, 0, none⟩) ∧ s.size ≠ 64 ∧ n = 6
theorem Bad.pos {p : Option Addr} {s : ByteArray} {n : Nat} (h : Bad p s n) : n ≠ 0 := by
  rcases h with h | h
  · omega
  · omega
theorem noByte : (ByteArray.mk #[]) = ByteArray.empty := rfl
set_option maxHeartbeats 3200000 in
set_option maxRecDepth 100000 in
theorem forth_err (p : Option Addr) (s : ByteArray) (n : Nat) (h : Bad p s n) (c : Array Value) (W : World) : Calls Tryz.prog 135 #[.pointer p, .string s, .agg c] W fun e w' => e = .returned (.tuple #[.string (ByteArray.mk #[]), .int .i64 (n : Int)]) ∧ Below W.heap.size W w' := by
  have HB : Hid (∀ W, Calls Tryz.prog 146 #[.pointer p, .string s] W fun e w' => e = .returned (.tuple #[.agg (st fun _ => 0).toArray, .int .i64 (n : Int)]) ∧ Below (World.heap W).size W w') := fun W => begin_err p s n h W
  have hn := h.pos
  have HH : Hid (∀ w : World, (w.alloc (Obj.cells (st fun _ => 0).toArray 196)).there w.heap.size 0 (st fun _ => 0).toArray.size) := fun w => by
    rw [show (st fun _ => 0).toArray.size = 64 by rw [List.size_toArray, st_len]]
    exact (Stt.new w _).there
  have HI2 : Hid ((Tryz.prog.info? 196).map (·.size) = some (st fun _ => 0).toArray.size) := info_st2 _
  have HI3 : Hid ((st fun _ => 0).toArray.all (·.oneCell') = true) := one_st _
  have HN : Hid (∀ (ops : Array Oper) (rest : List Oper) (o : Oper) (a : Act) (w : World) (Q : Exit → Act → World → Prop), o.guard = none → o.op = .alloc 196 → wpList Tryz.prog ops Q rest (a.put o.dst (.pointer (some ⟨w.heap.size, 0, none⟩))) (w.alloc (.cells (st fun _ => 0).toArray 196)) → wpList Tryz.prog ops Q (o :: rest) a w) := fun ops rest o a w Q hg ho h => wp_new hg ho h
  clear h
  generalize (st fun _ => 0) = zs at *
  have hn1 : ¬ ((n : Int) = 0) := by omega
  have hn2 : ((n : Int) == 0) = false := by simp; omega
  go_enter Tryz.func135, Tryz.ntmps135
  go_wp2_with (first | (go_at_call 146; refine (HB.out _).mono ?_; rintro e w1 ⟨rfl, hb1⟩; have D1 : Hid (Below W.heap.size W w1) := (((Below.refl _ _).alloc (Nat.le_refl _) _)).trans (hb1.mono (by simp)); clear hb1) | (refine HN.out _ _ _ _ _ _ rfl rfl ?_) | (refine wpList_store_mid rfl 196 _ _ rfl w1.heap.size 0 zs.toArray rfl rfl (HH.out w1) HI2.out HI3.out ?_))
  go_ret2
  exact ⟨rfl, below_setCells D1.out.size _ _ _ (D1.out.alloc D1.out.size _)⟩
theorem P_err (p : Option Addr) (s : ByteArray) (n : Nat) (h : Bad p s n) : Ret 118 #[.pointer p, .string s] (.tuple #[.string (ByteArray.mk #[]), .int .i64 (n : Int)]) := by
  intro W
  have HF : Hid (∀ c W, Calls Tryz.prog 135 #[.pointer p, .string s, .agg c] W fun e w' => e = .returned (.tuple #[.string (ByteArray.mk #[]), .int .i64 (n : Int)]) ∧ Below (World.heap W).size W w') := fun c W => forth_err p s n h c W
  clear h
  go_enter Tryz.func118, Tryz.ntmps118
  go_wp2_with (first | (go_at_call 136; refine (wayP_any _).mono ?_; rintro e w1 ⟨rfl, hb1⟩) | (go_at_call 135; refine (HF.out _ _).mono ?_; rintro e w2 ⟨rfl, hb2⟩; have D2 : Hid (Below W.heap.size W w2) := hb1.trans (hb2.mono hb1.size)))
  go_ret2
  exact ⟨rfl, D2.out⟩
theorem Q_err (p : Option Addr) (s : ByteArray) (n : Nat) (h : Bad p s n) : Ret 133 #[.pointer p, .string s] (.tuple #[.string (ByteArray.mk #[]), .int .i64 (n : Int)]) := by
  intro W
  have HF : Hid (∀ c W, Calls Tryz.prog 135 #[.pointer p, .string s, .agg c] W fun e w' => e = .returned (.tuple #[.string (ByteArray.mk #[]), .int .i64 (n : Int)]) ∧ Below (World.heap W).size W w') := fun c W => forth_err p s n h c W
  clear h
  go_enter Tryz.func133, Tryz.ntmps133
  go_wp2_with (first | (go_at_call 145; refine (wayQ_any _).mono ?_; rintro e w1 ⟨rfl, hb1⟩) | (go_at_call 135; refine (HF.out _ _).mono ?_; rintro e w2 ⟨rfl, hb2⟩; have D2 : Hid (Below W.heap.size W w2) := hb1.trans (hb2.mono hb1.size)))
  go_ret2
  exact ⟨rfl, D2.out⟩
/-- The bytes of a text. -/
def bs (s : ByteArray) (i : Nat) : Nat := (s.data[i]?.getD 0).toNat
theorem bs_lt (s : ByteArray) (i : Nat) : bs s i < 256 := UInt8.toNat_lt _
theorem st_bs (s : ByteArray) (h : s.size = 64) : (s.data.toList.map fun x => Value.int .u8 (x.toNat : Int)) = st (bs s) := by
  have hl : s.data.toList.length = 64 := h
  apply List.ext_getElem?
  intro i
  by_cases hi : i < 64
  · rw [st_get _ i hi, List.getElem?_map]
    have : s.data.toList[i]? = some (s.data.toList[i]'(by omega)) := List.getElem?_eq_getElem (by omega)
    rw [this]
    unfold bs
    have e : s.data[i]? = some (s.data.toList[i]'(by omega)) := by simp
    rw [e]
    rfl
  · rw [List.getElem?_eq_none (by simp; omega), List.getElem?_eq_none (by rw [st_len]; omega)]
/-- A text of a state's bytes. -/
def txt (f : Nat → Nat) : ByteArray := ⟨((List.range 64).map fun i => UInt8.ofNat (f i)).toArray⟩
theorem txt_size (f : Nat → Nat) : (txt f).size = 64 := by
  show ((List.range 64).map fun i => UInt8.ofNat (f i)).toArray.size = 64
  simp
theorem bs_txt {f : Nat → Nat} (hf : ∀ p, f p < 256) (i : Nat) (hi : i < 64) : bs (txt f) i = f i := by
  unfold bs txt
  simp [hi, Nat.mod_eq_of_lt (hf i)]
theorem txt_bs (s : ByteArray) (h : s.size = 64) : txt (bs s) = s := by
  have hl : s.data.size = 64 := h
  have : (txt (bs s)).data = s.data := by
    apply Array.ext
    · simp [txt, hl]
    · intro i h1 h2
      simp [txt, bs]
      rw [Array.getElem?_eq_getElem h2]
      rfl
  cases s with
  | mk d => cases hx : txt (bs ⟨d⟩) with
    | mk d2 => rw [hx] at this; exact congrArg ByteArray.mk this
theorem txt_congr {f f' : Nat → Nat} (h : ∀ i, i < 64 → f i = f' i) : txt f = txt f' := by
  unfold txt
  congr 2
  refine List.map_congr_left fun i hi => ?_
  rw [h i (by simpa using hi)]
/-- The copy of a text into a state. -/
theorem wp_copy {ops : Array Oper} {rest : List Oper} {o : Oper} {a : Act} {w : World} {Q : Exit → Act → World → Prop} (hg : o.guard = none) (d x : Operand) (hop : o.op = Op.call { callee := Callee.builtin Builtin.copy, args := #[d, x], argTypes := #[51, 9] })
    (b : Nat) (hd : a.eval d = .slice (some ⟨b, 0, none⟩) 64 64) (t : ByteArray) (hx : a.eval x = .string t) (hle : t.size = 64) (f : Nat → Nat) (hs : Stt w b f)
    (h : wpList Tryz.prog ops Q rest (a.put o.dst (goInt t.size)) (w.setCells b 0 (st (bs t)))) : wpList Tryz.prog ops Q (o :: rest) a w := by
  refine wpList_plain hg fun _ hK => ?_
  have hrun := run_copy_string (P := Tryz.prog) w 51 9 o.type 5 b 0 64 64 t Tryz.underlying51 Tryz.sizeOf5 (by omega) (fun j hj => by rw [Nat.zero_add, hs.cell (by omega)]; rfl) (fun j hj => by rw [Nat.zero_add]; exact hs.frozen j)
  rw [st_bs t hle] at hrun
  unfold Oper.wp
  simp [execOp, hop, resolve, invoke, builtin, hd, hx, hrun, Result.andThen]
  exact hK _ _ h
set_option maxHeartbeats 3200000 in
set_option maxRecDepth 100000 in
theorem begin_ok (g : Nat) (s : ByteArray) (hs : s.size = 64) (W : World) : Calls Tryz.prog 146 #[.pointer (some ⟨g, 0, none⟩), .string s] W fun e w' => e = .returned (.tuple #[.agg (st (bs s)).toArray, .int .i64 0]) ∧ Below W.heap.size W w' := by
  have H0 := two_zero W
  have HI1 : Hid ((Tryz.prog.info? 196).map (·.size) = some (st (bs s)).length) := info_st _
  have HI2 : Hid ((Tryz.prog.info? 196).map (·.size) = some (st (bs s)).toArray.size) := info_st2 _
  have HI3 : Hid ((st (bs s)).toArray.all (·.oneCell') = true) := one_st _
  have HN : Hid (∀ (ops : Array Oper) (rest : List Oper) (o : Oper) (a : Act) (w : World) (Q : Exit → Act → World → Prop), o.guard = none → o.op = .alloc 196 → wpList Tryz.prog ops Q rest (a.put o.dst (.pointer (some ⟨w.heap.size, 0, none⟩))) (w.alloc (.cells (st fun _ => 0).toArray 196)) → wpList Tryz.prog ops Q (o :: rest) a w) := fun ops rest o a w Q hg ho h => wp_new hg ho h
  have HC : Hid (∀ (ops : Array Oper) (rest : List Oper) (o : Oper) (a : Act) (w : World) (Q : Exit → Act → World → Prop) (d x : Operand) (b : Nat) (f : Nat → Nat), o.guard = none → o.op = Op.call { callee := Callee.builtin Builtin.copy, args := #[d, x], argTypes := #[51, 9] } → a.eval d = .slice (some ⟨b, 0, none⟩) 64 64 → a.eval x = .string s → Stt w b f → wpList Tryz.prog ops Q rest (a.put o.dst (goInt s.size)) (w.setCells b 0 (st (bs s))) → wpList Tryz.prog ops Q (o :: rest) a w) := fun ops rest o a w Q d x b f h1 h2 h3 h4 h5 h6 => wp_copy h1 d x h2 b h3 s h4 hs f h5 h6
  have HX : Hid (Stt ((W.alloc (Obj.cells (st fun _ => 0).toArray 196)).alloc (Obj.cells (st fun _ => 0).toArray 196)) (W.heap.size + 1) (fun _ => 0)) := H0.2.1
  have HY : Hid (World.rangeAt (World.setCells ((W.alloc (Obj.cells (st fun _ => 0).toArray 196)).alloc (Obj.cells (st fun _ => 0).toArray 196)) (W.heap.size + 1) 0 (st (bs s))) (W.heap.size + 1) 0 (st (bs s))) := (H0.2.1.setAll (bs s)).range
  have HZ : Hid (Stt (World.setCells ((W.alloc (Obj.cells (st fun _ => 0).toArray 196)).alloc (Obj.cells (st fun _ => 0).toArray 196)) (W.heap.size + 1) 0 (st (bs s))) W.heap.size (fun _ => 0)) := H0.1.setAllOther (by omega) _
  have HH : Hid (World.there (World.setCells ((W.alloc (Obj.cells (st fun _ => 0).toArray 196)).alloc (Obj.cells (st fun _ => 0).toArray 196)) (W.heap.size + 1) 0 (st (bs s))) W.heap.size 0 (st (bs s)).toArray.size) := by
    rw [show (st (bs s)).toArray.size = 64 by rw [List.size_toArray, st_len]]
    exact HZ.out.there
  have HW : Hid (World.rangeAt (World.setCells (World.setCells ((W.alloc (Obj.cells (st fun _ => 0).toArray 196)).alloc (Obj.cells (st fun _ => 0).toArray 196)) (W.heap.size + 1) 0 (st (bs s))) W.heap.size 0 (st (bs s))) W.heap.size 0 (st (bs s))) := (HZ.out.setAll (bs s)).range
  have HD : Hid (Below W.heap.size W ((W.alloc (Obj.cells (st fun _ => 0).toArray 196)).alloc (Obj.cells (st fun _ => 0).toArray 196))) := H0.2.2
  clear H0 HZ
  generalize st (bs s) = cs at *
  generalize (st fun _ => 0) = zs at *
  have hs2 : (s.size : Int) = 64 := by omega
  go_enter Tryz.func146, Tryz.ntmps146
  go_wp2_with (first | (refine HN.out _ _ _ _ _ _ rfl rfl ?_) | (refine HC.out _ _ _ _ _ _ _ _ (W.heap.size + 1) _ rfl rfl rfl rfl HX.out ?_) | (refine wpList_load_mid rfl 196 _ rfl (W.heap.size + 1) 0 rfl cs _ HY.out Tryz.underlying196 rfl HI1.out ?_) | (refine wpList_store_mid rfl 196 _ _ rfl W.heap.size 0 cs.toArray rfl rfl HH.out HI2.out HI3.out ?_))
  refine bodyPost_ret (v := .tuple #[.agg cs.toArray, .int .i64 0]) (results_cell2 Tryz.results146 rfl (run_loadVar_mid _ _ 0 196 cs _ HW.out Tryz.underlying196 rfl HI1.out) rfl) rfl ⟨rfl, below_setCells (Nat.le_refl _) _ _ _ (below_setCells (Nat.le_succ _) _ _ _ HD.out)⟩
end Go.Proofs.YtopmkooegpaeaaaGreat
