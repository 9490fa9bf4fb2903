/- States of 64 bytes in memory; the contract of perm's shuffle, over the seat's translation. -/
import Derived.Test.YtbmjceiogfhffaaPmI
import Derived.Deep.MidRow
import Derived.Lib.LazyBuf
namespace Go.Proofs.Ytbmjceiogfhffaa
open Go.RowKit

/-- A state's cells. -/
def st (f : Nat → Nat) : List Value := (List.range 64).map fun i => .int .u8 (f i : Nat)
theorem st_len (f : Nat → Nat) : (st f).length = 64 := by unfold st; simp
theorem st_get (f : Nat → Nat) (i : Nat) (h : i < 64) : (st f)[i]? = some (.int .u8 (f i : Nat)) := by unfold st; simp [h]
theorem st_congr {f f' : Nat → Nat} (h : ∀ i, i < 64 → f i = f' i) : st f = st f' := by
  unfold st
  refine List.map_congr_left fun i hi => ?_
  rw [h i (by simpa using hi)]
/-- A state that lies in the block b. -/
def Stt (w : World) (b : Nat) (f : Nat → Nat) : Prop := w.rowIs b 84 64 fun i => .int .u8 (f i : Nat)
section
variable {w w' : World} {b : Nat} {f f' : Nat → Nat}
theorem Stt.lt (h : Stt w b f) : b < w.heap.size := World.rowIs.lt h
theorem Stt.cell (h : Stt w b f) {i : Nat} (hi : i < 64) : w.cell? ⟨b, i, none⟩ = some (.int .u8 (f i : Nat)) := World.rowIs.cell h hi
theorem Stt.frozen (h : Stt w b f) (i : Nat) : w.frozen? ⟨b, i, none⟩ = false := World.rowIs.frozen h i
theorem Stt.below (h : Stt w b f) (hb : Below w.heap.size w w') : Stt w' b f := World.rowIs.of_block h (hb.block b h.lt)
theorem Stt.congr (h : Stt w b f) (e : ∀ i, i < 64 → f i = f' i) : Stt w b f' := World.rowIs.congr h fun i hi => by rw [e i hi]
theorem Stt.range (h : Stt w b f) : w.rangeAt b 0 (st f) := fun j v hv => by
  have hj : j < 64 := by
    have := (List.getElem?_eq_some_iff.1 hv).1
    rwa [st_len] at this
  rw [st_get f j hj] at hv
  cases hv
  rw [Nat.zero_add]
  exact h.cell hj
theorem Stt.there (h : Stt w b f) : w.there b 0 64 := fun j hj => by
  rw [Nat.zero_add]
  exact ⟨by rw [h.cell hj]; rfl, h.frozen j⟩
theorem Stt.set (h : Stt w b f) (i v : Nat) : Stt (w.setCell ⟨b, i, none⟩ (.int .u8 (v : Nat))) b (upd f i v) := by
  refine (World.rowIs.set h i _).congr fun p hp => ?_
  unfold upd
  by_cases e : p = i
  · rw [if_pos e, if_pos e]
  · rw [if_neg e, if_neg e]
theorem Stt.setAll (h : Stt w b f) (f' : Nat → Nat) : Stt (w.setCells b 0 (st f')) b f' := by
  refine (Go.rowIs_setCells (st f') 0 w _ h).congr fun p hp => ?_
  rw [st_len, if_pos (by omega)]
  have := st_get f' p hp
  simp only [Nat.sub_zero]
  simp [this]
theorem Stt.setOther (h : Stt w b f) {a : Addr} (ha : b ≠ a.block) (v : Value) : Stt (w.setCell a v) b f := World.rowIs.setOther h ha v
theorem Stt.setAllOther (h : Stt w b f) {b' : Nat} (hne : b ≠ b') (vs : List Value) : Stt (w.setCells b' 0 vs) b f := Go.rowIs_setCells_other hne vs 0 w h
theorem Stt.alloc (h : Stt w b f) (o : Obj) : Stt (w.alloc o) b f := World.rowIs.alloc h o
end
theorem Stt.new (w : World) (f : Nat → Nat) : Stt (w.alloc (.cells (st f).toArray 84)) w.heap.size f := by
  have := World.rowIs_alloc w (st f).toArray 84 (fun i => .int .u8 (f i : Nat)) (fun i hi => by
    have : i < 64 := by simpa [st_len] using hi
    simpa using st_get f i this)
  have e : (st f).toArray.size = 64 := by simp [st_len]
  rw [e] at this
  exact this
theorem st_zero : (st fun _ => 0).toArray = #[.int .u8 0, .int .u8 0, .int .u8 0, .int .u8 0, .int .u8 0, .int .u8 0, .int .u8 0, .int .u8 0, .int .u8 0, .int .u8 0, .int .u8 0, .int .u8 0, .int .u8 0, .int .u8 0, .int .u8 0, .int .u8 0, .int .u8 0, .int .u8 0, .int .u8 0, .int .u8 0, .int .u8 0, .int .u8 0, .int .u8 0, .int .u8 0, .int .u8 0, .int .u8 0, .int .u8 0, .int .u8 0, .int .u8 0, .int .u8 0, .int .u8 0, .int .u8 0, .int .u8 0, .int .u8 0, .int .u8 0, .int .u8 0, .int .u8 0, .int .u8 0, .int .u8 0, .int .u8 0, .int .u8 0, .int .u8 0, .int .u8 0, .int .u8 0, .int .u8 0, .int .u8 0, .int .u8 0, .int .u8 0, .int .u8 0, .int .u8 0, .int .u8 0, .int .u8 0, .int .u8 0, .int .u8 0, .int .u8 0, .int .u8 0, .int .u8 0, .int .u8 0, .int .u8 0, .int .u8 0, .int .u8 0, .int .u8 0, .int .u8 0, .int .u8 0] := rfl
theorem zero_st (w : World) : (zeroValue 84).run Try.prog w = .ok (.agg (st fun _ => 0).toArray) w := by rw [st_zero]; exact Try.zeroValue84 w
theorem info_st (f : Nat → Nat) : (Try.prog.info? 84).map (·.size) = some (st f).length := by rw [st_len]; kernel_rfl
theorem info_st2 (f : Nat → Nat) : (Try.prog.info? 84).map (·.size) = some (st f).toArray.size := by rw [List.size_toArray, st_len]; kernel_rfl
theorem one_st (f : Nat → Nat) : (st f).toArray.all (·.oneCell') = true := all_oneCell_toArray fun v hv => by
  unfold st at hv
  obtain ⟨i, _, rfl⟩ := List.mem_map.1 hv
  rfl
theorem eta_st (f : Nat → Nat) : (Value.agg (st f).toArray).cells = (st f).toArray := rfl
/-- A single result that lives in a variable. -/
theorem results_cell1 {fn : Func} {p : Tmp} {ty : TypeId} {b : Nat} {v : Value} {tmps : Array Value} {P : Program} {w : World} (h : fn.results = #[.cell p ty]) (hp : tmps.getD p undef = .pointer (some ⟨b, 0, none⟩)) (hl : (loadVar ty ⟨b, 0, none⟩).run P w = .ok v w) :
    (results fn tmps).run P w = .ok v w := by
  have hp' : tmps[p]?.getD undef = .pointer (some ⟨b, 0, none⟩) := by rw [← hp]; simp
  simp only [results, h]
  simp [hp', asAddr, hl]
/-- A variable of the type is laid. -/
theorem wp_new {ops : Array Oper} {rest : List Oper} {o : Oper} {a : Act} {w : World} {Q : Exit → Act → World → Prop} (hg : o.guard = none) (ho : o.op = .alloc 84)
    (h : wpList Try.prog ops Q rest (a.put o.dst (.pointer (some ⟨w.heap.size, 0, none⟩))) (w.alloc (.cells (st fun _ => 0).toArray 84))) : wpList Try.prog ops Q (o :: rest) a w := by
  refine wpList_plain hg fun _ hK => ?_
  unfold Oper.wp execOp
  simp only [ho]
  simp [go_sem]
  exact hK _ _ h
end Go.Proofs.Ytbmjceiogfhffaa
