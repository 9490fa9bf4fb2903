/- The cells of new tables, over the seat's translation. -/
import Derived.Test.YtbmjceiogfhffaaPmD
import Derived.Deep.WholeRow
namespace Go.Proofs.Ytbmjceiogfhffaa
open Go.RowKit

def is8 : Value → Bool
  | .int .u8 (.ofNat 0) => true
  | _ => false
def is64 : Value → Bool
  | .int .u64 (.ofNat 0) => true
  | _ => false
def one1 : List Value → Bool
  | [_] => true
  | _ => false
def zchk (P : Program) (t : TypeId) : Bool :=
  match P.info? t with
  | some i => match i.zero with
    | some (.agg z) => (z.toList.take 2560).all is8 && (z.toList.drop 2560).all is64 && one1 (z.toList.drop 3071)
    | _ => false
  | none => false
theorem zchk_ok : zchk Try.prog 54 = true := by kernel_rfl
theorem is8_eq {v : Value} (h : is8 v = true) : v = .int .u8 0 := by
  unfold is8 at h
  split at h
  · rfl
  · cases h
theorem is64_eq {v : Value} (h : is64 v = true) : v = .int .u64 0 := by
  unfold is64 at h
  split at h
  · rfl
  · cases h
/-- New tables are noughts. -/
theorem zer_tab : ∃ z : Array Value, (∀ w, (zeroValue 54).run Try.prog w = .ok (.agg z) w) ∧ z.size = 3072 ∧ (∀ p, p < 2560 → z[p]? = some (.int .u8 0)) ∧ ∀ p, 2560 ≤ p → p < 3072 → z[p]? = some (.int .u64 0) := by
  have h := zchk_ok
  unfold zchk at h
  cases hi : Try.prog.info? 54 with
  | none => simp [hi] at h
  | some i =>
    rw [hi] at h
    cases hz : i.zero with
    | none => simp [hz] at h
    | some v =>
      cases v with
      | agg z =>
        simp only [hz, Bool.and_eq_true] at h
        obtain ⟨⟨h1, h2⟩, h3⟩ := h
        have hl : z.size = 3072 := by
          have : (z.toList.drop 3071).length = 1 := by
            generalize z.toList.drop 3071 = l at h3
            match l, h3 with
            | [_], _ => rfl
          simp at this
          omega
        refine ⟨z, fun w => by simp [zeroValue, typeInfo, hi, hz], hl, fun p hp => ?_, fun p hp hp2 => ?_⟩
        · have hlt : p < z.size := by omega
          rw [Array.getElem?_eq_getElem hlt]
          refine congrArg some (is8_eq (List.all_eq_true.1 h1 _ ?_))
          rw [List.mem_take_iff_getElem]
          exact ⟨p, by simp; omega, by simp⟩
        · have hlt : p < z.size := by omega
          rw [Array.getElem?_eq_getElem hlt]
          refine congrArg some (is64_eq (List.all_eq_true.1 h2 _ ?_))
          rw [List.mem_drop_iff_getElem]
          exact ⟨p - 2560, by simp; omega, by simp [show 2560 + (p - 2560) = p by omega]⟩
      | _ => simp [hz] at h
end Go.Proofs.Ytbmjceiogfhffaa
