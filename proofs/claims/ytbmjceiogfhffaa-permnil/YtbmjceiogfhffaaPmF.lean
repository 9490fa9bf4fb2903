/- Tables in memory: what a store makes of them. -/
import Derived.Test.YtbmjceiogfhffaaPmE
namespace Go.Proofs.Ytbmjceiogfhffaa
open Go.RowKit

def tabv (fb fu : Nat → Nat) (ft : Nat → Nat → Nat) (fm fn : Nat → Nat) (p : Nat) : Value :=
  if p < 256 then .int .u8 (fb p : Nat) else if p < 512 then .int .u8 (fu (p - 256) : Nat) else if p < 2560 then .int .u8 (ft ((p - 512) / 256) ((p - 512) % 256) : Nat) else if p < 2816 then .int .u64 (fm (p - 2560) : Nat) else .int .u64 (fn (p - 2816) : Nat)
def upd (f : Nat → Nat) (x v : Nat) : Nat → Nat := fun y => if y = x then v else f y
def upd2 (f : Nat → Nat → Nat) (k x v : Nat) : Nat → Nat → Nat := fun l y => if l = k ∧ y = x then v else f l y
/-- Tables that lie at g. -/
def Tabs (w : World) (g : Nat) (fb fu : Nat → Nat) (ft : Nat → Nat → Nat) (fm fn : Nat → Nat) : Prop := w.rowIs g 54 3072 (tabv fb fu ft fm fn)
section
variable {w w' : World} {g : Nat} {fb fu : Nat → Nat} {ft : Nat → Nat → Nat} {fm fn : Nat → Nat}
theorem Tabs.lt (h : Tabs w g fb fu ft fm fn) : g < w.heap.size := World.rowIs.lt h
theorem Tabs.below (h : Tabs w g fb fu ft fm fn) (hb : Below w.heap.size w w') : Tabs w' g fb fu ft fm fn := World.rowIs.of_block h (hb.block g h.lt)
theorem Tabs.frozen (h : Tabs w g fb fu ft fm fn) (i : Nat) : w.frozen? ⟨g, i, none⟩ = false := World.rowIs.frozen h i
theorem Tabs.box (h : Tabs w g fb fu ft fm fn) {x : Nat} (hx : x < 256) : w.cell? ⟨g, x, none⟩ = some (.int .u8 (fb x : Nat)) := by
  rw [World.rowIs.cell h (by omega)]; unfold tabv; rw [if_pos hx]
theorem Tabs.unbox (h : Tabs w g fb fu ft fm fn) {x : Nat} (hx : x < 256) : w.cell? ⟨g, 256 + x, none⟩ = some (.int .u8 (fu x : Nat)) := by
  rw [World.rowIs.cell h (by omega)]; unfold tabv; rw [if_neg (by omega), if_pos (by omega), show 256 + x - 256 = x by omega]
theorem Tabs.times (h : Tabs w g fb fu ft fm fn) {k x : Nat} (hk : k < 8) (hx : x < 256) : w.cell? ⟨g, 512 + 256 * k + x, none⟩ = some (.int .u8 (ft k x : Nat)) := by
  rw [World.rowIs.cell h (by omega)]; unfold tabv; rw [if_neg (by omega), if_neg (by omega), if_pos (by omega), show (512 + 256 * k + x - 512) / 256 = k by omega, show (512 + 256 * k + x - 512) % 256 = x by omega]
theorem Tabs.mix (h : Tabs w g fb fu ft fm fn) {x : Nat} (hx : x < 256) : w.cell? ⟨g, 2560 + x, none⟩ = some (.int .u64 (fm x : Nat)) := by
  rw [World.rowIs.cell h (by omega)]; unfold tabv; rw [if_neg (by omega), if_neg (by omega), if_neg (by omega), if_pos (by omega), show 2560 + x - 2560 = x by omega]
theorem Tabs.unmix (h : Tabs w g fb fu ft fm fn) {x : Nat} (hx : x < 256) : w.cell? ⟨g, 2816 + x, none⟩ = some (.int .u64 (fn x : Nat)) := by
  rw [World.rowIs.cell h (by omega)]; unfold tabv; rw [if_neg (by omega), if_neg (by omega), if_neg (by omega), if_neg (by omega), show 2816 + x - 2816 = x by omega]
theorem Tabs.setBox (h : Tabs w g fb fu ft fm fn) {x : Nat} (hx : x < 256) (v : Nat) : Tabs (w.setCell ⟨g, x, none⟩ (.int .u8 (v : Nat))) g (upd fb x v) fu ft fm fn := by
  refine (World.rowIs.set h x _).congr fun p hp => ?_
  unfold tabv upd
  by_cases e : p = x
  · simp only [if_pos e, if_pos (show p < 256 by omega)]
  · simp only [if_neg e]
theorem Tabs.setUnbox (h : Tabs w g fb fu ft fm fn) {x : Nat} (hx : x < 256) (v : Nat) : Tabs (w.setCell ⟨g, 256 + x, none⟩ (.int .u8 (v : Nat))) g fb (upd fu x v) ft fm fn := by
  refine (World.rowIs.set h (256 + x) _).congr fun p hp => ?_
  unfold tabv upd
  by_cases e : p = 256 + x
  · simp only [if_pos e, if_neg (show ¬ p < 256 by omega), if_pos (show p < 512 by omega), if_pos (show p - 256 = x by omega)]
  · by_cases h1 : p < 256
    · simp only [if_neg e, if_pos h1]
    · simp only [if_neg e, if_neg h1, if_neg (show ¬ p - 256 = x by omega)]
theorem Tabs.setTimes (h : Tabs w g fb fu ft fm fn) {k x : Nat} (hk : k < 8) (hx : x < 256) (v : Nat) : Tabs (w.setCell ⟨g, 512 + 256 * k + x, none⟩ (.int .u8 (v : Nat))) g fb fu (upd2 ft k x v) fm fn := by
  refine (World.rowIs.set h (512 + 256 * k + x) _).congr fun p hp => ?_
  unfold tabv upd2
  by_cases e : p = 512 + 256 * k + x
  · simp only [if_pos e, if_neg (show ¬ p < 256 by omega), if_neg (show ¬ p < 512 by omega), if_pos (show p < 2560 by omega), if_pos (show (p - 512) / 256 = k ∧ (p - 512) % 256 = x by omega)]
  · by_cases h1 : p < 512
    · simp only [if_neg e, if_pos h1]
    · simp only [if_neg e, if_neg h1, if_neg (show ¬ ((p - 512) / 256 = k ∧ (p - 512) % 256 = x) by omega)]
theorem Tabs.setMix (h : Tabs w g fb fu ft fm fn) {x : Nat} (hx : x < 256) (v : Nat) : Tabs (w.setCell ⟨g, 2560 + x, none⟩ (.int .u64 (v : Nat))) g fb fu ft (upd fm x v) fn := by
  refine (World.rowIs.set h (2560 + x) _).congr fun p hp => ?_
  unfold tabv upd
  by_cases e : p = 2560 + x
  · simp only [if_pos e, if_neg (show ¬ p < 256 by omega), if_neg (show ¬ p < 512 by omega), if_neg (show ¬ p < 2560 by omega), if_pos (show p < 2816 by omega), if_pos (show p - 2560 = x by omega)]
  · by_cases h1 : p < 2560
    · simp only [if_neg e, if_pos h1]
    · simp only [if_neg e, if_neg h1, if_neg (show ¬ p - 2560 = x by omega)]
theorem Tabs.setUnmix (h : Tabs w g fb fu ft fm fn) {x : Nat} (hx : x < 256) (v : Nat) : Tabs (w.setCell ⟨g, 2816 + x, none⟩ (.int .u64 (v : Nat))) g fb fu ft fm (upd fn x v) := by
  refine (World.rowIs.set h (2816 + x) _).congr fun p hp => ?_
  unfold tabv upd
  by_cases e : p = 2816 + x
  · simp only [if_pos e, if_neg (show ¬ p < 256 by omega), if_neg (show ¬ p < 512 by omega), if_neg (show ¬ p < 2560 by omega), if_neg (show ¬ p < 2816 by omega), if_pos (show p - 2816 = x by omega)]
  · by_cases h1 : p < 2816
    · simp only [if_neg e, if_pos h1]
    · simp only [if_neg e, if_neg h1, if_neg (show ¬ p - 2816 = x by omega)]
end
theorem Tabs.new (w : World) (z : Array Value) (hz : z.size = 3072) (h1 : ∀ p, p < 2560 → z[p]? = some (.int .u8 0)) (h2 : ∀ p, 2560 ≤ p → p < 3072 → z[p]? = some (.int .u64 0)) : Tabs (w.alloc (.cells z 54)) w.heap.size (fun _ => 0) (fun _ => 0) (fun _ _ => 0) (fun _ => 0) (fun _ => 0) := by
  have := World.rowIs_alloc w z 54 (tabv (fun _ => 0) (fun _ => 0) (fun _ _ => 0) (fun _ => 0) (fun _ => 0)) (fun p hp => by
    unfold tabv
    by_cases h : p < 2560
    · rw [h1 p h]
      by_cases a : p < 256
      · rw [if_pos a]; rfl
      · rw [if_neg a]
        by_cases b : p < 512
        · rw [if_pos b]; rfl
        · rw [if_neg b, if_pos h]; rfl
    · rw [h2 p (by omega) (by omega), if_neg (by omega), if_neg (by omega), if_neg h]
      by_cases c : p < 2816
      · rw [if_pos c]; rfl
      · rw [if_neg c]; rfl)
  rw [hz] at this
  exact this
end Go.Proofs.Ytbmjceiogfhffaa
