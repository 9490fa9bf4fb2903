/- Contracts of frob.Least where there is no such element, and of the document's 'in', over the seat's translation. -/
import Derived.Test.YtakaconhoodigaaFyA
import Derived.Test.YtakaconhoodigaaFyB
import Derived.Test.YtakaconhoodigaaFrH
import Derived.Test.YtakaconhoodigaaPSlA
namespace Go.Proofs.Ytakaconhoodigaa
open Go.RowKit
open Cb
open Tw (pm)

set_option maxRecDepth 100000 in
set_option maxHeartbeats 4000000 in
theorem least_no (l : Int) (a : Nat × Nat) (la : lt2 a) (h : ofB l (a.1 : Int) (a.2 : Int) = false) : Ret 30 #[.int .i64 l, .agg #[.int .u64 (a.1 : Int), .int .u64 (a.2 : Int)]] (.slice none 0 0) := by
  intro W
  have HO := hidF (of_ret l a.1 a.2 la.2)
  rw [h] at HO
  go_enter Try.func30, Try.ntmps30
  go_wp2_with (go_at_call 15; refine (HO.out.go _).mono ?_; rintro e w1 ⟨rfl, hb1⟩; have eb : Below W.heap.size W w1 := (((Below.refl _ _).alloc (Nat.le_refl _) _).alloc (by simp) _).trans (hb1.mono (by simp; omega)); clear hb1)
  go_ret
  exact ⟨rfl, eb⟩
/-- Is it among them? -/
def inB (es : List (Nat × Nat)) (x : Nat × Nat) : Bool := decide (x ∈ es)
theorem inB_at {es : List (Nat × Nat)} {x : Nat × Nat} {i : Nat} (h : i < es.length) (e : es.getD i (0, 0) = x) : inB es x = true := by
  unfold inB
  rw [decide_eq_true_eq, ← e]
  rw [List.getD_eq_getElem?_getD, List.getElem?_eq_getElem h]
  exact List.getElem_mem h
theorem inB_no {es : List (Nat × Nat)} {x : Nat × Nat} (h : ∀ j, j < es.length → es.getD j (0, 0) ≠ x) : inB es x = false := by
  unfold inB
  rw [decide_eq_false_iff_not]
  intro hm
  obtain ⟨j, hj, e⟩ := List.getElem_of_mem hm
  exact h j hj (by rw [List.getD_eq_getElem?_getD, List.getElem?_eq_getElem hj]; exact e)
set_option maxRecDepth 100000 in
set_option maxHeartbeats 8000000 in
theorem rin33 (a : Option Addr) (cap n : Nat) (es : List (Nat × Nat)) (hes : es.length = n) (hn : n ≤ 100000) (x : Nat × Nat) (W : World) (hr : ERow W a es) :
    Calls Try.prog 47 #[.slice a n cap, .agg #[.int .u64 (x.1 : Int), .int .u64 (x.2 : Int)]] W fun e w' => e = .returned (.bool (inB es x)) ∧ Below W.heap.size W w' := by
  have HR := hidF hr
  clear hr
  go_enter Try.func47, Try.ntmps47
  go_wp2_with fail
  have K0 : Hid (El (W.alloc (Obj.cells #[.int .u64 (x.1 : Int), .int .u64 (x.2 : Int)] 25)) W.heap.size x.1 x.2 ∧ Below W.heap.size W (W.alloc (Obj.cells #[.int .u64 (x.1 : Int), .int .u64 (x.2 : Int)] 25))) := ⟨⟨by simp [go_sem], by simp [go_sem]⟩, (Below.refl _ _).alloc (Nat.le_refl _) _⟩
  go_loopw [5] (fun u wr => ∃ i : Nat, i ≤ n ∧ u = .int .i64 i ∧ Hid (∀ j, j < i → es.getD j (0, 0) ≠ x) ∧ Hid (El wr W.heap.size x.1 x.2 ∧ Below W.heap.size W wr)) (fun u _ => n - (intOf u).toNat)
  case atStart => exact ⟨0, Nat.zero_le _, rfl, fun j hj => absurd hj (Nat.not_lt_zero _), K0⟩
  case round =>
    obtain ⟨i, hi, rfl, HN, HK⟩ := hrel
    clear K0
    by_cases hlt : i < n
    · obtain ⟨b, off, rfl, hb, c1, c0⟩ := HR.out.cells i (by omega)
      have d1 := keepc HK.out.2 c1
      have d0 := keepc HK.out.2 c0
      have x1 := HK.out.1.hi
      have x0 := HK.out.1.lo
      have HV : Hid (∀ v, v = es.getD i (0, 0) → v = x → inB es x = true) := fun v h1 h2 => inB_at (by omega) (h1.symm.trans h2)
      have HV2 : Hid (∀ v, v = es.getD i (0, 0) → v ≠ x → ∀ j, j < i + 1 → es.getD j (0, 0) ≠ x) := fun v h1 h2 j hj => by
        by_cases hji : j < i
        · exact HN.out j hji
        · obtain rfl : j = i := by omega
          rw [← h1]; exact h2
      obtain ⟨v, hv⟩ : ∃ v, v = es.getD i (0, 0) := ⟨_, rfl⟩
      rw [← hv] at d1 d0
      have HVV := hidF hv
      clear c1 c0 hb hv
      by_cases he : v = x
      · subst he
        have HQ := hidF (HV.out v HVV.out rfl)
        clear HV HV2 HVV HN
        go_wp2_with fail
        go_region_held3 (fun w => w.cell? ⟨b, off + i * 2, none⟩ = some (.int .u64 (v.1 : Nat)) ∧ w.cell? ⟨b, off + i * 2 + 1, none⟩ = some (.int .u64 (v.2 : Nat)) ∧ w.cell? ⟨W.heap.size, 0, none⟩ = some (.int .u64 (v.1 : Nat)) ∧ w.cell? ⟨W.heap.size, 1, none⟩ = some (.int .u64 (v.2 : Nat))) (go_keep) (fail)
        go_wp2
        go_ret
        exact ⟨by rw [HQ.out]; rfl, HK.out.2.drew⟩
      · have HQ : Hid (∀ j, j < i + 1 → es.getD j (0, 0) ≠ x) := HV2.out v HVV.out he
        clear HV HV2 HVV HN
        obtain ⟨v1, v0⟩ := v
        obtain ⟨y1, y0⟩ := x
        dsimp only at *
        by_cases h1 : v1 = y1
        · have h0 : ¬ (v0 : Int) = (y0 : Int) := fun h => he (by rw [h1, show v0 = y0 by omega])
          subst h1
          clear he
          go_wp2_with fail
          go_region_held3 (fun w => w.cell? ⟨b, off + i * 2, none⟩ = some (.int .u64 (v1 : Nat)) ∧ w.cell? ⟨b, off + i * 2 + 1, none⟩ = some (.int .u64 (v0 : Nat)) ∧ w.cell? ⟨W.heap.size, 0, none⟩ = some (.int .u64 (v1 : Nat)) ∧ w.cell? ⟨W.heap.size, 1, none⟩ = some (.int .u64 (y0 : Nat))) (go_keep) (fail)
          go_wp2
          exact ⟨⟨i + 1, hlt, by simp, HQ, ⟨HK.out.1.drew, HK.out.2.drew⟩⟩, by simp [intOf]; omega⟩
        · have h0 : ¬ (v1 : Int) = (y1 : Int) := by omega
          clear he h1
          go_wp2_with fail
          go_region_held3 (fun w => w.cell? ⟨b, off + i * 2, none⟩ = some (.int .u64 (v1 : Nat)) ∧ w.cell? ⟨b, off + i * 2 + 1, none⟩ = some (.int .u64 (v0 : Nat)) ∧ w.cell? ⟨W.heap.size, 0, none⟩ = some (.int .u64 (y1 : Nat)) ∧ w.cell? ⟨W.heap.size, 1, none⟩ = some (.int .u64 (y0 : Nat))) (go_keep) (fail)
          go_wp2
          exact ⟨⟨i + 1, hlt, by simp, HQ, ⟨HK.out.1.drew, HK.out.2.drew⟩⟩, by simp [intOf]; omega⟩
    · obtain rfl : i = n := by omega
      have HQ := hidF (inB_no (es := es) (x := x) (fun j hj => HN.out j (by omega)))
      clear HN
      go_wp2
      go_ret
      exact ⟨by rw [HQ.out]; rfl, HK.out.2⟩
end Go.Proofs.Ytakaconhoodigaa
