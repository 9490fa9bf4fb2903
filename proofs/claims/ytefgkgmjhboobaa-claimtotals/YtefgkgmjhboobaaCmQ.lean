/- ClaimCounts over the seat's translation: what is laid out of the claims, and the guards. -/
import Derived.Test.YtefgkgmjhboobaaCmE
import Derived.Test.YtefgkgmjhboobaaCmP
import Derived.Test.YtefgkgmjhboobaaCbH
namespace Go.Proofs.Ytefgkgmjhboobaa
open Go.RowKit
open Cb
open Cm
open Tw (pm)

def sflC (l : List Stp) : List Value := l.flatMap fun o => [.int .i64 o.k, .int .i64 o.a, .int .i64 o.b, .int .u64 (o.v.1 : Int), .int .u64 (o.v.2 : Int)]
theorem sflC_snoc (l : List Stp) (o : Stp) : sflC (l ++ [o]) = sflC l ++ [.int .i64 o.k, .int .i64 o.a, .int .i64 o.b, .int .u64 (o.v.1 : Int), .int .u64 (o.v.2 : Int)] := by simp [sflC]
theorem sflC_at (l : List Stp) : ∀ i, i < l.length → ∀ j, j < 5 → (sflC l)[i * 5 + j]? = [Value.int .i64 (l.getD i zst).k, .int .i64 (l.getD i zst).a, .int .i64 (l.getD i zst).b, .int .u64 ((l.getD i zst).v.1 : Int), .int .u64 ((l.getD i zst).v.2 : Int)][j]? := by
  induction l with
  | nil => intro i hi; simp at hi
  | cons o l ih =>
    intro i hi j hj
    have ef : sflC (o :: l) = [.int .i64 o.k, .int .i64 o.a, .int .i64 o.b, .int .u64 (o.v.1 : Int), .int .u64 (o.v.2 : Int)] ++ sflC l := by simp [sflC]
    rw [ef]
    rcases i with _ | i
    · rw [Nat.zero_mul, Nat.zero_add, List.getElem?_append_left (by simpa using hj)]
      rfl
    · have := ih i (by simpa using hi) j hj
      rw [List.getElem?_append_right (by simp; omega), show (i + 1) * 5 + j - [Value.int .i64 o.k, .int .i64 o.a, .int .i64 o.b, .int .u64 (o.v.1 : Int), .int .u64 (o.v.2 : Int)].length = i * 5 + j by simp; omega, this]
      rfl
theorem own_clm {w : World} {base : Nat} {T : TypeId} {s : Value} {l : List Stp} {n : Nat} (hn : l.length = n) (h : w.ownsRow base T 5 s n (sflC l)) : ∃ a cap, s = .slice a n cap ∧ ORow w a l := by
  subst hn
  rcases h.2 with ⟨h1, h0⟩ | ⟨g, cap, cur, rfl, _⟩
  · refine ⟨none, 0, ?_, ⟨fun i hi => by omega⟩⟩
    rw [h1, h0]
  · refine ⟨_, cap, rfl, ⟨fun i hi => ?_⟩⟩
    have e0 := h.cellAt (i * 5 + 0) (by omega)
    have e1 := h.cellAt (i * 5 + 1) (by omega)
    have e2 := h.cellAt (i * 5 + 2) (by omega)
    have e3 := h.cellAt (i * 5 + 3) (by omega)
    have e4 := h.cellAt (i * 5 + 4) (by omega)
    rw [sflC_at l i hi 0 (by decide)] at e0
    rw [sflC_at l i hi 1 (by decide)] at e1
    rw [sflC_at l i hi 2 (by decide)] at e2
    rw [sflC_at l i hi 3 (by decide)] at e3
    rw [sflC_at l i hi 4 (by decide)] at e4
    exact ⟨g, 0, rfl, cell_lt e0, by rw [Nat.zero_add]; exact e0, by rw [Nat.zero_add]; exact e1, by rw [Nat.zero_add]; exact e2, by rw [Nat.zero_add]; exact e3, by rw [Nat.zero_add]; exact e4⟩
theorem info_clm : ∃ i, Try.prog.info? 60 = some i ∧ i.zero = some (.agg #[.int .i64 0, .int .i64 0, .int .i64 0, .int .u64 0, .int .u64 0]) ∧ i.size = 5 ∧ i.bytes = 40 := by
  have h : (Try.prog.info? 60).map (fun i => (i.zero, i.size, i.bytes)) = some (some (.agg #[.int .i64 0, .int .i64 0, .int .i64 0, .int .u64 0, .int .u64 0]), 5, 40) := by kernel_rfl
  obtain ⟨i, hi, he⟩ := Option.map_eq_some_iff.1 h
  simp only [Prod.mk.injEq] at he
  exact ⟨i, hi, he.1, he.2.1, he.2.2⟩
/-- The claims with other values. -/
def otl (cl : List Stp) (vs : List (Nat × Nat)) : List Stp := (List.range cl.length).map fun i => { cl.getD i zst with v := el vs i }
theorem otl_len (cl : List Stp) (vs : List (Nat × Nat)) : (otl cl vs).length = cl.length := by simp [otl]
theorem otl_at (cl : List Stp) (vs : List (Nat × Nat)) {i : Nat} (h : i < cl.length) : (otl cl vs).getD i zst = { cl.getD i zst with v := el vs i } := by simp [otl, List.getD, h]
theorem ok_otl (cl : List Stp) (vs : List (Nat × Nat)) (hv : ltE vs) : okC (otl cl vs) := fun o ho => by
  unfold otl at ho
  obtain ⟨i, _, rfl⟩ := List.mem_map.1 ho
  exact ltE_el hv i
theorem all_otl {m : Nat} (hm : m < 8) (cl : List Stp) (vs : List (Nat × Nat)) (ov : ofT m vs) : ((otl cl vs).all fun o => ofB (m : Int) (o.v.1 : Int) (o.v.2 : Int)) = true := by
  rw [List.all_eq_true]
  intro o ho
  unfold otl at ho
  obtain ⟨i, _, rfl⟩ := List.mem_map.1 ho
  exact ov.el hm i
/-- Are the first so many the same? -/
def smB (cl : List Stp) (vs : List (Nat × Nat)) : Nat → Bool
  | 0 => true
  | i + 1 => smB cl vs i && decide ((cl.getD i zst).v = el vs i)
theorem smB_true {cl : List Stp} {vs : List (Nat × Nat)} : ∀ {n : Nat}, smB cl vs n = true → ∀ j, j < n → (cl.getD j zst).v = el vs j
  | 0, _, j, hj => by omega
  | n + 1, h, j, hj => by
    unfold smB at h
    rw [Bool.and_eq_true] at h
    by_cases e : j = n
    · rw [e]; exact of_decide_eq_true h.2
    · exact smB_true h.1 j (by omega)
theorem smB_false {cl : List Stp} {vs : List (Nat × Nat)} : ∀ {n : Nat}, smB cl vs n = false → ∃ j, j < n ∧ (cl.getD j zst).v ≠ el vs j
  | 0, h => by cases h
  | n + 1, h => by
    unfold smB at h
    rw [Bool.and_eq_false_iff] at h
    rcases h with h | h
    · obtain ⟨j, hj, e⟩ := smB_false h
      exact ⟨j, by omega, e⟩
    · exact ⟨n, by omega, of_decide_eq_false h⟩
theorem cnt_b (p : Nat → Bool) (i : Nat) (b : Bool) (h : p i = b) : Ln.cnt p (i + 1) = Ln.cnt p i + (if b = true then 1 else 0) := by rw [Ln.cnt, h]
theorem cnt_le_n (p : Nat → Bool) : ∀ n, Ln.cnt p n ≤ n
  | 0 => Nat.le_refl _
  | n + 1 => by rw [Ln.cnt]; have := cnt_le_n p n; split <;> omega
theorem tt_zero {m : Nat} (hm : m < 8) (cl : List Stp) (b : Nat × Nat) (ob : ofE m b) (h : (cl.all fun o => ofB (m : Int) (o.v.1 : Int) (o.v.2 : Int)) = true) : ttE (m : Int) cl b = 0 ∧ ttv (m : Int) cl b = tts cl b cl.length := by
  have e : ttE (m : Int) cl b = 0 := by unfold ttE; rw [if_pos (by omega), if_pos (show ofB (m : Int) (b.1 : Int) (b.2 : Int) = true from ob), if_pos h]
  refine ⟨e, ?_⟩
  unfold ttv; rw [if_pos e]
set_option maxHeartbeats 4000000 in
theorem cc_far (l : Int) (a c : Option Addr) (cap cap2 : Nat) (cl : List Stp) (vs : List (Nat × Nat)) (lv : ltE vs) (h : ¬ ((0 ≤ l ∧ l ≤ 2) ∧ cl.length ≤ 12 ∧ cl.length = vs.length ∧ (vs.all fun e => ofB l (e.1 : Int) (e.2 : Int)) = true)) (W : World) (rv : ERow W c vs) :
    Calls Try.prog 6 #[.int .i64 l, .slice a cl.length cap, .slice c vs.length cap2] W fun e w' => e = .returned (.bool true) ∧ Below W.heap.size W w' := by
  have AW := hidC awake22
  by_cases h1 : l < 0
  · clear h rv lv
    generalize cl.length = n at *
    generalize vs.length = k at *
    go_enter Try.func6, Try.ntmps6
    go_wp2_with (go_at_call 10; refine (AW.out.go _).mono ?_; rintro e w9 ⟨rfl, hb9⟩)
    go_ret
    exact ⟨rfl, hb9⟩
  · by_cases h2 : 2 < l
    · clear h rv lv
      generalize cl.length = n at *
      generalize vs.length = k at *
      go_enter Try.func6, Try.ntmps6
      go_wp2_with (go_at_call 10; refine (AW.out.go _).mono ?_; rintro e w9 ⟨rfl, hb9⟩)
      go_ret
      exact ⟨rfl, hb9⟩
    · by_cases h3 : cl.length ≤ 12
      · have h3' : ¬ 12 < (cl.length : Int) := by omega
        by_cases h4 : cl.length = vs.length
        · have hal : (vs.all fun e => ofB l (e.1 : Int) (e.2 : Int)) = false := by
            rw [Bool.eq_false_iff]
            exact fun h5 => h ⟨by omega, h3, h4, h5⟩
          have HR := hidC (ref_row c cap2 vs (by omega) W rv)
          have HA := hidC (fun (w : World) (g : Option Addr) (cp : Nat) (h : ERow w g vs) => rall15 l g cp vs lv w h (by omega))
          rw [hal] at HA
          clear h rv lv hal h3
          rw [h4]
          rw [h4] at h3'
          clear h4
          generalize vs.length = k at *
          go_enter Try.func6, Try.ntmps6
          go_wp2_with (first | (go_at_call 10; refine (AW.out.go _).mono ?_; rintro e w9 ⟨rfl, hb9⟩) | (go_at_call 16; refine (HR.out).mono ?_; rintro e w1 ⟨g1, c1, rfl, hr1, hb1⟩) | (go_at_call 23; refine (HA.out _ _ _ hr1).mono ?_; rintro e w2 ⟨rfl, hb2⟩))
          go_ret
          exact ⟨rfl, (hb1.trans (hb2.mono hb1.size)).trans (hb9.mono (hb1.trans (hb2.mono hb1.size)).size)⟩
        · have h4' : ¬ (cl.length : Int) = (vs.length : Int) := by omega
          clear h rv lv h4 h3
          generalize cl.length = n at *
          generalize vs.length = k at *
          go_enter Try.func6, Try.ntmps6
          go_wp2_with (go_at_call 10; refine (AW.out.go _).mono ?_; rintro e w9 ⟨rfl, hb9⟩)
          go_ret
          exact ⟨rfl, hb9⟩
      · have h3' : 12 < (cl.length : Int) := by omega
        clear h rv lv h3
        generalize cl.length = n at *
        generalize vs.length = k at *
        go_enter Try.func6, Try.ntmps6
        go_wp2_with (go_at_call 10; refine (AW.out.go _).mono ?_; rintro e w9 ⟨rfl, hb9⟩)
        go_ret
        exact ⟨rfl, hb9⟩
end Go.Proofs.Ytefgkgmjhboobaa
