/- Contracts of sumcheck's small functions over the seat's translation: allOf, allLong, vars, degree, hindrance; tables in memory. -/
import Derived.Test.YtfhojakhoobnhaaScP
import Derived.Test.YtfhojakhoobnhaaPCbB
import Derived.OrdersHeld
import Derived.Deep.RegionHeld3
namespace Go.Proofs.Ytfhojakhoobnhaa
open Go.RowKit
open Cb Ln Sc
open Tw (pm)

/-- Tables in memory: slices of elements, as a slice has them. -/
structure TRow (w : World) (a : Option Addr) (ts : List (List (Nat × Nat))) : Prop where
  cells : ∀ i, i < ts.length → ∃ (b off : Nat) (ra : Option Addr) (rc : Nat), a = some ⟨b, off, none⟩ ∧ b < w.heap.size ∧ w.cell? ⟨b, off + i, none⟩ = some (.slice ra (tb ts i).length rc) ∧ ERow w ra (tb ts i)
theorem TRow.below {w w' : World} {a : Option Addr} {ts : List (List (Nat × Nat))} (h : TRow w a ts) (hb : Below w.heap.size w w') : TRow w' a ts := ⟨fun i hi => by
  obtain ⟨b, off, ra, rc, h1, h2, h3, h5⟩ := h.cells i hi
  exact ⟨b, off, ra, rc, h1, Nat.lt_of_lt_of_le h2 hb.size, keepc hb h3, h5.below hb⟩⟩
/-- The same, no slice longer than its room. -/
structure TRowC (w : World) (a : Option Addr) (ts : List (List (Nat × Nat))) : Prop where
  cells : ∀ i, i < ts.length → ∃ (b off : Nat) (ra : Option Addr) (rc : Nat), a = some ⟨b, off, none⟩ ∧ b < w.heap.size ∧ w.cell? ⟨b, off + i, none⟩ = some (.slice ra (tb ts i).length rc) ∧ (tb ts i).length ≤ rc ∧ ERow w ra (tb ts i)
theorem TRowC.below {w w' : World} {a : Option Addr} {ts : List (List (Nat × Nat))} (h : TRowC w a ts) (hb : Below w.heap.size w w') : TRowC w' a ts := ⟨fun i hi => by
  obtain ⟨b, off, ra, rc, h1, h2, h3, h4, h5⟩ := h.cells i hi
  exact ⟨b, off, ra, rc, h1, Nat.lt_of_lt_of_le h2 hb.size, keepc hb h3, h4, h5.below hb⟩⟩
theorem TRowC.t {w : World} {a : Option Addr} {ts : List (List (Nat × Nat))} (h : TRowC w a ts) : TRow w a ts := ⟨fun i hi => by
  obtain ⟨b, off, ra, rc, h1, h2, h3, _, h5⟩ := h.cells i hi
  exact ⟨b, off, ra, rc, h1, h2, h3, h5⟩⟩
theorem take_ts (ts : List (List (Nat × Nat))) (j : Nat) (h : j < ts.length) : ts.take (j + 1) = ts.take j ++ [tb ts j] := by
  rw [List.take_succ_eq_append_getElem h]; simp [tb, h]
set_option maxHeartbeats 2000000 in
/-- Are all elements of a level? -/
theorem sall (l : Int) (a : Option Addr) (cap : Nat) (es : List (Nat × Nat)) (hes : ltE es) (W : World) (hr : ERow W a es) (h10 : es.length ≤ 100000) :
    Calls Try.prog 45 #[.int .i64 l, .slice a es.length cap] W fun e w' => e = .returned (.bool (es.all fun e => ofB l (e.1 : Int) (e.2 : Int))) ∧ Below W.heap.size W w' := by
  have HR : Hid (ERow W a es) := hr
  have HO : Hid (∀ j : Nat, Ret 64 #[.int .i64 l, .agg #[.int .u64 ((es.getD j (0, 0)).1 : Int), .int .u64 ((es.getD j (0, 0)).2 : Int)]] (.bool (ofB l ((es.getD j (0, 0)).1 : Int) ((es.getD j (0, 0)).2 : Int)))) := fun j => of_ret l _ _ (hes.at j).2
  clear hr hes
  go_enter Try.func45, Try.ntmps45
  go_wp2_with fail
  go_loopw [9] (fun u wr => ∃ j : Nat, j ≤ es.length ∧ u = .int .i64 j ∧ Hid ((es.take j).all (fun e => ofB l (e.1 : Int) (e.2 : Int)) = true) ∧ Below W.heap.size W wr) (fun u _ => es.length - (intOf u).toNat)
  case atStart => exact ⟨0, Nat.zero_le _, rfl, (by rfl), Below.refl _ _⟩
  case round =>
    obtain ⟨j, hj, rfl, HT, hD⟩ := hrel
    by_cases hlt : j < es.length
    · obtain ⟨b, off, rfl, hb, c1, c0⟩ := HR.out.cells j hlt
      have d1 : wr.cell? ⟨b, off + j * 2, none⟩ = some (.int .u64 ((es.getD j (0, 0)).1 : Nat)) := by rw [hD.cell (p := ⟨b, off + j * 2, none⟩) hb]; exact c1
      have d0 : wr.cell? ⟨b, off + j * 2 + 1, none⟩ = some (.int .u64 ((es.getD j (0, 0)).2 : Nat)) := by rw [hD.cell (p := ⟨b, off + j * 2 + 1, none⟩) hb]; exact c0
      have H1 := HO.out j
      have HD : Hid (Below W.heap.size W wr) := hD
      have HS : Hid (es.take (j + 1) = es.take j ++ [es.getD j (0, 0)]) := take_sn es j hlt
      have HM : Hid (es.getD j (0, 0) ∈ es) := by show _ ∈ _; rw [show es.getD j (0, 0) = es[j] by simp [hlt]]; exact List.getElem_mem hlt
      clear hD c1 c0 HR HO
      generalize es.getD j (0, 0) = x at *
      rcases hB : ofB l (x.1 : Int) (x.2 : Int) with _ | _
      · rw [hB] at H1
        go_wp2_with fail
        refine (H1.go _).mono ?_
        rintro e w4 ⟨rfl, hb4⟩
        have HD4 : Hid (Below W.heap.size W w4) := (HD.out.alloc HD.out.size _).trans (hb4.mono (by have := HD.out.size; simp; omega))
        clear hb4 d1 d0 HD
        go_wp2
        go_ret
        refine ⟨?_, HD4.out⟩
        rw [show (es.all fun e => ofB l (e.1 : Int) (e.2 : Int)) = false from by
          rw [List.all_eq_false]; exact ⟨x, HM.out, by rw [hB]; decide⟩]
        rfl
      · rw [hB] at H1
        go_wp2_with fail
        refine (H1.go _).mono ?_
        rintro e w4 ⟨rfl, hb4⟩
        have HD4 : Hid (Below W.heap.size W w4) := (HD.out.alloc HD.out.size _).trans (hb4.mono (by have := HD.out.size; simp; omega))
        clear hb4 d1 d0 HD
        go_wp2
        exact ⟨⟨j + 1, hlt, by simp, (by show _ = _; rw [HS.out, List.all_append, HT.out]; simp [hB]), HD4.out⟩, by simp [intOf]; omega⟩
    · have HD : Hid (Below W.heap.size W wr) := hD
      obtain rfl : j = es.length := by omega
      clear hD
      go_wp2
      go_ret
      refine ⟨?_, HD.out⟩
      have := HT.out
      rw [List.take_of_length_le (Nat.le_refl _)] at this
      rw [this]
      rfl
set_option maxHeartbeats 2000000 in
/-- Have all lists n elements? -/
theorem slong (a : Option Addr) (cap n : Nat) (ts : List (List (Nat × Nat))) (h10 : ts.length ≤ 100000) (W : World) (hr : TRow W a ts) :
    Calls Try.prog 71 #[.slice a ts.length cap, .int .i64 (n : Int)] W fun e w' => e = .returned (.bool (ts.all fun t => decide (t.length = n))) ∧ Below W.heap.size W w' := by
  have HR : Hid (TRow W a ts) := hr
  clear hr
  go_enter Try.func71, Try.ntmps71
  go_wp2_with fail
  go_loopw [9] (fun u wr => ∃ j : Nat, j ≤ ts.length ∧ u = .int .i64 j ∧ Hid ((ts.take j).all (fun t => decide (t.length = n)) = true) ∧ Below W.heap.size W wr) (fun u _ => ts.length - (intOf u).toNat)
  case atStart => exact ⟨0, Nat.zero_le _, rfl, (by rfl), Below.refl _ _⟩
  case round =>
    obtain ⟨j, hj, rfl, HT, hD⟩ := hrel
    have HD : Hid (Below W.heap.size W wr) := hD
    clear hD
    by_cases hlt : j < ts.length
    · obtain ⟨b, off, ra, rc, rfl, hb, cb, _⟩ := HR.out.cells j hlt
      have db := keepc HD.out cb
      have HS : Hid (ts.take (j + 1) = ts.take j ++ [tb ts j]) := take_ts ts j hlt
      have HM : Hid (tb ts j ∈ ts) := tb_mem hlt
      clear cb
      generalize tb ts j = x at *
      by_cases hx : x.length = n
      · have h2 : (x.length : Int) = (n : Int) := by omega
        go_wp2
        exact ⟨⟨j + 1, hlt, by simp, (by show _ = _; rw [HS.out, List.all_append, HT.out]; simp [hx]), HD.out⟩, by simp [intOf]; omega⟩
      · have h2 : ¬ (x.length : Int) = (n : Int) := by omega
        go_wp2
        go_ret
        refine ⟨?_, HD.out⟩
        rw [show (ts.all fun t => decide (t.length = n)) = false from by
          rw [List.all_eq_false]; exact ⟨x, HM.out, by simp [hx]⟩]
        rfl
    · obtain rfl : j = ts.length := by omega
      go_wp2
      go_ret
      refine ⟨?_, HD.out⟩
      have := HT.out
      rw [List.take_of_length_le (Nat.le_refl _)] at this
      rw [this]
      rfl
/-- How many variables tables have. -/
def vrs (ts : List (List (Nat × Nat))) : Int :=
  if ts.length = 0 then -1 else if (ts.all fun t => decide (t.length = (tb ts 0).length)) = true then (if lgz (tb ts 0).length ≤ 12 then lgz (tb ts 0).length else -1) else -1
set_option maxHeartbeats 2000000 in
theorem svars (a : Option Addr) (cap : Nat) (ts : List (List (Nat × Nat))) (h10 : ts.length ≤ 100000) (hlen : ∀ t ∈ ts, t.length ≤ 100000) (W : World) (hr : TRow W a ts) :
    Calls Try.prog 44 #[.slice a ts.length cap] W fun e w' => e = .returned (.int .i64 (vrs ts)) ∧ Below W.heap.size W w' := by
  have HR : Hid (TRow W a ts) := hr
  clear hr
  obtain ⟨y, hy⟩ : ∃ y, y = vrs ts := ⟨_, rfl⟩
  rw [← hy]
  by_cases h0 : ts.length = 0
  · have HZ : Hid (y = -1) := by show _ = _; rw [hy]; unfold vrs; rw [if_pos h0]
    have h0' : (ts.length : Int) = 0 := by omega
    clear hy
    go_enter Try.func44, Try.ntmps44
    go_wp2
    go_ret
    exact ⟨by rw [HZ.out]; rfl, Below.refl _ _⟩
  · have HZ : Hid (y = if (ts.all fun t => decide (t.length = (tb ts 0).length)) = true then (if lgz (tb ts 0).length ≤ 12 then lgz (tb ts 0).length else -1) else -1) := by show _ = _; rw [hy]; unfold vrs; rw [if_neg h0]
    have h0' : ¬ (ts.length : Int) = 0 := by omega
    have h0'' : (0 : Int) < (ts.length : Int) := by omega
    obtain ⟨b0, off0, ra0, rc0, ha0, hb0, cb0, _⟩ := HR.out.cells 0 (by omega)
    rw [Nat.add_zero] at cb0
    have hn : (tb ts 0).length ≤ 100000 := hlen _ (tb_mem (by omega))
    have HL : Hid (Ret 52 #[.int .i64 ((tb ts 0).length : Int)] (.int .i64 (lgz (tb ts 0).length))) := clog_any _ (by omega)
    clear hy
    generalize (tb ts 0).length = n at *
    subst ha0
    go_enter Try.func44, Try.ntmps44
    go_wp2_with fail
    go_loopw [16] (fun u wr => ∃ j : Nat, j ≤ ts.length ∧ u = .int .i64 j ∧ Hid ((ts.take j).all (fun t => decide (t.length = n)) = true) ∧ Below W.heap.size W wr) (fun u _ => ts.length - (intOf u).toNat)
    case atStart => exact ⟨0, Nat.zero_le _, rfl, (by rfl), Below.refl _ _⟩
    case round =>
      obtain ⟨j, hj, rfl, HT, hD⟩ := hrel
      have HD : Hid (Below W.heap.size W wr) := hD
      clear hD
      by_cases hlt : j < ts.length
      · obtain ⟨b, off, ra, rc, e0, hb, cb, _⟩ := HR.out.cells j hlt
        simp only [Option.some.injEq, Addr.mk.injEq] at e0
        obtain ⟨rfl, rfl, _⟩ := e0
        have db := keepc HD.out cb
        have HS : Hid (ts.take (j + 1) = ts.take j ++ [tb ts j]) := take_ts ts j hlt
        have HM : Hid (tb ts j ∈ ts) := tb_mem hlt
        clear cb cb0
        generalize tb ts j = x at *
        by_cases hx : x.length = n
        · have h2 : (x.length : Int) = (n : Int) := by omega
          go_wp2
          exact ⟨⟨j + 1, hlt, by simp, (by show _ = _; rw [HS.out, List.all_append, HT.out]; simp [hx]), HD.out⟩, by simp [intOf]; omega⟩
        · have h2 : ¬ (x.length : Int) = (n : Int) := by omega
          go_wp2
          go_ret
          refine ⟨?_, HD.out⟩
          rw [HZ.out, show (ts.all fun t => decide (t.length = n)) = false from by
            rw [List.all_eq_false]; exact ⟨x, HM.out, by simp [hx]⟩]
          rfl
      · obtain rfl : j = ts.length := by omega
        have hall : (ts.all fun t => decide (t.length = n)) = true := by
          have := HT.out
          rwa [List.take_of_length_le (Nat.le_refl _)] at this
        have HY : Hid (y = if lgz n ≤ 12 then lgz n else -1) := by show _ = _; rw [HZ.out, if_pos hall]
        clear HZ hall cb0
        generalize lgz n = g at *
        by_cases hg : g ≤ 12
        · go_wp2_with (go_at_call 52; refine (HL.out.go _).mono ?_; rintro e w1 ⟨rfl, hb1⟩)
          go_ret
          exact ⟨by rw [HY.out, if_pos hg]; rfl, HD.out.trans (hb1.mono HD.out.size)⟩
        · go_wp2_with (go_at_call 52; refine (HL.out.go _).mono ?_; rintro e w1 ⟨rfl, hb1⟩)
          go_ret
          exact ⟨by rw [HY.out, if_neg (by omega)]; rfl, HD.out.trans (hb1.mono HD.out.size)⟩
/-- The degree that Degree tells, at least 1. -/
def dgI (l : List Stp) : Int := max 1 (if chk 7 9223372036854775807 l = 0 then (dfun l (l.length - 1) : Int) else -1)
theorem sdegree (sa : Option Addr) (cap : Nat) (l : List Stp) (hl : ∀ o ∈ l, o.ok) (hm : l.length ≤ 100000) (W : World) (hR : ORow W sa l) :
    Calls Try.prog 58 #[.slice sa l.length cap] W fun e w' => e = .returned (.int .i64 (dgI l)) ∧ Below W.heap.size W w' := by
  have H := Hid.mkX (xdegree sa cap l hl hm W hR)
  unfold dgI
  clear hl hR
  generalize (if chk 7 9223372036854775807 l = 0 then (dfun l (l.length - 1) : Int) else -1) = y at *
  go_enter Try.func58, Try.ntmps58
  go_wp2_with (go_at_call 85; refine H.out.mono ?_; rintro e w1 ⟨rfl, hb1⟩)
  go_ret
  exact ⟨rfl, hb1⟩
end Go.Proofs.Ytfhojakhoobnhaa

/- A region that draws its order and whose last operation waits for all others: the last one is taken apart, and what holds till then need not hold behind it. -/
namespace Go
section
variable {P : Program} {md : Region.Mode} {Q : Exit → Act → World → Prop}

/-- As Q; at the normal end the operation number n comes first. -/
def peelQ (P : Program) (ops : Array Oper) (n : Nat) (Q : Exit → Act → World → Prop) : Exit → Act → World → Prop
  | .normal, a, w => wpOp P ops Q n (fun a' w' => Q .normal a' w') a w
  | e, a, w => Q e a w
theorem Oper.wp_peel {o : Oper} {a : Act} {w : World} {K : Act → World → Prop} {ops : Array Oper} {n : Nat} (hh : o.wp P a w K (peelQ P ops n Q)) : o.wp P a w K Q := by
  unfold Oper.wp at *
  generalize (execOp a.eval o).run P w = r at *
  cases r with
  | ok x w' =>
    cases x <;> simp only [Oper.upon] at hh ⊢ <;> first | exact hh | exact Calls.mono hh (fun e w'' he => by cases e <;> exact he)
  | halt x w' => cases x <;> simp only [Oper.upon] at hh ⊢ <;> exact hh
theorem wpOp_peel {ops ops' : Array Oper} {i n : Nat} {K : Act → World → Prop} {a : Act} {w : World} (hi : ops'[i]? = ops[i]?) (hw : ∀ o, ops[i]? = some o → Region.wanted o (yielded ops' a.tmps) = Region.wanted o (yielded ops a.tmps))
    (hh : wpOp P ops (peelQ P ops' n Q) i K a w) : wpOp P ops' Q i K a w := by
  unfold wpOp at hh ⊢
  rw [hi]
  cases ho : ops[i]? with
  | none => rw [ho] at hh; exact hh
  | some o =>
    rw [ho] at hh
    simp only at hh ⊢
    rw [hw o ho]
    split
    · rename_i h1
      rw [if_pos h1] at hh
      exact hh.imp Oper.wp_peel (fun h => ⟨h.1, h.2⟩)
    · rename_i h1
      rw [if_neg h1] at hh
      exact hh
theorem getD_push_false (l : Array Bool) (k : Nat) : (l.push false).getD k false = l.getD k false := by
  simp only [Array.getD_eq_getD_getElem?, Array.getElem?_push]
  by_cases h : k = l.size
  · subst h; simp
  · rw [if_neg h]
theorem getD_push_lt (l : Array Bool) (k : Nat) (b d : Bool) (h : k < l.size) : (l.push b).getD k d = l.getD k d := by
  simp only [Array.getD_eq_getD_getElem?, Array.getElem?_push]
  rw [if_neg (by omega)]
theorem ready_iff {ops : Array Oper} {l : Array Bool} {i : Nat} : i ∈ Region.ready md ops l ↔ l.getD i true = false ∧ ∃ o, ops[i]? = some o ∧ ∀ e ∈ o.after, Region.binds md e = true → l.getD e.on false = true := by
  unfold Region.ready
  rw [List.mem_filter, List.mem_range]
  cases ho : ops[i]? with
  | none => simp
  | some o =>
    have hlt : i < ops.size := by
      obtain ⟨h, _⟩ := Array.getElem?_eq_some_iff.1 ho
      exact h
    simp only [hlt, true_and, Option.map_some, Option.getD_some, Bool.and_eq_true, Bool.not_eq_true', Option.some.injEq]
    rw [Array.all_eq_true']
    constructor
    · rintro ⟨h1, h2⟩
      refine ⟨h1, o, rfl, fun e he hb => ?_⟩
      have := h2 e he
      rw [hb] at this
      simpa using this
    · rintro ⟨h1, o', rfl, h2⟩
      refine ⟨h1, fun e he => ?_⟩
      cases hb : Region.binds md e
      · rfl
      · simpa using h2 e he hb
/-- The last operation waits for all others (some through others), and these for such as stand ahead of them. -/
structure Peels (md : Region.Mode) (ops ops' : Array Oper) (st : Oper) (n : Nat) : Prop where
  size : ops.size = n
  push : ops' = ops.push st
  low : ∀ (i : Nat) (o : Oper), ops[i]? = some o → ∀ e ∈ o.after, Region.binds md e = true → e.on < i
  all : ∀ j, j < n → ∃ k o, j < k ∧ k ≤ n ∧ ops'[k]? = some o ∧ ∃ e ∈ o.after, Region.binds md e = true ∧ e.on = j
  own : ∀ e ∈ st.after, Region.binds md e = true → e.on < n
  same : ∀ (i : Nat) (o : Oper) (t : Array Value), ops[i]? = some o → Region.wanted o (yielded ops' t) = Region.wanted o (yielded ops t)
theorem Peels.at {ops ops' : Array Oper} {st : Oper} {n : Nat} (p : Peels md ops ops' st n) {i : Nat} (h : i < n) : ops'[i]? = ops[i]? := by
  rw [p.push, Array.getElem?_push, if_neg (by rw [p.size]; omega)]
theorem Peels.last {ops ops' : Array Oper} {st : Oper} {n : Nat} (p : Peels md ops ops' st n) : ops'[n]? = some st := by
  rw [p.push, Array.getElem?_push, if_pos p.size.symm]
/-- Where nothing is ready all has come up. -/
theorem Peels.listed {ops ops' : Array Oper} {st : Oper} {n : Nat} (p : Peels md ops ops' st n) {l : Array Bool} (hl : l.size = n) (h : Region.ready md ops l = []) : ∀ i, i < n → l.getD i false = true := by
  intro i
  induction i using Nat.strongRecOn with
  | _ i ih =>
    intro hi
    cases hb : l.getD i false with
    | true => rfl
    | false =>
      exfalso
      have ho : ∃ o, ops[i]? = some o := ⟨ops[i]'(by rw [p.size]; exact hi), by simp [p.size, hi]⟩
      obtain ⟨o, ho⟩ := ho
      have hm : i ∈ Region.ready md ops l := ready_iff.2 ⟨by
        simp only [Array.getD_eq_getD_getElem?] at hb ⊢
        have : ∃ b, l[i]? = some b := ⟨l[i]'(by rw [hl]; exact hi), by simp [hl, hi]⟩
        obtain ⟨b, hb2⟩ := this
        rw [hb2] at hb ⊢
        exact hb, o, ho, fun e he hbe => ih e.on (p.low i o ho e he hbe) (by have := p.low i o ho e he hbe; omega)⟩
      rw [h] at hm
      cases hm
theorem Peels.ready_low {ops ops' : Array Oper} {st : Oper} {n : Nat} (p : Peels md ops ops' st n) {l : Array Bool} (hl : l.size = n) {i : Nat} (hi : i < n) : i ∈ Region.ready md ops' (l.push false) ↔ i ∈ Region.ready md ops l := by
  rw [ready_iff, ready_iff, p.at hi, getD_push_lt l i false true (by omega)]
  simp only [getD_push_false]
theorem Peels.ready_lt {ops ops' : Array Oper} {st : Oper} {n : Nat} (p : Peels md ops ops' st n) {l : Array Bool} {i : Nat} (h : i ∈ Region.ready md ops' l) : i < n ∨ i = n := by
  obtain ⟨_, o, ho, _⟩ := ready_iff.1 h
  obtain ⟨h1, _⟩ := Array.getElem?_eq_some_iff.1 ho
  rw [p.push, Array.size_push, p.size] at h1
  omega
/-- What has come up came up behind what it waits for. -/
def Closed (md : Region.Mode) (ops : Array Oper) (l : Array Bool) : Prop := ∀ (i : Nat) (o : Oper), ops[i]? = some o → l.getD i false = true → ∀ e ∈ o.after, Region.binds md e = true → l.getD e.on false = true
theorem set_getD (l : Array Bool) (i k : Nat) (h : l.getD k false = true) : (l.setIfInBounds i true).getD k false = true := by
  simp only [Array.getD_eq_getD_getElem?, Array.getElem?_setIfInBounds] at h ⊢
  by_cases hi : i = k
  · subst hi
    rw [if_pos rfl]
    by_cases h2 : i < l.size
    · rw [if_pos h2]; rfl
    · rw [Array.getElem?_eq_none (by omega)] at h; cases h
  · rw [if_neg hi]; exact h
theorem getD_set (l : Array Bool) (i k : Nat) (h : (l.setIfInBounds i true).getD k false = true) (hk : k ≠ i) : l.getD k false = true := by
  simp only [Array.getD_eq_getD_getElem?, Array.getElem?_setIfInBounds] at h ⊢
  rw [if_neg (fun e => hk e.symm)] at h
  exact h
theorem Closed.set {ops : Array Oper} {l : Array Bool} (h : Closed md ops l) {i : Nat} (hi : i ∈ Region.ready md ops l) : Closed md ops (l.setIfInBounds i true) := by
  intro k o ho hk e he hb
  by_cases h1 : k = i
  · subst h1
    obtain ⟨_, o', ho', h2⟩ := ready_iff.1 hi
    rw [ho] at ho'
    obtain rfl := Option.some.inj ho'
    exact set_getD _ _ _ (h2 e he hb)
  · exact set_getD _ _ _ (h k o ho (getD_set l i k hk h1) e he hb)
theorem Peels.covered {ops ops' : Array Oper} {st : Oper} {n : Nat} (p : Peels md ops ops' st n) {l : Array Bool} (hc : Closed md ops l) (h : ∀ e ∈ st.after, Region.binds md e = true → l.getD e.on false = true) : ∀ d j, n - j = d → j < n → l.getD j false = true := by
  intro d
  induction d using Nat.strongRecOn with
  | _ d ih =>
    intro j hd hj
    obtain ⟨k, o, h1, h2, ho, e, he, hb, rfl⟩ := p.all j hj
    by_cases hk : k = n
    · subst hk
      rw [p.last] at ho
      obtain rfl := Option.some.inj ho
      exact h e he hb
    · have hk2 : k < n := by omega
      rw [p.at hk2] at ho
      exact hc k o ho (ih (n - k) (by omega) k rfl hk2) e he hb
theorem Peels.ready_last {ops ops' : Array Oper} {st : Oper} {n : Nat} (p : Peels md ops ops' st n) {l : Array Bool} (hl : l.size = n) (hc : Closed md ops l) : n ∈ Region.ready md ops' (l.push false) ↔ ∀ i, i < n → l.getD i false = true := by
  rw [ready_iff]
  constructor
  · rintro ⟨_, o, ho, h⟩ i hi
    rw [p.last] at ho
    obtain rfl := Option.some.inj ho
    refine p.covered hc (fun e he hb => ?_) _ i rfl hi
    have := h e he hb
    rwa [getD_push_false] at this
  · intro h
    refine ⟨by simp [Array.getD_eq_getD_getElem?, ← hl], st, p.last, fun e he hb => ?_⟩
    rw [getD_push_false]
    exact h e.on (p.own e he hb)
theorem push_set_lt (l : Array Bool) (i : Nat) (h : i < l.size) : (l.push false).setIfInBounds i true = (l.setIfInBounds i true).push false := by
  apply Array.ext_getElem?
  intro j
  rw [Array.getElem?_setIfInBounds, Array.getElem?_push, Array.getElem?_push, Array.getElem?_setIfInBounds, Array.size_setIfInBounds, Array.size_push]
  by_cases hj : j = l.size
  · subst hj
    rw [if_neg (by omega), if_pos rfl, if_pos rfl]
  · rw [if_neg hj, if_neg hj]
    by_cases hi : i = j
    · subst hi; rw [if_pos rfl, if_pos rfl, if_pos (by omega), if_pos h]
    · rw [if_neg hi, if_neg hi]
theorem Peels.end_ {ops ops' : Array Oper} {st : Oper} {n : Nat} (p : Peels md ops ops' st n) {l : Array Bool} (hl : l.size = n) (h : ∀ i, i < n → l.getD i false = true) : Region.ready md ops' ((l.push false).setIfInBounds n true) = [] := by
  rw [List.eq_nil_iff_forall_not_mem]
  intro i hi
  have hlt := p.ready_lt hi
  obtain ⟨h1, _⟩ := ready_iff.1 hi
  rcases hlt with h2 | rfl
  · have := h i h2
    simp only [Array.getD_eq_getD_getElem?, Array.getElem?_setIfInBounds, Array.getElem?_push] at h1 this
    rw [if_neg (by omega), if_neg (by omega)] at h1
    have he : ∃ b, l[i]? = some b := ⟨l[i]'(by rw [hl]; exact h2), by simp [hl, h2]⟩
    obtain ⟨b, hb⟩ := he
    rw [hb] at h1 this
    simp at h1 this
    rw [h1] at this
    cases this
  · simp [Array.getD_eq_getD_getElem?, ← hl] at h1
theorem wpAny_peel {ops ops' : Array Oper} {st : Oper} {n : Nat} (p : Peels md ops ops' st n) : ∀ (fuel : Nat) (l : Array Bool) (a : Act) (w : World), l.size = n → Closed md ops l → wpAny P md ops (peelQ P ops' n Q) fuel l a w → wpAny P md ops' Q (fuel + 1) (l.push false) a w
  | 0, l, a, w, hl, hc, h => by
    have hall := p.listed hl h.1
    refine ⟨fun h0 => ?_, fun i hi => ?_⟩
    · have := (p.ready_last hl hc).2 hall
      rw [h0] at this
      cases this
    · rcases p.ready_lt hi with h2 | rfl
      · have := (p.ready_low hl h2).1 hi
        rw [h.1] at this
        cases this
      · exact wpOp_mono (fun a' w' hq => ⟨p.end_ hl hall, hq⟩) h.2
  | fuel + 1, l, a, w, hl, hc, h => by
    refine ⟨fun h0 => ?_, fun i hi => ?_⟩
    · exfalso
      have hr : Region.ready md ops l = [] := by
        rw [List.eq_nil_iff_forall_not_mem]
        intro i hi
        obtain ⟨_, o, ho, _⟩ := ready_iff.1 hi
        obtain ⟨h1, _⟩ := Array.getElem?_eq_some_iff.1 ho
        have := (p.ready_low hl (i := i) (by rw [← p.size]; exact h1)).2 hi
        rw [h0] at this
        cases this
      have := (p.ready_last hl hc).2 (p.listed hl hr)
      rw [h0] at this
      cases this
    · rcases p.ready_lt hi with h2 | rfl
      · have hr := (p.ready_low hl h2).1 hi
        refine wpOp_peel (p.at h2) (fun o ho => p.same i o _ ho) (wpOp_mono (fun a' w' hq => ?_) (h.2 i hr))
        rw [push_set_lt l i (by omega)]
        exact wpAny_peel p fuel _ a' w' (by simpa using hl) (hc.set hr) hq
      · have hall := (p.ready_last hl hc).1 hi
        have hr : Region.ready md ops l = [] := by
          rw [List.eq_nil_iff_forall_not_mem]
          intro j hj
          obtain ⟨h1, o, ho, _⟩ := ready_iff.1 hj
          obtain ⟨h3, _⟩ := Array.getElem?_eq_some_iff.1 ho
          have h4 := hall j (by rw [← p.size]; exact h3)
          simp only [Array.getD_eq_getD_getElem?] at h1 h4
          have he : ∃ b, l[j]? = some b := ⟨l[j]'(by rw [hl, ← p.size]; exact h3), by simp [hl, ← p.size, h3]⟩
          obtain ⟨b, hb⟩ := he
          rw [hb] at h1 h4
          simp at h1 h4
          rw [h1] at h4
          cases h4
        refine wpOp_mono (fun a' w' hq => ?_) (h.1 hr)
        cases fuel with
        | zero => exact ⟨fun _ => hq, fun i hi => by rw [p.end_ hl hall] at hi; cases hi⟩
        | succ fuel => exact ⟨fun _ => hq, fun i hi => by rw [p.end_ hl hall] at hi; cases hi⟩
/-- Does the last operation wait for all others, and these for such as stand ahead of them alone? -/
def peelsB (ops' : Array Oper) (n : Nat) : Bool :=
  match ops'[n]? with
  | none => false
  | some st =>
    ((List.range n).all fun i => match ops'[i]? with
      | none => false
      | some o => (o.after.all fun e => !Region.binds .any e || decide (e.on < i)) && (match o.guard with | none => true | some (j, _) => decide (j < n))) &&
    ((List.range n).all fun j => (List.range (n + 1)).any fun k => decide (j < k) && (match ops'[k]? with | none => false | some o => o.after.any fun e => Region.binds .any e && e.on == j)) &&
    (st.after.all fun e => !Region.binds .any e || decide (e.on < n))
theorem pop_push {ops' : Array Oper} {n : Nat} (hn : ops'.size = n + 1) {st : Oper} (h : ops'[n]? = some st) : ops' = ops'.pop.push st := by
  apply Array.ext_getElem?
  intro j
  rw [Array.getElem?_push, Array.size_pop, hn]
  by_cases hj : j = n
  · subst hj; rw [if_pos (by omega), h]
  · rw [if_neg (by omega), Array.getElem?_pop]
    by_cases h2 : j < ops'.size - 1
    · rw [if_pos h2]
    · rw [if_neg h2, Array.getElem?_eq_none (by omega)]
theorem peels_of {ops' : Array Oper} {n : Nat} (hn : ops'.size = n + 1) (h : peelsB ops' n = true) : ∃ st, Peels .any ops'.pop ops' st n := by
  unfold peelsB at h
  cases hs : ops'[n]? with
  | none => rw [hs] at h; cases h
  | some st =>
    rw [hs] at h
    simp only [Bool.and_eq_true, List.all_eq_true, List.mem_range, Array.all_eq_true'] at h
    obtain ⟨⟨h1, h2⟩, h3⟩ := h
    have hp := pop_push hn hs
    have hat : ∀ (i : Nat) (o : Oper), ops'.pop[i]? = some o → i < n ∧ ops'[i]? = some o := fun i o ho => by
      rw [Array.getElem?_pop] at ho
      split at ho
      · exact ⟨by omega, ho⟩
      · cases ho
    refine ⟨st, by rw [Array.size_pop, hn]; omega, hp, fun i o ho e he hb => ?_, fun j hj => ?_, fun e he hb => ?_, fun i o t ho => ?_⟩
    · obtain ⟨hi, ho'⟩ := hat i o ho
      have := h1 i hi
      rw [ho'] at this
      simp only [Bool.and_eq_true, Array.all_eq_true'] at this
      have h4 := this.1 e he
      rw [hb] at h4
      simpa using h4
    · have h5 := h2 j hj
      rw [List.any_eq_true] at h5
      obtain ⟨k, hk, h6⟩ := h5
      rw [List.mem_range] at hk
      rw [Bool.and_eq_true] at h6
      cases ho : ops'[k]? with
      | none => rw [ho] at h6; cases h6.2
      | some o =>
        rw [ho] at h6
        have h7 := h6.2
        simp only [Array.any_eq_true', Bool.and_eq_true, beq_iff_eq] at h7
        obtain ⟨e, he, h8, h9⟩ := h7
        exact ⟨k, o, by simpa using h6.1, by omega, ho, e, he, h8, h9⟩
    · have h4 := h3 e he
      rw [hb] at h4
      simpa using h4
    · obtain ⟨hi, ho'⟩ := hat i o ho
      have := h1 i hi
      rw [ho'] at this
      simp only [Bool.and_eq_true] at this
      unfold Region.wanted
      cases hg : o.guard with
      | none => rfl
      | some q =>
        obtain ⟨j, want⟩ := q
        have h4 := this.2
        rw [hg] at h4
        have hj : j < n := by simpa using h4
        have : yielded ops' t j = yielded ops'.pop t j := by
          unfold yielded
          rw [Array.getElem?_pop, if_pos (by omega)]
        simp only [this]
/-- A region that draws its order, without its last operation, which waits for all others: what S says need not hold behind that one. -/
theorem wp_region_peel {id : Nat} {ops' : Array Oper} {a : Act} {w : World} {S : World → Prop} (n : Nat) (hm : P.follows .mixedOrders = true) (hn : ops'.size = n + 1) (hp : peelsB ops' n = true) (hS : S w.drew)
    (h : S w.drew → wpAnyH P .any ops'.pop (peelQ P ops' n Q) S n (Array.replicate n false) a w.drew) : (Code.region id ops' true).wp P Q a w := by
  obtain ⟨st, p⟩ := peels_of hn hp
  refine wp_region_any hm ?_
  have := wpAny_peel p n (Array.replicate n false) a w.drew (by simp) (fun i o _ hi => by
    simp only [Array.getD_eq_getD_getElem?, Array.getElem?_replicate] at hi
    split at hi <;> cases hi) (wpAny_of_held _ _ _ _ (h hS))
  rw [hn, Array.replicate_succ]
  exact this
/-- The last operation, at the end. -/
theorem peel_last {ops : Array Oper} {n : Nat} {o : Oper} {a : Act} {w : World} (ho : ops[n]? = some o)
    (h : ∀ K' : Act → World → Prop, (∀ a w, Q .normal a w → K' a w) → if Region.wanted o (yielded ops a.tmps) = true then Oper.wp P o a w K' Q else K' (a.put o.dst undef) w) : peelQ P ops n Q .normal a w :=
  wpOp_step ho h
end
end Go
