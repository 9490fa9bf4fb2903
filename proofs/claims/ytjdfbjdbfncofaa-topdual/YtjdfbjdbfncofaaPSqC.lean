/- The rows of a list one behind the other, no Go in sight, and the contract of span's add. -/
import Derived.Test.YtjdfbjdbfncofaaSqA
import Derived.Test.YtjdfbjdbfncofaaLpV
namespace Go.Proofs.Ytjdfbjdbfncofaa
open Go.RowKit
namespace Sq
open Cb
open Rg

abbrev Row := (Nat × Nat) × (Nat × Nat)
def sms (rs : List Row) : List (Nat × Nat) := rs.map Prod.fst
theorem sms_len (rs : List Row) : (sms rs).length = rs.length := by simp [sms]
theorem redv_red (rs : List Row) (x : Nat × Nat) : ∀ m, m ≤ rs.length → (redv rs x m).1 = red (sms (rs.take m)) x
  | 0, _ => by simp [redv, sms, red]
  | m + 1, h => by
    have i := redv_red rs x m (by omega)
    have e : rs.take (m + 1) = rs.take m ++ [rs[m]] := by rw [List.take_succ_eq_append_getElem]
    rw [e]
    unfold sms
    rw [List.map_append, List.map_cons, List.map_nil, red_snoc]
    have g : rs.getD m ((0, 0), (0, 0)) = rs[m] := by simp [List.getD, show m < rs.length from h]
    unfold redv
    rw [g, i]
    unfold st
    show Prod.fst (if hs (red (sms (rs.take m)) x) (ld rs[m].1) = true then _ else _) = if hs (red (sms (rs.take m)) x) (ld rs[m].1) = true then _ else _
    split
    · rfl
    · exact i
theorem redv_all (rs : List Row) (x : Nat × Nat) : (redv rs x rs.length).1 = red (sms rs) x := by
  rw [redv_red rs x _ (Nat.le_refl _), List.take_length]
theorem outv_fst (r o : Row) : (outv (ld r.1) r o).1 = st o.1 r.1 := by
  unfold outv st
  show (if hs o.1 (ld r.1) = true then _ else _ : Row).1 = if hs o.1 (ld r.1) = true then _ else _
  split <;> rfl
/-- The rows with one more. -/
def more (rs : List Row) (r : Row) : List Row := rs.map (outv (ld r.1) r) ++ [r]
theorem sms_more (rs : List Row) (r : Row) : sms (more rs r) = (sms rs).map (fun o => st o r.1) ++ [r.1] := by
  unfold sms more
  rw [List.map_append, List.map_map, List.map_map]
  congr 1
  exact List.map_congr_left fun o _ => outv_fst r o
theorem more_len (rs : List Row) (r : Row) : (more rs r).length = rs.length + 1 := by simp [more]
def ofs (rs : List Row) : List (Nat × Nat) := rs.map Prod.snd
theorem ltR_of {rs : List Row} (h : RR (sms rs)) (h2 : ltE (ofs rs)) : ltR rs := fun r hr => ⟨h.lt r.1 (List.mem_map.2 ⟨r, hr, rfl⟩), h2 r.2 (List.mem_map.2 ⟨r, hr, rfl⟩), h.ne r.1 (List.mem_map.2 ⟨r, hr, rfl⟩)⟩
theorem lt_more {rs : List Row} {r : Row} (h : ltE (ofs rs)) (hr : lt2 r.2) : ltE (ofs (more rs r)) := fun e he => by
  obtain ⟨o, ho, rfl⟩ := List.mem_map.1 he
  simp only [more, List.mem_append, List.mem_map, List.mem_singleton] at ho
  rcases ho with ⟨p, hp, rfl⟩ | rfl
  · have h2 := h p.2 (List.mem_map.2 ⟨p, hp, rfl⟩)
    unfold outv; split
    · exact ⟨Nat.xor_lt_two_pow h2.1 hr.1, Nat.xor_lt_two_pow h2.2 hr.2⟩
    · exact h2
  · exact hr
/-- The rows and the new elements of the first i of a list. -/
def stp (s : List Row × List Nat) (i : Nat) (x : Nat × Nat) : List Row × List Nat :=
  let q := redv s.1 x s.1.length
  if q.1 = (0, 0) then s else (more s.1 (q.1, xa q.2 (bv (s.2.length : Int))), s.2 ++ [i])
def elm (l : List (Nat × Nat)) : Nat → List Row × List Nat
  | 0 => ([], [])
  | i + 1 => stp (elm l i) i (el l i)
/-- What holds of them. -/
structure EI (l : List (Nat × Nat)) (i : Nat) (s : List Row × List Nat) : Prop where
  rr : RR (sms s.1)
  eqs : Eqs (sms s.1) (l.take i)
  len : s.1.length = s.2.length
  le : s.2.length ≤ i
  of : ltE (ofs s.1)
theorem take_el {l : List (Nat × Nat)} {i : Nat} (hi : i < l.length) : l.take (i + 1) = l.take i ++ [el l i] := by
  rw [List.take_succ_eq_append_getElem hi]
  congr 2
  simp [el, List.getD, hi]
theorem Eqs.trans {a b c : List (Nat × Nat)} (h : Eqs a b) (k : Eqs b c) : Eqs a c := fun x => (h x).trans (k x)
theorem Eqs.symm {a b : List (Nat × Nat)} (h : Eqs a b) : Eqs b a := fun x => (h x).symm
theorem EI.step {l : List (Nat × Nat)} (hl : ltE l) {i : Nat} (hi : i < l.length) {s : List Row × List Nat} (h : EI l i s) : EI l (i + 1) (stp s i (el l i)) := by
  have hx : lt2 (el l i) := ltE_el hl i
  have er := redv_all s.1 (el l i)
  unfold stp
  simp only
  by_cases c : (redv s.1 (el l i) s.1.length).1 = (0, 0)
  · rw [if_pos c]
    refine ⟨h.rr, ?_, h.len, Nat.le_succ_of_le h.le, h.of⟩
    rw [take_el hi]
    have : Sp (l.take i) (el l i) := (h.eqs _).1 ((red_iff h.rr _).2 (er ▸ c))
    exact h.eqs.trans (sp_in this).symm
  · rw [if_neg c]
    have lr := redv_lt (ltR_of h.rr h.of) (el l i) hx.1 hx.2 s.1.length (Nat.le_refl _)
    generalize redv s.1 (el l i) s.1.length = q at *
    have hb := red_bit h.rr (el l i)
    rw [← er] at hb
    refine ⟨?_, ?_, ?_, ?_, ?_⟩
    · show RR (sms (more s.1 _))
      rw [sms_more]
      exact rr_more h.rr lr.1 c hb
    · show Eqs (sms (more s.1 _)) _
      rw [sms_more, take_el hi]
      refine (sp_more _ _).trans ?_
      have := sp_left h.eqs (el l i)
      rwa [← er] at this
    · show (more s.1 _).length = _
      rw [more_len, List.length_append, h.len]; rfl
    · show (s.2 ++ [i]).length ≤ _
      rw [List.length_append]; have := h.le; simp; omega
    · exact lt_more h.of (lt_xa lr.2 (bv_lt2 _))
theorem elm_ei {l : List (Nat × Nat)} (hl : ltE l) : ∀ i, i ≤ l.length → EI l i (elm l i)
  | 0, _ => ⟨RR.nil, fun _ => by simp [sms, elm], rfl, Nat.le_refl _, fun _ h => by simp [ofs, elm] at h⟩
  | i + 1, h => (elm_ei hl i (by omega)).step hl h
/-- While a row is laid beside: the rows behind m of them. -/
def outs (rs : List Row) (r : Row) (L : Nat) : Nat → List Row
  | 0 => rs
  | m + 1 => (outs rs r L m).set m (outv L r (rs.getD m ((0, 0), (0, 0))))
theorem outs_len (rs : List Row) (r : Row) (L : Nat) : ∀ m, (outs rs r L m).length = rs.length
  | 0 => rfl
  | m + 1 => by unfold outs; rw [List.length_set, outs_len rs r L m]
theorem outs_at (rs : List Row) (r : Row) (L : Nat) : ∀ m j, j < rs.length → (outs rs r L m)[j]? = some (if j < m then outv L r (rs.getD j ((0, 0), (0, 0))) else rs.getD j ((0, 0), (0, 0)))
  | 0, j, hj => by simp [outs, List.getD, hj]
  | m + 1, j, hj => by
    unfold outs
    rw [List.getElem?_set]
    by_cases e : m = j
    · subst e
      rw [if_pos rfl, outs_len, if_pos hj, if_pos (by omega)]
    · rw [if_neg e, outs_at rs r L m j hj]
      by_cases c : j < m
      · rw [if_pos c, if_pos (by omega)]
      · rw [if_neg c, if_neg (by omega)]
theorem outs_all (rs : List Row) (r : Row) (L : Nat) : outs rs r L rs.length = rs.map (outv L r) := by
  refine List.ext_getElem? fun j => ?_
  by_cases hj : j < rs.length
  · rw [outs_at rs r L _ j hj, if_pos hj]
    simp [List.getD, hj]
  · rw [List.getElem?_eq_none (by rw [outs_len]; omega), List.getElem?_eq_none (by simp; omega)]
theorem outs_get (rs : List Row) (r : Row) (L m : Nat) (hm : m < rs.length) : (outs rs r L m).getD m ((0, 0), (0, 0)) = rs.getD m ((0, 0), (0, 0)) := by
  show ((outs rs r L m)[m]?).getD _ = _
  rw [outs_at rs r L m m hm, if_neg (by omega)]
  rfl
end Sq
open Sq
/-- A row of one's own where its block is as it was. -/
theorem own_keep {w w' : World} {base size n : Nat} {T : TypeId} {v : Value} {xs : List Value} (h : w.ownsRow base T size v n xs) (k : ∀ g, v.ownBlock = some g → w'.heap[g]? = w.heap[g]?) : w'.ownsRow base T size v n xs := by
  obtain ⟨h1, h2⟩ := h
  refine ⟨h1, ?_⟩
  rcases h2 with h2 | ⟨g, cap, cur, e, hb, hg, hn, hm, hsz, ht⟩
  · exact .inl h2
  · refine .inr ⟨g, cap, cur, e, hb, ?_, hn, hm, hsz, ht⟩
    rw [k g (by rw [e]; rfl)]; exact hg
theorem own_unlike {w : World} {b1 b2 : Nat} {T U : TypeId} {s1 s2 : Nat} {v1 v2 : Value} {n1 n2 : Nat} {ys zs : List Value} (h1 : w.ownsRow b1 T s1 v1 n1 ys) (h2 : w.ownsRow b2 U s2 v2 n2 zs) (hn : T ≠ U) : ∀ g, v2.ownBlock = some g → v1.ownBlock ≠ some g := by
  intro g e2 e1
  rcases h1.2 with ⟨h, _⟩ | ⟨g1, _, c1, e, _, hh1, _⟩
  · rw [h] at e1; cases e1
  rcases h2.2 with ⟨h, _⟩ | ⟨g2, _, c2, e', _, hh2, _⟩
  · rw [h] at e2; cases e2
  rw [e] at e1
  rw [e'] at e2
  simp [Value.ownBlock] at e1 e2
  subst e1 e2
  rw [hh1] at hh2
  simp at hh2
  exact hn hh2.2
end Go.Proofs.Ytjdfbjdbfncofaa

/- The contract of span's add over any rows, over the seat's translation. -/
namespace Go.Proofs.Ytjdfbjdbfncofaa
open Go.RowKit
open Sq

set_option maxHeartbeats 8000000 in
set_option maxRecDepth 100000 in
theorem sadd_none (B sh sl oh ol : Nat) (L : Int) (v : Value) (W : World) (hB : B < W.heap.size) (c0 : W.cell? ⟨B, 0, none⟩ = some (.slice none 0 0)) (f0 : W.frozen? ⟨B, 0, none⟩ = false) (c1 : W.cell? ⟨B, 1, none⟩ = some v) (f1 : W.frozen? ⟨B, 1, none⟩ = false)
    (HL : Ret 40 #[.agg #[.int .u64 (sh : Int), .int .u64 (sl : Int)]] (.int .i64 L)) :
    Calls Try.prog 60 #[.pointer (some ⟨B, 0, none⟩), .agg #[.int .u64 (sh : Int), .int .u64 (sl : Int), .int .u64 (oh : Int), .int .u64 (ol : Int)]] W fun e w' => ∃ v', e = .returned (.tuple #[]) ∧ w'.cell? ⟨B, 0, none⟩ = some v' ∧ w'.frozen? ⟨B, 0, none⟩ = false ∧ w'.cell? ⟨B, 1, none⟩ = some v ∧ w'.frozen? ⟨B, 1, none⟩ = false ∧ w'.ownsRow (B + 1) 95 4 v' 1 (flatR [((sh, sl), (oh, ol))]) ∧ (∃ g', v'.ownBlock = some g' ∧ W.heap.size ≤ g') ∧ Below B W w' ∧ ∀ k, k < W.heap.size → k ≠ B → w'.heap[k]? = W.heap[k]? := by
  have hne : ¬ W.heap.size = B ∧ ¬ B = W.heap.size := by omega
  have HK : Hid (W.cell? ⟨B, 0, none⟩ = some (.slice none 0 0) ∧ W.frozen? ⟨B, 0, none⟩ = false ∧ W.cell? ⟨B, 1, none⟩ = some v ∧ W.frozen? ⟨B, 1, none⟩ = false) := ⟨c0, f0, c1, f1⟩
  obtain ⟨i0, hi, hz0, hz1, hz2⟩ := info_srow
  have HN : Hid (Try.prog.info? 95 = some i0 ∧ i0.zero = some (.agg #[.int .u64 0, .int .u64 0, .int .u64 0, .int .u64 0]) ∧ i0.size = 4 ∧ i0.bytes = 32) := ⟨hi, hz0, hz1, hz2⟩
  clear c0 f0 c1 f1 hi hz0 hz1 hz2
  go_enter Try.func60, Try.ntmps60
  go_wp2_with fail
  refine (HL.go _).mono ?_
  rintro e w1 ⟨rfl, hb1⟩
  have D1 : Below W.heap.size W w1 := ((Below.refl _ _).alloc (Nat.le_refl _) _).trans (hb1.mono (by simp <;> omega))
  have r0 : w1.cell? ⟨W.heap.size, 0, none⟩ = some (.int .u64 (sh : Int)) := keepc hb1 (by simp [go_sem])
  have r1 : w1.cell? ⟨W.heap.size, 1, none⟩ = some (.int .u64 (sl : Int)) := keepc hb1 (by simp [go_sem])
  have r2 : w1.cell? ⟨W.heap.size, 2, none⟩ = some (.int .u64 (oh : Int)) := keepc hb1 (by simp [go_sem])
  have r3 : w1.cell? ⟨W.heap.size, 3, none⟩ = some (.int .u64 (ol : Int)) := keepc hb1 (by simp [go_sem])
  have e0 : w1.cell? ⟨B, 0, none⟩ = some (.slice none 0 0) := keepc D1 HK.out.1
  have hw1 : W.heap.size < w1.heap.size := cell_lt r0
  clear hb1
  go_wp2_with fail
  go_rounds 1
  go_upto_region 9 with fail
  refine wp_region_noPanic ?_
  refine wp_region_peel (S := fun w => w.cell? ⟨B, 0, none⟩ = some (.slice none 0 0) ∧ w.cell? ⟨W.heap.size, 0, none⟩ = some (.int .u64 (sh : Int)) ∧ w.cell? ⟨W.heap.size, 1, none⟩ = some (.int .u64 (sl : Int)) ∧ w.cell? ⟨W.heap.size, 2, none⟩ = some (.int .u64 (oh : Int)) ∧ w.cell? ⟨W.heap.size, 3, none⟩ = some (.int .u64 (ol : Int))) 10 (by kernel_rfl) rfl (by kernel_rfl) ?_ (fun hHeld => ?_)
  · exact ⟨e0, r0, r1, r2, r3⟩
  refine wpAnyH_take (i := 0) (oi := _) (v := ?_) rfl (by kernel_rfl) (by kernel_rfl) (by kernel_rfl) (fun _ _ _ h => h) (Or.inl ⟨by rfl, ?_⟩) (by assumption) ?_
  rotate_left
  · ((intro w hSw; (try dsimp only at hSw); go_simp) <;> (try with_reducible rfl))
  try simp only [Act.put]
  refine wpAnyH_take (i := 1) (oi := _) (v := ?_) rfl (by kernel_rfl) (by kernel_rfl) (by kernel_rfl) (fun _ _ _ h => h) (Or.inl ⟨by rfl, ?_⟩) (by assumption) ?_
  rotate_left
  · ((intro w hSw; (try dsimp only at hSw); go_simp) <;> (try with_reducible rfl))
  try simp only [Act.put]
  refine wpAnyH_take (i := 2) (oi := _) (v := ?_) rfl (by kernel_rfl) (by kernel_rfl) (by kernel_rfl) (fun _ _ _ h => h) (Or.inl ⟨by rfl, ?_⟩) (by assumption) ?_
  rotate_left
  · ((intro w hSw; (try dsimp only at hSw); go_simp) <;> (try with_reducible rfl))
  try simp only [Act.put]
  refine wpAnyH_take (i := 3) (oi := _) (v := ?_) rfl (by kernel_rfl) (by kernel_rfl) (by kernel_rfl) (fun _ _ _ h => h) (Or.inl ⟨by rfl, ?_⟩) (by assumption) ?_
  rotate_left
  · ((intro w hSw; (try dsimp only at hSw); go_simp) <;> (try with_reducible rfl))
  try simp only [Act.put]
  refine wpAnyH_take (i := 4) (oi := _) (v := ?_) rfl (by kernel_rfl) (by kernel_rfl) (by kernel_rfl) (fun _ _ _ h => h) (Or.inl ⟨by rfl, ?_⟩) (by assumption) ?_
  rotate_left
  · ((intro w hSw; (try dsimp only at hSw); go_simp) <;> (try with_reducible rfl))
  try simp only [Act.put]
  refine wpAnyH_take (i := 5) (oi := _) (v := ?_) rfl (by kernel_rfl) (by kernel_rfl) (by kernel_rfl) (fun _ _ _ h => h) (Or.inl ⟨by rfl, ?_⟩) (by assumption) ?_
  rotate_left
  · ((intro w hSw; (try dsimp only at hSw); go_simp) <;> (try with_reducible rfl))
  try simp only [Act.put]
  refine wpAnyH_ready (rs := [6]) (by kernel_rfl) (by simp) ?_
  refine AllReadyH.cons (o := _) rfl (fun KK hKK => ?_) AllReadyH.nil
  go_simp
  refine hKK.out _ _ ?_ (fun hHeld => ?_)
  · go_keep
  clear hKK KK
  try simp only [Act.put]
  refine wpAnyH_ready (rs := [7]) (by kernel_rfl) (by simp) ?_
  refine AllReadyH.cons (o := _) rfl (fun KK hKK => ?_) AllReadyH.nil
  simp only [Array.getElem_pop, List.getElem_toArray, List.getElem_cons_succ, List.getElem_cons_zero]
  rw [if_pos (by rfl)]
  refine wp_append_own _ _ _ 72 rfl (W.heap.size + 1) 95 i0 (.agg #[.int .u64 0, .int .u64 0, .int .u64 0, .int .u64 0]) 4 32 Try.underlying72 HN.out.1 HN.out.2.1 HN.out.2.2.1 HN.out.2.2.2 rfl (by decide) (.slice none 0 0) 0 [] rfl (World.ownsRow_nil _ _ _ _) ⟨w1.heap.size, 0, none⟩ 1 1 [.int .u64 (sh : Int), .int .u64 (sl : Int), .int .u64 (oh : Int), .int .u64 (ol : Int)] rfl rfl ?_ ?_ (by decide) (by decide) ?_ ?_
  · exact fun p u hu => by rcases p with _ | _ | _ | _ | p <;> simp at hu <;> subst hu <;> simp [go_sem]
  · intro u hu; simp at hu; rcases hu with rfl | rfl | rfl | rfl <;> rfl
  · simp; omega
  intro v' w' hown hgr _
  have BB : Below w1.heap.size w1 w' := ((Below.refl _ _).drew.alloc (Nat.le_refl _) _).grown hgr (by simp) (fun k hk => by simp [Value.ownBlock] at hk)
  obtain ⟨a2, c2, rfl, HG⟩ : ∃ a c, v' = .slice a 1 c ∧ ∃ g', v'.ownBlock = some g' ∧ W.heap.size ≤ g' := by
    rcases hown.2 with ⟨_, h0⟩ | ⟨g, cap, cur, rfl, hbb, _⟩
    · omega
    · exact ⟨_, _, rfl, g, rfl, by omega⟩
  refine hKK.out _ _ ?_ (fun hHeld => ?_)
  · exact ⟨keepc BB e0, keepc BB r0, keepc BB r1, keepc BB r2, keepc BB r3⟩
  clear hKK KK
  try simp only [Act.put]
  refine wpAnyH_take (i := 8) (oi := _) (v := ?_) rfl (by kernel_rfl) (by kernel_rfl) (by kernel_rfl) (fun _ _ _ h => h) (Or.inl ⟨by rfl, ?_⟩) (by assumption) ?_
  rotate_left
  · ((intro w hSw; (try dsimp only at hSw); go_simp) <;> (try with_reducible rfl))
  try simp only [Act.put]
  refine wpAnyH_take (i := 9) (oi := _) (v := ?_) rfl (by kernel_rfl) (by kernel_rfl) (by kernel_rfl) (fun _ _ _ h => h) (Or.inl ⟨by rfl, ?_⟩) (by assumption) ?_
  rotate_left
  · ((intro w hSw; (try dsimp only at hSw); go_simp) <;> (try with_reducible rfl))
  try simp only [Act.put]
  refine wpAnyH_done (by kernel_rfl) ?_ _
  refine peel_last rfl (fun KK hKK => ?_)
  have BW : Below W.heap.size W w' := D1.trans (BB.mono D1.size)
  have e0' := keepc BW HK.out.1
  have g0' := keepf BW HK.out.1 HK.out.2.1
  have e1' := keepc BW HK.out.2.2.1
  have g1' := keepf BW HK.out.2.2.1 HK.out.2.2.2
  have y0 : w'.frozen? ⟨B, 0, none⟩ = false := keepf BW HK.out.1 HK.out.2.1
  have hown2 := own_base hown (show B + 1 ≤ W.heap.size + 1 by omega)
  have F : Hid ((w'.setCell ⟨B, 0, none⟩ (.slice a2 1 c2)).cell? ⟨B, 0, none⟩ = some (.slice a2 1 c2) ∧ (w'.setCell ⟨B, 0, none⟩ (.slice a2 1 c2)).frozen? ⟨B, 0, none⟩ = false ∧ (w'.setCell ⟨B, 0, none⟩ (.slice a2 1 c2)).cell? ⟨B, 1, none⟩ = some v ∧ (w'.setCell ⟨B, 0, none⟩ (.slice a2 1 c2)).frozen? ⟨B, 1, none⟩ = false ∧ (w'.setCell ⟨B, 0, none⟩ (.slice a2 1 c2)).ownsRow (B + 1) 95 4 (.slice a2 1 c2) 1 (flatR [((sh, sl), (oh, ol))]) ∧ (∃ g', (Value.slice a2 1 c2).ownBlock = some g' ∧ W.heap.size ≤ g') ∧ Below B W (w'.setCell ⟨B, 0, none⟩ (.slice a2 1 c2)) ∧ ∀ k, k < W.heap.size → k ≠ B → (w'.setCell ⟨B, 0, none⟩ (.slice a2 1 c2)).heap[k]? = W.heap[k]?) := ⟨by simp [go_sem, e0'], by simp [go_sem, y0], by simp [go_sem, e1'], by simp [go_sem, g1'], ownsRow_setCell_below hown2 (by show B < B + 1; omega) _, HG, (BW.mono (Nat.le_of_lt hB)).setCell (Nat.le_refl _) _, fun k h1 h2 => (Below.heap_setCell _ _ _ _ h2).trans (BW.block k h1)⟩
  clear hHeld r0 r1 r2 r3 e0 hown hown2 hgr BB BW D1 e1' g1' y0 HG
  go_simp
  refine hKK _ _ ?_
  refine NoPanic.normal ?_
  clear hKK KK e0' g0'
  generalize w'.setCell ⟨B, 0, none⟩ (.slice a2 1 c2) = w9 at *
  go_wp2
  go_end0
  exact ⟨rfl, _, F.out⟩

/-- What the rows are while elements come: their two slices, and the struct that holds these. -/
theorem sadd_any (B : Nat) (v0 v : Value) (rs : List Row) (r : Row) (W : World) (hB : B < W.heap.size) (c0 : W.cell? ⟨B, 0, none⟩ = some v0) (f0 : W.frozen? ⟨B, 0, none⟩ = false) (c1 : W.cell? ⟨B, 1, none⟩ = some v) (f1 : W.frozen? ⟨B, 1, none⟩ = false)
    (own : W.ownsRow (B + 1) 95 4 v0 rs.length (flatR rs)) (hn : rs.length ≤ 1000) (ht : ltR rs) (h1 : Cb.lt2 r.1) (h2 : Cb.lt2 r.2) (h0 : r.1 ≠ (0, 0)) :
    Calls Try.prog 60 #[.pointer (some ⟨B, 0, none⟩), .agg #[.int .u64 (r.1.1 : Int), .int .u64 (r.1.2 : Int), .int .u64 (r.2.1 : Int), .int .u64 (r.2.2 : Int)]] W fun e w' => ∃ v', e = .returned (.tuple #[]) ∧ w'.cell? ⟨B, 0, none⟩ = some v' ∧ w'.frozen? ⟨B, 0, none⟩ = false ∧ w'.cell? ⟨B, 1, none⟩ = some v ∧ w'.frozen? ⟨B, 1, none⟩ = false ∧ w'.ownsRow (B + 1) 95 4 v' (more rs r).length (flatR (more rs r)) ∧ Below B W w' ∧ (∀ k, k < W.heap.size → k ≠ B → v0.ownBlock ≠ some k → w'.heap[k]? = W.heap[k]?) := by
  have HL : Ret 40 #[.agg #[.int .u64 (r.1.1 : Int), .int .u64 (r.1.2 : Int)]] (.int .i64 ((ld r.1 + 1 : Nat) : Int)) := by
    have := long_any r.1 h1.1 h1.2
    rwa [lng_ld h1 h0] at this
  rcases own.2 with ⟨hv, hz⟩ | ⟨g, cap, cur, hv, hb, hg, hnc, hm, hsz, htk⟩
  · have e : rs = [] := List.eq_nil_of_length_eq_zero hz
    subst e
    rw [hv] at c0
    refine (sadd_none B r.1.1 r.1.2 r.2.1 r.2.2 _ v W hB c0 f0 c1 f1 HL).mono ?_
    rintro e w' ⟨v', q1, q2, q3, q4, q5, q6, _, q8, q9⟩
    exact ⟨v', q1, q2, q3, q4, q5, q6, q8, fun k k1 k2 _ => q9 k k1 k2⟩
  · subst hv
    have hgW : g < W.heap.size := (own.lt g rfl).2
    have hA : Ast W (W.alloc (Obj.cells #[.int .u64 (r.1.1 : Int), .int .u64 (r.1.2 : Int), .int .u64 (r.2.1 : Int), .int .u64 (r.2.2 : Int)] 95)) B g rs.length cap v rs r := by
      have BA : Below W.heap.size W (W.alloc (Obj.cells #[.int .u64 (r.1.1 : Int), .int .u64 (r.1.2 : Int), .int .u64 (r.2.1 : Int), .int .u64 (r.2.2 : Int)] 95)) := (Below.refl _ _).alloc (Nat.le_refl _) _
      exact ⟨keepc BA c0, keepf BA c0 f0, keepc BA c1, keepf BA c1 f1, rfl, own_below own BA, by simp [go_sem], by simp [go_sem], by simp [go_sem], by simp [go_sem], hgW, hB, BA.mono (Nat.le_of_lt hB), fun k k1 _ _ => BA.block k k1⟩
    refine (sadd_core B g rs.length cap v rs r (ld r.1) W (ld_lt h1 h0) hn hA HL (outs rs r (ld r.1)) (fun m => hasE (rs.getD m ((0, 0), (0, 0))).1 (ld r.1)) rfl (fun m hm => ?_) (fun m hm hbm => ?_) (fun m hm hbm => ?_)).mono ?_
    · have t := ht.at hm
      rw [outs_get rs r _ m hm]
      exact shas_any _ _ t.1.1 t.1.2 (ld_lt h1 h0)
    · show (outs rs r (ld r.1) m).set m _ = _
      have e : outv (ld r.1) r (rs.getD m ((0, 0), (0, 0))) = rs.getD m ((0, 0), (0, 0)) := if_neg (by rw [hbm]; decide)
      rw [e]
      refine List.ext_getElem? fun j => ?_
      rw [List.getElem?_set]
      split
      · rename_i e2; subst e2
        rw [outs_len, if_pos hm, outs_at rs r _ m m hm, if_neg (by omega)]
      · rfl
    · have t := ht.at hm
      refine ⟨outv (ld r.1) r (rs.getD m ((0, 0), (0, 0))), ?_, ?_, rfl⟩
      · rw [outs_get rs r _ m hm, show outv (ld r.1) r (rs.getD m ((0, 0), (0, 0))) = _ from if_pos hbm]
        exact fun W => add_any _ _ _ _ t.1.1 t.1.2 h1.1 h1.2 W
      · rw [outs_get rs r _ m hm, show outv (ld r.1) r (rs.getD m ((0, 0), (0, 0))) = _ from if_pos hbm]
        exact fun W => add_any _ _ _ _ t.2.1.1 t.2.1.2 h2.1 h2.2 W
    · rintro e w' ⟨v', q1, q2, q3, q4, q5, q6, _, q8, q9⟩
      rw [outs_all] at q6
      exact ⟨v', q1, q2, q3, q4, q5, by rw [more_len]; exact q6, q8, fun k k1 k2 k3 => q9 k k1 k2 fun e => k3 (by rw [e]; rfl)⟩
end Go.Proofs.Ytjdfbjdbfncofaa
