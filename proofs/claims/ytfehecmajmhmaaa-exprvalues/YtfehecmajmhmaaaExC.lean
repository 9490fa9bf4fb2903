/- The contract of expr.degree over the seat's translation: what Check and Degree say. -/
import Derived.Test.YtfehecmajmhmaaaExB
namespace Go.Proofs.Ytfehecmajmhmaaa
open Go.RowKit

/-- The degrees of all steps. -/
def dgs (l : List Stp) : List Nat := l.foldl (fun ds o => ds ++ [dg o fun p => ds.getD p 0]) []
theorem dgs_snoc (l : List Stp) (o : Stp) : dgs (l ++ [o]) = dgs l ++ [dg o fun p => (dgs l).getD p 0] := by simp [dgs]
theorem dgs_len (l : List Stp) : (dgs l).length = l.length := by
  have : ∀ (r : List Stp) (ds : List Nat), (r.foldl (fun ds o => ds ++ [dg o fun p => ds.getD p 0]) ds).length = ds.length + r.length := by
    intro r
    induction r with
    | nil => intro ds; rfl
    | cons o r ih => intro ds; rw [List.foldl_cons, ih]; simp; omega
  have h := this l []
  simpa [dgs] using h
def dfun (l : List Stp) (p : Nat) : Nat := (dgs l).getD p 0
theorem take_st (l : List Stp) (i : Nat) (h : i < l.length) : l.take (i + 1) = l.take i ++ [l.getD i zst] := by
  rw [List.take_succ_eq_append_getElem h]; simp [h]
theorem dfun_old {l : List Stp} {i p : Nat} (h : i < l.length) (hp : p < i) : dfun (l.take (i + 1)) p = dfun (l.take i) p := by
  unfold dfun
  rw [take_st l i h, dgs_snoc]
  have : p < (dgs (l.take i)).length := by rw [dgs_len, List.length_take]; omega
  simp [List.getD, List.getElem?_append_left this]
theorem dfun_new {l : List Stp} {i : Nat} (h : i < l.length) : dfun (l.take (i + 1)) i = dg (l.getD i zst) (dfun (l.take i)) := by
  unfold dfun
  rw [take_st l i h, dgs_snoc]
  have e : (dgs (l.take i)).length = i := by rw [dgs_len, List.length_take]; omega
  simp [List.getD, e]
theorem dfun_out {l : List Stp} {i p : Nat} (hp : ¬ p < i) : dfun (l.take i) p = 0 := by
  unfold dfun
  have : (dgs (l.take i)).length ≤ p := by rw [dgs_len, List.length_take]; omega
  simp [List.getD, List.getElem?_eq_none this]
/-- What is wrong with the step i. -/
def er (lv vr : Int) (l : List Stp) (i : Nat) : Int :=
  if hnI lv vr (i : Int) (l.getD i zst) = 0 then (if 8 < dg (l.getD i zst) (dfun (l.take i)) then 7 else 0) else hnI lv vr (i : Int) (l.getD i zst)
/-- The first thing that is wrong among the first steps. -/
def chkF (lv vr : Int) (l : List Stp) : Nat → Int
  | 0 => 0
  | i + 1 => if chkF lv vr l i = 0 then er lv vr l i else chkF lv vr l i
theorem chkF_stop {lv vr : Int} {l : List Stp} {i : Nat} (h : ¬ chkF lv vr l i = 0) : ∀ j, chkF lv vr l (i + j) = chkF lv vr l i
  | 0 => rfl
  | j + 1 => by rw [← Nat.add_assoc, chkF, chkF_stop h j, if_neg h]
theorem chkF_at {lv vr : Int} {l : List Stp} {i n : Nat} (h0 : chkF lv vr l i = 0) (he : ¬ er lv vr l i = 0) (hn : i < n) : chkF lv vr l n = er lv vr l i := by
  have e : chkF lv vr l (i + 1) = er lv vr l i := by rw [chkF, if_pos h0]
  obtain ⟨j, rfl⟩ := Nat.le.dest hn
  rw [chkF_stop (by rw [e]; exact he), e]
theorem dfun_le {lv vr : Int} {l : List Stp} : ∀ {i : Nat}, i ≤ l.length → chkF lv vr l i = 0 → ∀ p, dfun (l.take i) p ≤ 8
  | 0, _, _, p => by rw [dfun_out (by omega)]; omega
  | i + 1, hi, h, p => by
    have h0 : chkF lv vr l i = 0 := Classical.byContradiction fun hc => by
      rw [chkF, if_neg hc] at h; exact hc h
    by_cases hp : p < i
    · rw [dfun_old (by omega) hp]; exact dfun_le (by omega) h0 p
    · by_cases hq : p = i
      · subst hq
        rw [dfun_new (by omega)]
        rw [chkF, if_pos h0] at h
        unfold er at h
        by_cases h1 : hnI lv vr (p : Int) (l.getD p zst) = 0
        · rw [if_pos h1] at h
          by_cases h2 : 8 < dg (l.getD p zst) (dfun (l.take p))
          · rw [if_pos h2] at h; exact absurd h (by decide)
          · omega
        · rw [if_neg h1] at h; exact absurd h h1
      · rw [dfun_out (by omega)]; omega
/-- What is wrong with an expression. -/
def chk (lv vr : Int) (l : List Stp) : Int :=
  if (0 ≤ lv ∧ lv ≤ 7) ∧ 0 ≤ vr then (if l.length = 0 then 3 else if 200 < l.length then 2 else chkF lv vr l l.length) else 1
theorem info_int1 : ∃ i, Try.prog.info? 3 = some i ∧ i.zero = some (.int .i64 0) ∧ i.size = 1 ∧ i.bytes = 8 := by
  have h : (Try.prog.info? 3).map (fun i => (i.zero, i.size, i.bytes)) = some (some (.int .i64 0), 1, 8) := by kernel_rfl
  obtain ⟨i, hi, he⟩ := Option.map_eq_some_iff.1 h
  simp only [Prod.mk.injEq] at he
  exact ⟨i, hi, he.1, he.2.1, he.2.2⟩
theorem own_rowN {w : World} {base : Nat} {T : TypeId} {g n : Nat} {xs : List Value} (h : w.ownsRow base T 1 (.slice (some ⟨g, 0, none⟩) n n) n xs) : ∃ f, w.rowIs g T n f := by
  rcases h.2 with ⟨h1, _⟩ | ⟨g', cap, cur, e, _, hg, _, _, hs, _⟩
  · injection h1 with h2; cases h2
  · injection e with e1 e2 e3
    obtain rfl : g = g' := by injection e1 with e4; injection e4
    subst e3
    exact ⟨fun i => cur.getD i undef, cur, hg, by omega, fun i hi => by
      show cur[i]? = some (cur.getD i undef)
      rw [Array.getD_eq_getD_getElem?, Array.getElem?_eq_getElem (by omega)]; rfl⟩
end Go.Proofs.Ytfehecmajmhmaaa
