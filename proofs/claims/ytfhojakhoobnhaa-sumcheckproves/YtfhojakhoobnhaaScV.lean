/- What is proved is verified, no Go in sight; SumcheckProves' errors over the seat's translation. -/
import Derived.Test.YtfhojakhoobnhaaScU
namespace Go.Proofs.Ytfhojakhoobnhaa
open Go.RowKit
open Cb Ln Sc
open Tw (pm)

theorem bnds_cons (ts : List (List (Nat × Nat))) (x : Nat × Nat) (r : List (Nat × Nat)) : bnds ts (x :: r) = bnds (bnd ts x) r := rfl
theorem bnds_tb : ∀ (r : List (Nat × Nat)) (ts : List (List (Nat × Nat))) (m : Nat), m < ts.length → tb (bnds ts r) m = firsts (tb ts m) r
  | [], _, _, _ => rfl
  | x :: r, ts, m, h => by
    rw [bnds_cons, bnds_tb r (bnd ts x) m (by rw [bnd_len]; exact h), bnd_tb ts x m h]
    rfl
theorem vfy_true {k : Nat} {l : List Stp} (hl : ∀ o ∈ l, o.ok) : ∀ (r : List (Nat × Nat)) (ts : List (List (Nat × Nat))), Fine k r.length l ts → ltT ts → ofT k r → vfy (sv l ts (2 ^ r.length)) (rds l ts r) r = some (lv l (cor (bnds ts r) 0))
  | [], ts, hF, ht, _ => by
    show some (sv l ts 1) = _
    have : sv l ts 1 = lv l (cor ts 0) := by
      show xa (0, 0) (lv l (cor ts 0)) = _
      rw [zero_xa]
    rw [this]
    rfl
  | x :: r, ts, hF, ht, hr => by
    have hx : ofE k x := hr x (by simp)
    obtain ⟨_, _, hs⟩ := split_ver (n := r.length) hF hl ht hx
    have hlen : lenT ts (2 * 2 ^ r.length) := by have := hF.len; rw [List.length_cons, Nat.pow_succ, Nat.mul_comm] at this; exact this
    show (if ends (rnd l ts (2 ^ r.length)) = sv l ts (2 ^ (r.length + 1)) then vfy (atv (rnd l ts (2 ^ r.length)) x) (rds l (bnd ts x) r) r else none) = _
    rw [if_pos (by rw [ends_xa (by rw [rnd_len]; unfold dgm; omega)]; exact hs), rnd_at hF.k8 hl hF.chkF hlen ht hF.oft hF.d8 hx]
    exact vfy_true hl r (bnd ts x) (hF.bnd hx) (ltT_bnd ht x) (fun e he => hr e (by simp [he]))
theorem rds_of {k : Nat} {l : List Stp} (hl : ∀ o ∈ l, o.ok) : ∀ (r : List (Nat × Nat)) (ts : List (List (Nat × Nat))), Fine k r.length l ts → ltT ts → ofT k r → ltT (rds l ts r) ∧ ofTs k (rds l ts r)
  | [], _, _, _, _ => ⟨fun t h => by simp [rds] at h, fun t h => by simp [rds] at h⟩
  | x :: r, ts, hF, ht, hr => by
    have hx : ofE k x := hr x (by simp)
    obtain ⟨h1, h2⟩ := rds_of hl r (bnd ts x) (hF.bnd hx) (ltT_bnd ht x) (fun e he => hr e (by simp [he]))
    have h3 : ltE (rnd l ts (2 ^ r.length)) ∧ ofT k (rnd l ts (2 ^ r.length)) := by
      refine ⟨fun e he => ?_, fun e he => ?_⟩
      all_goals
        obtain ⟨i, hi, rfl⟩ := List.mem_map.1 he
        have hi := List.mem_range.1 hi
        have := lt_sv hF.k8 hl hF.chkF (ltT_bnd ht (pl i)) (ofTs_bnd hF.k8 hF.oft (hF.plk i hi)) (2 ^ r.length)
      · exact this.1
      · exact this.2
    refine ⟨fun t h => ?_, fun t h => ?_⟩
    all_goals
      simp only [rds, List.mem_cons] at h
      rcases h with rfl | h
    · exact h3.1
    · exact h1 t h
    · exact h3.2
    · exact h2 t h
theorem vfR_true {k : Nat} {l : List Stp} {ts : List (List (Nat × Nat))} {r : List (Nat × Nat)} (hF : Fine k r.length l ts) (hl : ∀ o ∈ l, o.ok) (ht : ltT ts) (hr : ofT k r) : vfR (k : Int) (dgm l : Int) (sv l ts (2 ^ r.length)) (rds l ts r) r = (lv l (cor (bnds ts r) 0), 0) := by
  have hd1 : 1 ≤ dgm l := by unfold dgm; omega
  obtain ⟨h1, h2⟩ := rds_of hl r ts hF ht hr
  have hv : vhn (k : Int) (dgm l : Int) (sv l ts (2 ^ r.length)) (rds l ts r) r = 0 := by
    unfold vhn
    rw [if_neg (by rintro (h | h); omega; rw [hF.fit] at h; cases h), if_neg, if_neg, if_pos]
    · exact List.all_eq_true.2 fun t ht => List.all_eq_true.2 fun e he => h2 t ht e he
    · rintro (h | h)
      · have := (lt_sv hF.k8 hl hF.chkF ht hF.oft (2 ^ r.length)).2
        rw [show ofB (k : Int) ((sv l ts (2 ^ r.length)).1 : Int) ((sv l ts (2 ^ r.length)).2 : Int) = true from this] at h; cases h
      · obtain ⟨e, he, hn⟩ := List.all_eq_false.1 h
        exact hn (hr e he)
    · rintro (h | h)
      · exact h (rds_len l r ts)
      · obtain ⟨t, ht', hn⟩ := List.all_eq_false.1 h
        obtain ⟨p, hp, rfl⟩ := List.getElem_of_mem ht'
        rw [rds_len] at hp
        have := rds_one l ts r p hp
        rw [show tb (rds l ts r) p = (rds l ts r)[p] by simp [tb, List.getD, rds_len, hp]] at this
        exact hn (by rw [decide_eq_true_eq, this]; omega)
  unfold vfR
  rw [if_pos hv, vfy_true hl r ts hF ht hr]
theorem ends_at {k : Nat} {l : List Stp} {ts : List (List (Nat × Nat))} {r : List (Nat × Nat)} (hF : Fine k r.length l ts) (ht : ltT ts) (hr : ltE r) {m : Nat} (hm : m < ts.length) : firsts (tb ts m) r = [el (cor (bnds ts r) 0) m] := by
  rw [cor_el, bnds_tb r ts m hm, firsts_vl r (tb ts m) (hF.len.at hm) (ht.at m) hr]
  rfl
/-- A case, in a box of its own. -/
structure Px (W w : World) (sa a : Option Addr) (ln scap tn cap : Nat) : Prop where
  l0 : w.cell? ⟨W.heap.size, 0, none⟩ = some (.slice sa ln scap)
  t0 : w.cell? ⟨W.heap.size, 1, none⟩ = some (.slice a tn cap)
  d : Below W.heap.size W w
theorem Px.below {W w w' : World} {sa a : Option Addr} {ln scap tn cap : Nat} (h : Px W w sa a ln scap tn cap) (hb : Below w.heap.size w w') : Px W w' sa a ln scap tn cap :=
  ⟨keepc hb h.l0, keepc hb h.t0, h.d.trans (hb.mono h.d.size)⟩
theorem Px.start (W : World) (sa a : Option Addr) (ln scap tn cap : Nat) (T : TypeId) : Px W (W.alloc (Obj.cells #[.slice sa ln scap, .slice a tn cap] T)) sa a ln scap tn cap :=
  ⟨by simp [go_sem], by simp [go_sem], by go_grown⟩
end Go.Proofs.Ytfhojakhoobnhaa
