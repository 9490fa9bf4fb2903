/- Contracts of sumcheck.Prove over the seat's translation, and the page's example: awake. -/
import Derived.Test.YtfhojakhoobnhaaScG
import Derived.Test.YtfhojakhoobnhaaScC
namespace Go.Proofs.Ytfhojakhoobnhaa
open Go.RowKit
open Cb Ln Sc
open Tw (pm)

/-- What is wrong with what is to be proved. -/
def pvE (lv : Int) (l : List Stp) (ts : List (List (Nat × Nat))) (r : List (Nat × Nat)) : Int :=
  if sck lv l ts = 0 then (if (r.length : Int) = vrs ts then (if (r.all fun e => ofB lv (e.1 : Int) (e.2 : Int)) = true then 0 else 5) else 1) else sck lv l ts
/-- Room for a proof. -/
structure Rp (W w : World) : Prop where
  r0 : w.cell? ⟨W.heap.size, 0, none⟩ = some (.slice none 0 0)
  r1 : w.cell? ⟨W.heap.size, 1, none⟩ = some (.slice none 0 0)
  f0 : w.frozen? ⟨W.heap.size, 0, none⟩ = false
  f1 : w.frozen? ⟨W.heap.size, 1, none⟩ = false
  row : w.rowIs W.heap.size 50 2 (fun _ => .slice none 0 0)
  d : Below W.heap.size W w
theorem Rp.below {W w w' : World} (h : Rp W w) (hb : Below w.heap.size w w') : Rp W w' :=
  ⟨keepc hb h.r0, keepc hb h.r1, keepf hb h.r0 h.f0, keepf hb h.r1 h.f1, h.row.of_block (hb.block _ h.row.lt), h.d.trans (hb.mono h.d.size)⟩
theorem Rp.start (W : World) : Rp W (W.alloc (Obj.cells #[.slice none 0 0, .slice none 0 0] 50)) :=
  ⟨by simp [go_sem], by simp [go_sem], by simp [go_sem], by simp [go_sem], ⟨#[.slice none 0 0, .slice none 0 0], heap_alloc_new W _, rfl, fun i hi => by
      obtain rfl | rfl : i = 0 ∨ i = 1 := by omega
      all_goals rfl⟩, by go_grown⟩
set_option maxHeartbeats 2000000 in
set_option maxRecDepth 100000 in
theorem sprove_err (lv E : Int) (sa a ra : Option Addr) (scap cap rcap : Nat) (l : List Stp) (ts : List (List (Nat × Nat))) (r : List (Nat × Nat)) (hl : ∀ o ∈ l, o.ok) (hm : l.length ≤ 100000) (h10 : ts.length ≤ 1000) (hlen : ∀ t ∈ ts, t.length ≤ 1000) (ht : ltT ts) (hr : ltE r) (hr1 : r.length ≤ 1000) (W : World) (hR : ORow W sa l) (hT : TRow W a ts) (hEr : ERow W ra r) (hE : pvE lv l ts r = E) (h0 : ¬ E = 0) :
    Calls Try.prog 16 #[.int .i64 lv, .slice sa l.length scap, .slice a ts.length cap, .slice ra r.length rcap] W fun e w' => e = .returned (.tuple #[.agg #[.slice none 0 0, .slice none 0 0], .int .i64 E]) ∧ Below W.heap.size W w' := by
  have HC : Hid (∀ w, Below W.heap.size W w → Calls Try.prog 24 #[.int .i64 lv, .slice sa l.length scap, .slice a ts.length cap] w fun e w' => e = .returned (.int .i64 (sck lv l ts)) ∧ Below w.heap.size w w') := fun w hb => scheck lv sa a scap cap l ts hl hm h10 hlen ht w (hR.below hb) (hT.below hb)
  have HV : Hid (∀ w, Below W.heap.size W w → Calls Try.prog 44 #[.slice a ts.length cap] w fun e w' => e = .returned (.int .i64 (vrs ts)) ∧ Below w.heap.size w w') := fun w hb => svars a cap ts (by omega) (fun t h => by have := hlen t h; omega) w (hT.below hb)
  have HA : Hid (∀ w, Below W.heap.size W w → Calls Try.prog 45 #[.int .i64 lv, .slice ra r.length rcap] w fun e w' => e = .returned (.bool (r.all fun e => ofB lv (e.1 : Int) (e.2 : Int))) ∧ Below w.heap.size w w') := fun w hb => sall lv ra rcap r hr w (hEr.below hb) (by omega)
  have K0 := Hid.mkS (Rp.start W)
  unfold pvE at hE
  clear hR hT hEr hl ht hlen hr
  by_cases h1 : sck lv l ts = 0
  case neg =>
    rw [if_neg h1] at hE
    rw [hE] at HC
    have h0' : (E != 0) = true := by simp [h0]
    clear hE h1
    go_enter Try.func16, Try.ntmps16
    go_wp2_with (go_at_call 24; refine (HC.out _ K0.out.d).mono ?_; rintro e w1 ⟨rfl, hb1⟩; have K1 := Hid.mkS (K0.out.below hb1); clear hb1; have r0 := K1.out.r0; have r1 := K1.out.r1; have f0 := K1.out.f0; have f1 := K1.out.f1)
    refine bodyPost_ret (v := .tuple #[.agg #[.slice none 0 0, .slice none 0 0], .int .i64 E]) (by simp [results, Try.results16, go_sem, *]) rfl ⟨rfl, ?_⟩
    exact below2 (p := W.heap.size) K1.out.d (Nat.le_refl _) _ _
  rw [if_pos h1] at hE
  rw [h1] at HC
  clear h1
  generalize vrs ts = vr at *
  by_cases h2 : (r.length : Int) = vr
  case neg =>
    rw [if_neg h2] at hE
    subst hE
    go_enter Try.func16, Try.ntmps16
    go_wp2_with (first | (go_at_call 24; refine (HC.out _ K0.out.d).mono ?_; rintro e w1 ⟨rfl, hb1⟩; have K1 := Hid.mkS (K0.out.below hb1); clear hb1) | (go_at_call 44; refine (HV.out _ K1.out.d).mono ?_; rintro e w2 ⟨rfl, hb2⟩; have K2 := Hid.mkS (K1.out.below hb2); clear hb2; have r0 := K2.out.r0; have r1 := K2.out.r1; have f0 := K2.out.f0; have f1 := K2.out.f1))
    refine bodyPost_ret (v := .tuple #[.agg #[.slice none 0 0, .slice none 0 0], .int .i64 1]) (by simp [results, Try.results16, go_sem, *]) rfl ⟨rfl, ?_⟩
    exact below2 (p := W.heap.size) K2.out.d (Nat.le_refl _) _ _
  rw [if_pos h2] at hE
  subst h2
  rcases hB : (r.all fun e => ofB lv (e.1 : Int) (e.2 : Int)) with _ | _
  case true => rw [hB, if_pos rfl] at hE; exact absurd hE.symm h0
  rw [hB, if_neg (by decide)] at hE
  rw [hB] at HA
  subst hE
  clear hB
  go_enter Try.func16, Try.ntmps16
  go_wp2_with (first | (go_at_call 24; refine (HC.out _ K0.out.d).mono ?_; rintro e w1 ⟨rfl, hb1⟩; have K1 := Hid.mkS (K0.out.below hb1); clear hb1) | (go_at_call 44; refine (HV.out _ K1.out.d).mono ?_; rintro e w2 ⟨rfl, hb2⟩; have K2 := Hid.mkS (K1.out.below hb2); clear hb2) | (go_at_call 45; refine (HA.out _ K2.out.d).mono ?_; rintro e w3 ⟨rfl, hb3⟩; have K3 := Hid.mkS (K2.out.below hb3); clear hb3; have r0 := K3.out.r0; have r1 := K3.out.r1; have f0 := K3.out.f0; have f1 := K3.out.f1))
  refine bodyPost_ret (v := .tuple #[.agg #[.slice none 0 0, .slice none 0 0], .int .i64 5]) (by simp [results, Try.results16, go_sem, *]) rfl ⟨rfl, ?_⟩
  exact below2 (p := W.heap.size) K3.out.d (Nat.le_refl _) _ _
set_option maxHeartbeats 2000000 in
set_option maxRecDepth 100000 in
theorem sprove_ok {k nn : Nat} {l : List Stp} {ts : List (List (Nat × Nat))} (hF : Fine k nn l ts) (hn : nn ≤ 9) (sa a ra : Option Addr) (scap cap rcap : Nat) (r : List (Nat × Nat)) (hr : r.length = nn) (hre : ltE r) (hro : ofT k r) (hl : ∀ o ∈ l, o.ok) (hm : l.length ≤ 100000) (h10 : ts.length ≤ 1000) (hlen : ∀ t ∈ ts, t.length ≤ 1000) (ht : ltT ts) (W : World) (hR : ORow W sa l) (hT : TRow W a ts) (hE : ERow W ra r) :
    Calls Try.prog 16 #[.int .i64 (k : Int), .slice sa l.length scap, .slice a ts.length cap, .slice ra nn rcap] W fun e w' => ∃ g1 g2, e = .returned (.tuple #[.agg #[.slice (some ⟨g1, 0, none⟩) nn nn, .slice (some ⟨g2, 0, none⟩) ts.length ts.length], .int .i64 0]) ∧ TRowC w' (some ⟨g1, 0, none⟩) (rds l ts r) ∧ ERow w' (some ⟨g2, 0, none⟩) (cor (bnds ts r) 0) ∧ Below W.heap.size W w' := by
  have HC : Hid (∀ w, Below W.heap.size W w → Calls Try.prog 24 #[.int .i64 (k : Int), .slice sa l.length scap, .slice a ts.length cap] w fun e w' => e = .returned (.int .i64 0) ∧ Below w.heap.size w w') := fun w hb => by
    have := scheck (k : Int) sa a scap cap l ts hl hm h10 hlen ht w (hR.below hb) (hT.below hb)
    rw [hF.zero h10] at this
    exact this
  have HV : Hid (∀ w, Below W.heap.size W w → Calls Try.prog 44 #[.slice a ts.length cap] w fun e w' => e = .returned (.int .i64 (nn : Int)) ∧ Below w.heap.size w w') := fun w hb => by
    have := svars a cap ts (by omega) (fun t h => by have := hlen t h; omega) w (hT.below hb)
    rw [vrs_two hF.t0 hF.n12 hF.len] at this
    exact this
  have HA : Hid (∀ w, Below W.heap.size W w → Calls Try.prog 45 #[.int .i64 (k : Int), .slice ra nn rcap] w fun e w' => e = .returned (.bool true) ∧ Below w.heap.size w w') := fun w hb => by
    have := sall (k : Int) ra rcap r hre w (hE.below hb) (by omega)
    rw [List.all_eq_true.2 (fun e he => hro e he), hr] at this
    exact this
  have HPf : Hid (∀ w, Below W.heap.size W w → Calls Try.prog 46 #[.int .i64 (k : Int), .slice sa l.length scap, .slice a ts.length cap, .slice ra nn rcap] w fun e w' => ∃ g1 g2, e = .returned (.tuple #[.agg #[.slice (some ⟨g1, 0, none⟩) nn nn, .slice (some ⟨g2, 0, none⟩) ts.length ts.length], .int .i64 0]) ∧ TRowC w' (some ⟨g1, 0, none⟩) (rds l ts r) ∧ ERow w' (some ⟨g2, 0, none⟩) (cor (bnds ts r) 0) ∧ Below w.heap.size w w' ∧ w.heap.size ≤ g1) := fun w hb => sproof hF hn sa a ra scap cap rcap r hr hre hro hl hm h10 ht w (hR.below hb) (hT.below hb) (hE.below hb)
  have K0 := Hid.mkS (Rp.start W)
  have HL1 : Hid (∀ p, p < (rds l ts r).length → 0 < (tb (rds l ts r) p).length) := fun p hp => by
    rw [rds_len] at hp
    rw [rds_one l ts r p hp]; omega
  have HL2 : Hid (0 < (cor (bnds ts r) 0).length) := by show 0 < _; rw [cor_len, bnds_len]; exact hF.t0
  clear hR hT hE hl ht hlen hre hro hF hr
  generalize rds l ts r = rd at *
  generalize cor (bnds ts r) 0 = en at *
  go_enter Try.func16, Try.ntmps16
  go_wp2_with (first | (go_at_call 24; refine (HC.out _ K0.out.d).mono ?_; rintro e w1 ⟨rfl, hb1⟩; have K1 := Hid.mkS (K0.out.below hb1); clear hb1) | (go_at_call 44; refine (HV.out _ K1.out.d).mono ?_; rintro e w2 ⟨rfl, hb2⟩; have K2 := Hid.mkS (K1.out.below hb2); clear hb2) | (go_at_call 45; refine (HA.out _ K2.out.d).mono ?_; rintro e w3 ⟨rfl, hb3⟩; have K3 := Hid.mkS (K2.out.below hb3); clear hb3) | (go_at_call 46; refine (HPf.out _ K3.out.d).mono ?_; rintro e w4 ⟨g1, g2, rfl, hT4, hE4, hb4, hg4⟩; have K4 : Hid (Rp W w4 ∧ TRowC w4 (some ⟨g1, 0, none⟩) rd ∧ ERow w4 (some ⟨g2, 0, none⟩) en ∧ W.heap.size < g1) := ⟨K3.out.below hb4, hT4, hE4, Nat.lt_of_lt_of_le K3.out.row.lt hg4⟩; clear hb4 hT4 hE4 hg4; have r0 := K4.out.1.r0; have r1 := K4.out.1.r1; have f0 := K4.out.1.f0; have f1 := K4.out.1.f1))
  have z5 : ∀ p, p < 2 → ∃ s l c, (fun _ : Nat => Value.slice none 0 0) p = .slice s l c := fun p hp => ⟨_, _, _, rfl⟩
  have hne : ∀ b off, (some ⟨g1, 0, none⟩ : Option Addr) = some ⟨b, off, none⟩ → b ≠ W.heap.size := fun b off e => by
    simp only [Option.some.injEq, Addr.mk.injEq] at e
    have := K4.out.2.2.2
    omega
  refine bodyPost_ret (v := .tuple #[.agg #[.slice (some ⟨g1, 0, none⟩) nn nn, .slice (some ⟨g2, 0, none⟩) ts.length ts.length], .int .i64 0]) (by simp [results, Try.results16, go_sem, *]) rfl ⟨g1, g2, rfl, ?_, ?_, ?_⟩
  · exact (K4.out.2.1.setG K4.out.1.row z5 HL1.out hne).setG (K4.out.1.row.set 0 _) (slices_set z5 _ _ _) HL1.out hne
  · have h6 := K4.out.2.2.1.setG (i := 0) (v := .slice (some ⟨g1, 0, none⟩) nn nn) (row_apart K4.out.1.row z5 K4.out.2.2.1 HL2.out)
    exact h6.setG (row_apart (K4.out.1.row.set 0 _) (slices_set z5 _ _ _) h6 HL2.out)
  · exact below2 (p := W.heap.size) K4.out.1.d (Nat.le_refl _) _ _
/-- The page's example. -/
def exs : List Stp := [⟨2, 0, 0, (0, 0)⟩]
theorem exs_ok : ∀ o ∈ exs, o.ok := by
  intro o ho
  simp [exs] at ho
  subst ho
  exact ⟨Nat.two_pow_pos 64, Nat.two_pow_pos 64⟩
def ext : List (List (Nat × Nat)) := [[(0, 1), (0, 2)]]
theorem ext_fine : Fine 2 1 exs ext := ⟨by decide, by decide, by decide, by intro t ht; simp [ext] at ht; subst ht; rfl, by decide +kernel, by decide +kernel, by
  intro t ht e he
  simp [ext] at ht
  subst ht
  simp at he
  rcases he with rfl | rfl
  · show ofB _ _ _ = true; decide
  · show ofB _ _ _ = true; decide⟩
theorem ext_lt : ltT ext := by
  intro t ht e he
  simp [ext] at ht
  subst ht
  simp at he
  rcases he with rfl | rfl
  · exact ⟨by decide, by decide⟩
  · exact ⟨by decide, by decide⟩
theorem ex_sum : sv exs ext (2 ^ 1) = (0, 3) := by decide +kernel
theorem ex_rds : rds exs ext [(0, 3)] = [[(0, 1), (0, 2)]] := by decide +kernel
theorem ex_end : cor (bnds ext [(0, 3)]) 0 = [(0, 3)] := by decide +kernel
theorem ex_rnd : rnd exs ext 1 = [(0, 1), (0, 2)] := by decide +kernel
theorem ex_bnd : sv exs (bnd ext (0, 3)) 1 = (0, 3) := by decide +kernel
theorem ex_at : atv [(0, 1), (0, 2)] (0, 3) = (0, 3) := by
  have h := rnd_at (l := exs) (ts := ext) (m := 1) (k := 2) (by decide) exs_ok ext_fine.chkF (by have := ext_fine.len; exact this) ext_lt ext_fine.oft ext_fine.d8 (r := (0, 3)) (by show ofB _ _ _ = true; decide)
  rw [ex_rnd, ex_bnd] at h
  exact h
theorem ex_vhn : vhn 2 1 (0, 3) [[(0, 1), (0, 2)]] [(0, 3)] = 0 := by decide +kernel
theorem ex_ver : vfR 2 1 (0, 3) [[(0, 1), (0, 2)]] [(0, 3)] = ((0, 3), 0) := by
  have h : vfy (0, 3) [[(0, 1), (0, 2)]] [(0, 3)] = some (0, 3) := by
    rw [show vfy (0, 3) [[(0, 1), (0, 2)]] [(0, 3)] = if ends [(0, 1), (0, 2)] = (0, 3) then vfy (atv [(0, 1), (0, 2)] (0, 3)) [] [] else none from rfl, if_pos (by decide +kernel), ex_at]
    rfl
  unfold vfR
  rw [if_pos ex_vhn, h]
end Go.Proofs.Ytfhojakhoobnhaa
