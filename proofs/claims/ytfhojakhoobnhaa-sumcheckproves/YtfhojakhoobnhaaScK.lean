/- Contracts of sumcheck.Round and Bind and of steeplelaw20.Few, and the walk of SumcheckSplits over the seat's translation. -/
import Derived.Test.YtfhojakhoobnhaaPScR
import Derived.Test.YtfhojakhoobnhaaScJ
namespace Go.Proofs.Ytfhojakhoobnhaa
open Go.RowKit
open Cb Ln Sc
open Tw (pm)

/-- Is a case not more than statements go through? -/
def few20 (l : List Stp) (ts : List (List (Nat × Nat))) : Bool := decide (l.length ≤ 12) && fewT ts 5 16
theorem few20_true {l : List Stp} {ts : List (List (Nat × Nat))} (h : few20 l ts = true) : l.length ≤ 12 ∧ ts.length ≤ 5 ∧ ∀ t ∈ ts, t.length ≤ 16 := by
  unfold few20 at h
  rw [Bool.and_eq_true] at h
  exact ⟨of_decide_eq_true h.1, fewT_true h.2⟩
set_option maxHeartbeats 1000000 in
theorem sfew20 (sa a : Option Addr) (scap cap : Nat) (l : List Stp) (ts : List (List (Nat × Nat))) (W : World) (hT : TRow W a ts) :
    Calls Try.prog 14 #[.agg #[.slice sa l.length scap, .slice a ts.length cap]] W fun e w' => e = .returned (.bool (few20 l ts)) ∧ Below W.heap.size W w' := by
  have HF : Hid (∀ w, Below W.heap.size W w → Calls Try.prog 8 #[.slice a ts.length cap, .int .i64 5, .int .i64 16] w fun e w' => e = .returned (.bool (fewT ts 5 16)) ∧ Below w.heap.size w w') := fun w hb => sfew a cap 5 16 ts (by decide) w (hT.below hb)
  have D0 : Hid (Below W.heap.size W (W.alloc (Obj.cells #[.slice sa l.length scap, .slice a ts.length cap] 45))) := by show Below _ _ _; go_grown
  clear hT
  unfold few20
  by_cases h1 : l.length ≤ 12
  · have h2 : (l.length : Int) ≤ 12 := by omega
    rw [decide_eq_true h1, Bool.true_and]
    generalize fewT ts 5 16 = B at *
    go_enter Try.func14, Try.ntmps14
    go_wp2_with (go_at_call 8; refine (HF.out _ D0.out).mono ?_; rintro e w1 ⟨rfl, hb1⟩; have D1 := Hid.mkS (D0.out.trans (hb1.mono D0.out.size)); clear hb1)
    go_ret
    exact ⟨rfl, D1.out⟩
  · have h2 : ¬ (l.length : Int) ≤ 12 := by omega
    rw [decide_eq_false h1, Bool.false_and]
    clear HF
    go_enter Try.func14, Try.ntmps14
    go_wp2
    go_ret
    exact ⟨rfl, D0.out⟩
/-- What Round says is wrong. -/
def rdE (lv : Int) (l : List Stp) (ts : List (List (Nat × Nat))) : Int := if sck lv l ts = 0 then (if vrs ts = 0 then 1 else 0) else sck lv l ts
set_option maxHeartbeats 1000000 in
set_option maxRecDepth 100000 in
theorem srnd_err (lv E : Int) (sa a : Option Addr) (scap cap : Nat) (l : List Stp) (ts : List (List (Nat × Nat))) (hl : ∀ o ∈ l, o.ok) (hm : l.length ≤ 100000) (h10 : ts.length ≤ 1000) (hlen : ∀ t ∈ ts, t.length ≤ 1000) (ht : ltT ts) (W : World) (hR : ORow W sa l) (hT : TRow W a ts) (hE : rdE lv l ts = E) (h0 : ¬ E = 0) :
    Calls Try.prog 25 #[.int .i64 lv, .slice sa l.length scap, .slice a ts.length cap] W fun e w' => e = .returned (.tuple #[.slice none 0 0, .int .i64 E]) ∧ Below W.heap.size W w' := by
  have HC : Hid (∀ w, Below W.heap.size W w → Calls Try.prog 24 #[.int .i64 lv, .slice sa l.length scap, .slice a ts.length cap] w fun e w' => e = .returned (.int .i64 (sck lv l ts)) ∧ Below w.heap.size w w') := fun w hb => scheck lv sa a scap cap l ts hl hm h10 hlen ht w (hR.below hb) (hT.below hb)
  have HV : Hid (∀ w, Below W.heap.size W w → Calls Try.prog 44 #[.slice a ts.length cap] w fun e w' => e = .returned (.int .i64 (vrs ts)) ∧ Below w.heap.size w w') := fun w hb => svars a cap ts (by omega) (fun t h => by have := hlen t h; omega) w (hT.below hb)
  unfold rdE at hE
  clear hR hT hl ht hlen
  by_cases h1 : sck lv l ts = 0
  · rw [if_pos h1] at hE
    rw [h1] at HC
    by_cases h2 : vrs ts = 0
    · rw [if_pos h2] at hE
      rw [h2] at HV
      subst hE
      clear h1 h2
      go_enter Try.func25, Try.ntmps25
      go_wp2_with (first | (go_at_call 24; refine (HC.out _ (Below.refl _ _)).mono ?_; rintro e w1 ⟨rfl, hb1⟩) | (go_at_call 44; refine (HV.out _ hb1).mono ?_; rintro e w2 ⟨rfl, hb2⟩))
      refine bodyPost_ret (v := .tuple #[.slice none 0 0, .int .i64 1]) (by simp [results, Try.results25, go_sem]) rfl ⟨rfl, hb1.trans (hb2.mono hb1.size)⟩
    · rw [if_neg h2] at hE; exact absurd hE.symm h0
  · rw [if_neg h1] at hE
    rw [hE] at HC
    have h0' : (E != 0) = true := by simp [h0]
    clear hE h1
    go_enter Try.func25, Try.ntmps25
    go_wp2_with (go_at_call 24; refine (HC.out _ (Below.refl _ _)).mono ?_; rintro e w1 ⟨rfl, hb1⟩)
    refine bodyPost_ret (v := .tuple #[.slice none 0 0, .int .i64 E]) (by simp [results, Try.results25, go_sem]) rfl ⟨rfl, hb1⟩
set_option maxHeartbeats 1000000 in
set_option maxRecDepth 100000 in
theorem srnd_ok {k n : Nat} {l : List Stp} {ts : List (List (Nat × Nat))} (hF : Fine k (n + 1) l ts) (hn : n ≤ 8) (sa a : Option Addr) (scap cap : Nat) (hl : ∀ o ∈ l, o.ok) (hm : l.length ≤ 100000) (h10 : ts.length ≤ 1000) (hlen : ∀ t ∈ ts, t.length ≤ 1000) (ht : ltT ts) (W : World) (hR : ORow W sa l) (hT : TRow W a ts) :
    Calls Try.prog 25 #[.int .i64 (k : Int), .slice sa l.length scap, .slice a ts.length cap] W fun e w' => ∃ g, e = .returned (.tuple #[.slice (some ⟨g, 0, none⟩) (dgm l + 1) (dgm l + 1), .int .i64 0]) ∧ ERow w' (some ⟨g, 0, none⟩) (rnd l ts (2 ^ n)) ∧ Below W.heap.size W w' := by
  have HC : Hid (∀ w, Below W.heap.size W w → Calls Try.prog 24 #[.int .i64 (k : Int), .slice sa l.length scap, .slice a ts.length cap] w fun e w' => e = .returned (.int .i64 0) ∧ Below w.heap.size w w') := fun w hb => by
    have := scheck (k : Int) sa a scap cap l ts hl hm h10 hlen ht w (hR.below hb) (hT.below hb)
    rw [hF.zero h10] at this
    exact this
  obtain ⟨n1, hn1⟩ : ∃ n1 : Nat, n1 = n + 1 := ⟨_, rfl⟩
  have HV : Hid (∀ w, Below W.heap.size W w → Calls Try.prog 44 #[.slice a ts.length cap] w fun e w' => e = .returned (.int .i64 (n1 : Int)) ∧ Below w.heap.size w w') := fun w hb => by
    have := svars a cap ts (by omega) (fun t h => by have := hlen t h; omega) w (hT.below hb)
    rw [vrs_two hF.t0 hF.n12 hF.len, ← hn1] at this
    exact this
  have HRd : Hid (∀ w, Below W.heap.size W w → Calls Try.prog 59 #[.int .i64 (k : Int), .slice sa l.length scap, .slice a ts.length cap] w fun e w' => ∃ g, e = .returned (.tuple #[.slice (some ⟨g, 0, none⟩) (dgm l + 1) (dgm l + 1), .int .i64 0]) ∧ ERow w' (some ⟨g, 0, none⟩) (rnd l ts (2 ^ n)) ∧ Below w.heap.size w w') := fun w hb => sround hF hn sa a scap cap hl hm h10 ht w (hR.below hb) (hT.below hb)
  have hn0 : ¬ (n1 : Int) = 0 := by omega
  have hn00 : ¬ n1 = 0 := by omega
  clear hR hT hl ht hlen hF hn1
  generalize rnd l ts (2 ^ n) = rv at *
  generalize dgm l + 1 = dd at *
  go_enter Try.func25, Try.ntmps25
  go_wp2_with (first | (go_at_call 24; refine (HC.out _ (Below.refl _ _)).mono ?_; rintro e w1 ⟨rfl, hb1⟩) | (go_at_call 44; refine (HV.out _ hb1).mono ?_; rintro e w2 ⟨rfl, hb2⟩; have D2 := Hid.mkS (hb1.trans (hb2.mono hb1.size)); clear hb2) | (go_at_call 59; refine (HRd.out _ D2.out).mono ?_; rintro e w3 ⟨g, rfl, hE3, hb3⟩))
  refine bodyPost_ret (v := .tuple #[.slice (some ⟨g, 0, none⟩) dd dd, .int .i64 0]) (by simp [results, Try.results25, go_sem]) rfl ⟨g, rfl, hE3, D2.out.trans (hb3.mono D2.out.size)⟩
set_option maxHeartbeats 1000000 in
set_option maxRecDepth 100000 in
theorem sbind_ok (k m : Nat) (hk : k < 8) (a : Option Addr) (cap : Nat) (ts : List (List (Nat × Nat))) (x : Nat × Nat) (h10 : ts.length ≤ 1000) (hm : m ≤ 8) (hN : lenT ts (2 ^ (1 + m))) (ht : ltT ts) (ot : ofTs k ts) (hx : lt2 x) (ox : ofE k x) (W : World) (hT : TRow W a ts) :
    Calls Try.prog 26 #[.int .i64 (k : Int), .slice a ts.length cap, .agg #[.int .u64 (x.1 : Int), .int .u64 (x.2 : Int)]] W fun e w' => ∃ g, e = .returned (.tuple #[.slice (some ⟨g, 0, none⟩) ts.length ts.length, .int .i64 0]) ∧ TRow w' (some ⟨g, 0, none⟩) (bnd ts x) ∧ Below W.heap.size W w' := by
  have HB : Hid (∀ w b, Below W.heap.size W w → ERow w (some ⟨b, 0, none⟩) [x] → Calls Try.prog 60 #[.int .i64 (k : Int), .slice a ts.length cap, .slice (some ⟨b, 0, none⟩) 1 1] w fun e w' => ∃ g, e = .returned (.tuple #[.slice (some ⟨g, 0, none⟩) ts.length ts.length, .int .i64 0]) ∧ TRow w' (some ⟨g, 0, none⟩) (bnd ts x) ∧ Below w.heap.size w w' ∧ w.heap.size ≤ g) := fun w b hb he => sbound k hk a (some ⟨b, 0, none⟩) cap 1 m ts x h10 hm hN ht ot hx ox w (hT.below hb) he
  clear hT hN ht ot hx ox
  generalize bnd ts x = bs at *
  go_enter Try.func26, Try.ntmps26
  go_wp2_with (go_at_call 60; refine (HB.out _ _ (by go_grown) (one_row (by simp [go_sem]) (by simp [go_sem]))).mono ?_; rintro e w1 ⟨g, rfl, hT1, hb1, _⟩)
  refine bodyPost_ret (v := .tuple #[.slice (some ⟨g, 0, none⟩) ts.length ts.length, .int .i64 0]) (by simp [results, Try.results26, go_sem]) rfl ⟨g, rfl, hT1, ?_⟩
  exact Below.trans (by go_grown) (hb1.mono (by simp; omega))
/-- What one round leads to, of the true sum. -/
theorem split_ver {k n : Nat} {l : List Stp} {ts : List (List (Nat × Nat))} (hF : Fine k (n + 1) l ts) (hl : ∀ o ∈ l, o.ok) (ht : ltT ts) {r : Nat × Nat} (ro : ofE k r) : vfR (k : Int) (dgm l : Int) (sv l ts (2 ^ (n + 1))) [rnd l ts (2 ^ n)] [r] = (sv l (bnd ts r) (2 ^ n), 0) ∧ ltE (rnd l ts (2 ^ n)) ∧ xa (el (rnd l ts (2 ^ n)) 0) (el (rnd l ts (2 ^ n)) 1) = sv l ts (2 ^ (n + 1)) := by
  have hlen : lenT ts (2 * 2 ^ n) := by have := hF.len; rw [Nat.pow_succ, Nat.mul_comm] at this; exact this
  have hlt : ltE (rnd l ts (2 ^ n)) ∧ ofT k (rnd l ts (2 ^ n)) := by
    refine ⟨fun e he => ?_, fun e he => ?_⟩
    all_goals
      obtain ⟨i, hi, rfl⟩ := List.mem_map.1 he
      have hi := List.mem_range.1 hi
      have := lt_sv hF.k8 hl hF.chkF (ltT_bnd ht (pl i)) (ofTs_bnd hF.k8 hF.oft (hF.plk i hi)) (2 ^ n)
    · exact this.1
    · exact this.2
  have hs := rnd_split (l := l) hlen ht
  have hs2 : sv l ts (2 * 2 ^ n) = sv l ts (2 ^ (n + 1)) := by rw [Nat.pow_succ, Nat.mul_comm]
  rw [hs2] at hs
  refine ⟨?_, hlt.1, hs⟩
  have hd1 : 1 ≤ dgm l := by unfold dgm; omega
  have hv : vhn (k : Int) (dgm l : Int) (sv l ts (2 ^ (n + 1))) [rnd l ts (2 ^ n)] [r] = 0 := by
    unfold vhn
    rw [if_neg (by rintro (h | h); omega; rw [hF.fit] at h; cases h), if_neg, if_neg, if_pos]
    · refine List.all_eq_true.2 fun t ht => List.all_eq_true.2 fun e he => ?_
      simp at ht
      subst ht
      exact hlt.2 e he
    · rintro (h | h)
      · have := (lt_sv hF.k8 hl hF.chkF ht hF.oft (2 ^ (n + 1))).2
        rw [show ofB (k : Int) ((sv l ts (2 ^ (n + 1))).1 : Int) ((sv l ts (2 ^ (n + 1))).2 : Int) = true from this] at h; cases h
      · simp only [List.all_cons, List.all_nil, Bool.and_true] at h
        rw [show ofB (k : Int) (r.1 : Int) (r.2 : Int) = true from ro] at h; cases h
    · rintro (h | h)
      · exact h rfl
      · simp only [List.all_cons, List.all_nil, Bool.and_true] at h
        have := of_decide_eq_false h
        rw [rnd_len] at this
        omega
  unfold vfR
  rw [if_pos hv]
  have hy : vfy (sv l ts (2 ^ (n + 1))) [rnd l ts (2 ^ n)] [r] = some (sv l (bnd ts r) (2 ^ n)) := by
    show (if ends (rnd l ts (2 ^ n)) = sv l ts (2 ^ (n + 1)) then vfy (atv (rnd l ts (2 ^ n)) r) [] [] else none) = _
    rw [if_pos (by rw [ends_xa (by rw [rnd_len]; omega)]; exact hs), rnd_at hF.k8 hl hF.chkF hlen ht hF.oft hF.d8 ro]
    rfl
  rw [hy]
end Go.Proofs.Ytfhojakhoobnhaa
