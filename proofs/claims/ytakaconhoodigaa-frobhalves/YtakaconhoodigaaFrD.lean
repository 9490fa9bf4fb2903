/- The contracts of frob.Trace and Norm over the seat's translation. -/
import Derived.Test.YtakaconhoodigaaFrC
namespace Go.Proofs.Ytakaconhoodigaa
open Go.RowKit Go.Shelf
open Cb
open Tw (pm)

attribute [local go_sem] Oper.semAt_some

theorem below_alF (W : World) (o : Obj) : Below W.heap.size W (W.alloc o) := (Below.refl _ W).alloc (Nat.le_refl _) o
/-- All multiplied. -/
def nrl {k : Nat} (xs : List (Ek k)) : Nat × Nat := xs.foldl (fun s x => pm s x.1) (0, 1)
theorem nrl_snoc {k : Nat} (xs : List (Ek k)) (x : Ek k) : nrl (xs ++ [x]) = pm (nrl xs) x.1 := by simp [nrl]
theorem lt_nrl {k : Nat} (xs : List (Ek k)) : lt2 (nrl xs) := by
  rcases xs.eq_nil_or_concat with rfl | ⟨ys, x, rfl⟩
  · exact lt_one
  · rw [List.concat_eq_append, nrl_snoc]; exact lt_pm _ _
theorem of_oneF {k : Nat} (hk : k < 8) : ofE k (0, 1) := (ofB_iff k 0 1 hk).2 (Or.inr ⟨rfl, Nat.one_lt_two_pow (Nat.pos_iff_ne_zero.1 (Nat.two_pow_pos k))⟩)
theorem of_zeroF {k : Nat} (hk : k < 8) : ofE k (0, 0) := (ofB_iff k 0 0 hk).2 (Or.inr ⟨rfl, Nat.two_pow_pos _⟩)
theorem of_nrl {k : Nat} (hk : k < 8) (xs : List (Ek k)) : ofE k (nrl xs) := by
  have : ∀ (zs : List (Ek k)) (s : Nat × Nat), ofE k s → ofE k (zs.foldl (fun s x => pm s x.1) s) := by
    intro zs
    induction zs with
    | nil => exact fun s h => h
    | cons z zs ih => exact fun s h => ih _ (of_pm hk h z.2.2)
  exact this xs _ (of_oneF hk)
theorem trace_none (l t : Int) (a : Nat × Nat) (la : lt2 a) (ho : ovB l t a = false) : Ret 18 #[.int .i64 l, .int .i64 t, .agg #[.int .u64 (a.1 : Int), .int .u64 (a.2 : Int)]] (.agg #[.int .u64 0, .int .u64 0]) :=
  trace_core 7 l t a [] (fun w b1 b2 b3 h => conj1_none (3 - 1) (by omega) b1 b2 b3 7 l t a la ho w h)
theorem trace_ok (k j : Nat) (hk : k < 8) (hj : j ≤ k) (a : Ek k) : Ret 18 #[.int .i64 (k : Int), .int .i64 (j : Int), .agg #[.int .u64 (a.1.1 : Int), .int .u64 (a.1.2 : Int)]] (.agg #[.int .u64 ((trl (cjs k (2 ^ j) hk a (2 ^ (k - j)))).1 : Int), .int .u64 ((trl (cjs k (2 ^ j) hk a (2 ^ (k - j)))).2 : Int)]) :=
  trace_core k (k : Int) (j : Int) a.1 _ (fun w b1 b2 b3 h => conj1_ok (3 - 1) (by omega) b1 b2 b3 k j (k - j) _ _ hk hj rfl rfl rfl a w h)

set_option maxRecDepth 100000 in
set_option maxHeartbeats 4000000 in
theorem norm_none (l t : Int) (a : Nat × Nat) (la : lt2 a) (ho : ovB l t a = false) : Ret 19 #[.int .i64 l, .int .i64 t, .agg #[.int .u64 (a.1 : Int), .int .u64 (a.2 : Int)]] (.agg #[.int .u64 0, .int .u64 0]) := by
  intro W
  have HO := hidF (over_any l t a la)
  rw [ho] at HO
  go_enter Try.func19, Try.ntmps19
  go_wp2_with (go_at_call 40; refine (HO.out.go _).mono ?_; rintro e w1 ⟨rfl, hb1⟩; have ek : Ew w1 (W.heap.size + 1 + 1) 0 0 := Ew.below ⟨⟨by simp [go_sem], by simp [go_sem]⟩, by simp [go_sem], by simp [go_sem]⟩ hb1; have eb : Below W.heap.size W w1 := ((((Below.refl _ _).alloc (Nat.le_refl _) _).alloc (by simp) _).alloc (by simp; omega) _).trans (hb1.mono (by simp; omega)); have EK := hidF (And.intro ek eb); obtain ⟨⟨er1, er0⟩, eg1, eg0⟩ := ek; clear hb1 eb)
  refine bodyPost_ret (v := .agg #[.int .u64 0, .int .u64 0]) (by simp [results, Try.results19, go_sem, *]) rfl ⟨rfl, ?_⟩
  exact (EK.out.2.setCell (by simp; omega) _).setCell (by simp; omega) _

set_option maxRecDepth 100000 in
set_option maxHeartbeats 8000000 in
theorem norm_core (k : Nat) (hk : k < 8) (t : Int) (a : Nat × Nat) (la : lt2 a) (hov : ovB (k : Int) t a = true) (xs : List (Ek k)) (HS : ∀ (w : World) (b1 b2 b3 : Nat), Caught w b1 b2 b3 (k : Int) t a → SeqPriv Fence.wide (3 - 1) Try.prog 50 #[.pointer (some ⟨b1, 0, none⟩), .pointer (some ⟨b2, 0, none⟩), .pointer (some ⟨b3, 0, none⟩)] (fun x : Ek k => #[enE x.1]) (capB b1 b2 b3) xs w) :
    Ret 19 #[.int .i64 (k : Int), .int .i64 t, .agg #[.int .u64 (a.1 : Int), .int .u64 (a.2 : Int)]] (.agg #[.int .u64 ((nrl xs).1 : Int), .int .u64 ((nrl xs).2 : Int)]) := by
  intro W
  have HO := hidF (over_any (k : Int) t a la)
  rw [hov] at HO
  refine (callsIn_wide (n := 3)).1 ?_
  have h1 : 1 ≤ 3 := by omega
  refine callsIn_of_wp_marks Try.func19 rfl trivial ?_ rfl
  simp only [Try.ntmps19, List.size_toArray, List.length_cons, List.length_nil, Nat.reduceAdd, Nat.reduceSub, Array.replicate_succ, Array.replicate_zero, List.push_toArray, List.append_toArray, List.nil_append, List.cons_append]
  have HI := fun w => conj_in (3 - 1) (k : Int) t a w
  unfold enE at HI
  have HI' := hidF HI
  have HON := hidF one_any
  clear HI hov
  gi_wp2_with (first
    | (refine ⟨trivial, ?_⟩; gi_at_call 40; refine (callsIn_wide.2 (HO.out.go _)).mono ?_; rintro e w1 ⟨rfl, hb1⟩; have ek : Ew w1 (W.heap.size + 1 + 1) 0 0 := Ew.below ⟨⟨by simp [go_sem], by simp [go_sem]⟩, by simp [go_sem], by simp [go_sem]⟩ hb1; have ea : El w1 (W.heap.size + 1) a.1 a.2 := El.below ⟨by simp [go_sem], by simp [go_sem]⟩ hb1; have ev : w1.cell? ⟨W.heap.size, 0, none⟩ = some (.int .i64 (k : Int)) := cellB hb1 (by simp [go_sem]); have eb : Below W.heap.size W w1 := ((((Below.refl _ _).alloc (Nat.le_refl _) _).alloc (by simp) _).alloc (by simp; omega) _).trans (hb1.mono (by simp; omega)); have EK := hidF (And.intro ek (And.intro ea (And.intro ev eb))); clear hb1 eb ek ea ev)
    | (refine ⟨trivial, ?_⟩; gi_at_call 35; refine (callsIn_wide.2 (HON.out _)).mono ?_; rintro e w2 ⟨rfl, hb2⟩; have EK2 := hidF (And.intro (EK.out.1.below hb2) (And.intro (EK.out.2.1.below hb2) (And.intro (cellB hb2 EK.out.2.2.1) (EK.out.2.2.2.trans (hb2.mono EK.out.2.2.2.size))))); have ga : (w2.alloc (Obj.cells #[.int .u64 0, .int .u64 1] 24)).cell? ⟨W.heap.size + 1, 0, none⟩ = some (.int .u64 (a.1 : Int)) := cellB (below_alF _ _) EK2.out.2.1.hi; have gb : (w2.alloc (Obj.cells #[.int .u64 0, .int .u64 1] 24)).cell? ⟨W.heap.size + 1, 1, none⟩ = some (.int .u64 (a.2 : Int)) := cellB (below_alF _ _) EK2.out.2.1.lo; have gl : (w2.alloc (Obj.cells #[.int .u64 0, .int .u64 1] 24)).cell? ⟨W.heap.size, 0, none⟩ = some (.int .i64 (k : Int)) := cellB (below_alF _ _) EK2.out.2.2.1; clear hb2 EK)
    | (refine ⟨trivial, ?_⟩; gi_at_call 39; refine (HI'.out _).mono ?_; rintro e w3 ⟨rfl, hc3, hb3, hs3⟩))
  clear ga gb gl HI' HON HO
  have hb3' := hb3
  have hp : W.heap.size + 1 + 1 < w2.heap.size := EK2.out.1.ltF
  have P1 : Ew w3 w2.heap.size 0 1 := (Ew.newF w2 (0, 1) _).below hb3
  have R1 : Ew w3 (W.heap.size + 1 + 1) 0 0 := (EK2.out.1.below (below_alF _ _)).below hb3
  have L1 : w3.cell? ⟨W.heap.size, 0, none⟩ = some (.int .i64 (k : Int)) := cellB hb3 (cellB (below_alF _ _) EK2.out.2.2.1)
  have B1 : Below W.heap.size W w3 := (EK2.out.2.2.2.trans ((below_alF w2 _).mono EK2.out.2.2.2.size)).trans (hb3.mono (by simp; omega))
  simp only [World.size_alloc] at hc3 hs3
  clear hb3 hb3' EK2
  have HZ := hidF hs3
  clear hs3
  generalize w2.heap.size = p at *
  have hCap : ∀ i, capB (p + 1) (p + 1 + 1) (p + 1 + 1 + 1) i → p < i ∧ i < w3.heap.size := fun i hi => by
    have := HZ.out
    rcases hi with h | h | h <;> omega
  refine rangePriv (xs := xs) rfl h1 (gf := 50) (lb := #[.pointer (some ⟨p + 1, 0, none⟩), .pointer (some ⟨p + 1 + 1, 0, none⟩), .pointer (some ⟨p + 1 + 1 + 1, 0, none⟩)]) rfl trivial (enters_of Try.func50 (by kernel_rfl) rfl) (encs := fun x : Ek k => #[enE x.1]) (fun _ => rfl) (fun i hi => (hCap i hi).2) (HS w3 _ _ _ hc3)
    (fun _ pre X => Ew X p (nrl pre).1 (nrl pre).2 ∧ Ew X (W.heap.size + 1 + 1) 0 0 ∧ X.cell? ⟨W.heap.size, 0, none⟩ = some (.int .i64 (k : Int)) ∧ Below W.heap.size W X) ?_ ?_ ?_ ?_
  · rintro q pre A B hq ⟨s, r, c, b⟩ hb ho
    have hA := s.ltF
    have := HZ.out
    exact ⟨s.blkF (ho _ hA (by omega) (by omega) (by omega)), r.blkF (ho _ (by omega) (by omega) (by omega) (by omega)), (World.cell?_of_block (ho W.heap.size (by omega) (by omega) (by omega) (by omega))).trans c, b.trans (hb.mono (by omega))⟩
  · intro q A hq hA
    exact ⟨P1.below hA, R1.below hA, cellB hA L1, B1.trans (hA.mono B1.size)⟩
  · rintro y q pre x X hq hqX _ ⟨s, r, c, b⟩
    unfold enE
    have hz1 : p < w3.heap.size := (by have := HZ.out; omega)
    gi_wp2
    refine ⟨Kept.below ((Below.refl _ _).alloc (Nat.le_refl _) _), fun o => ?_⟩
    obtain ⟨X2, hX2⟩ : ∃ X2, X2 = (X.alloc (Obj.cells #[.int .u64 (x.1.1 : Int), .int .u64 (x.1.2 : Int)] 24)).putObj (w3.heap.size + 1) o := ⟨_, rfl⟩
    have P2 : ∀ i, i < X.heap.size → i ≠ w3.heap.size + 1 → X2.heap[i]? = X.heap[i]? := fun i hi hn => by rw [hX2]; exact (World.putObj_heap_other hn).trans (Below.heap_alloc _ _ _ hi)
    have es2 : Ew X2 p (nrl pre).1 (nrl pre).2 := s.blkF (P2 _ s.ltF (by omega))
    have er2 : Ew X2 (W.heap.size + 1 + 1) 0 0 := r.blkF (P2 _ r.ltF (by omega))
    have ec2 : X2.cell? ⟨W.heap.size, 0, none⟩ = some (.int .i64 (k : Int)) := (World.cell?_of_block (P2 W.heap.size (by have := s.ltF; omega) (by omega))).trans c
    have ex2 : El X2 X.heap.size x.1.1 x.1.2 := by rw [hX2]; exact (Ew.newF X x.1 _).toEl.blkF (World.putObj_heap_other (by omega))
    have eb2 : Below W.heap.size W X2 := by
      rw [hX2]; exact (b.alloc b.size _).trans (below_putF _ _ _ (by simp; omega) (by omega))
    rw [← hX2]
    have HA : Hid (Ret 27 #[.int .i64 (k : Int), .agg #[.int .u64 ((nrl pre).1 : Int), .int .u64 ((nrl pre).2 : Int)], .agg #[.int .u64 (x.1.1 : Int), .int .u64 (x.1.2 : Int)]] (.agg #[.int .u64 ((nrl (pre ++ [x])).1 : Int), .int .u64 ((nrl (pre ++ [x])).2 : Int)])) := by
      have := mul_any (k : Int) (nrl pre) x.1 (lt_nrl pre).1 (lt_nrl pre).2 x.2.1.1 x.2.1.2
      rw [mulv_of (of_nrl hk pre) x.2.2, ← nrl_snoc] at this
      exact this
    clear hX2 s r b c P2
    have K2 := hidF (And.intro es2 (And.intro er2 (And.intro ec2 eb2)))
    have es1 := es2.hi
    have es0 := es2.lo
    have ex1 := ex2.hi
    have ex0 := ex2.lo
    clear es2 er2 ex2 eb2
    generalize nrl (pre ++ [x]) = T1 at *
    generalize nrl pre = T0 at *
    gi_wp2_with (refine ⟨trivial, ?_⟩; gi_at_call 27; refine (CallsIn.inRound y (callsIn_wide.2 (HA.out.go _))).mono ?_; rintro e w5 ⟨rfl, hb5⟩; have K5 := hidF (And.intro (K2.out.1.below hb5) (And.intro (K2.out.2.1.below hb5) (And.intro (cellB hb5 K2.out.2.2.1) (And.intro (Kept.below (C := Held q w3.heap.size (capB (p + 1) (p + 1 + 1) (p + 1 + 1 + 1))) hb5) (K2.out.2.2.2.trans (hb5.mono K2.out.2.2.2.size)))))); clear hb5 es1 es0 ex1 ex0 ec2; obtain ⟨⟨es1, es0⟩, ef1, ef0⟩ := K5.out.1)
    have nH : ¬ Held q w3.heap.size (capB (p + 1) (p + 1 + 1) (p + 1 + 1 + 1)) p := by
      rintro ((h | h) | h | h)
      · omega
      · have := hCap _ h; omega
      · omega
      · omega
    refine ⟨K5.out.2.2.2.1.trans (Kept.set2 _ _ _ _ _ _ nH), K5.out.1.set _ _, K5.out.2.1.offF (by omega) _ _ _ _, ?_, (K5.out.2.2.2.2.setCell (by simp; omega) _).setCell (by simp; omega) _⟩
    exact K5.out.2.2.1
  · rintro q X hq ⟨s, r, c, b⟩ hD
    obtain ⟨⟨es1, es0⟩, _, _⟩ := s
    obtain ⟨⟨er1, er0⟩, eg1, eg0⟩ := r
    have hz1 : p < w3.heap.size := (by have := HZ.out; omega)
    gi_wp2
    have hD2 := ((Below.heap_setCell (X.setCell ⟨W.heap.size + 1 + 1, 0, none⟩ (.int .u64 ((nrl xs).1 : Int))) ⟨W.heap.size + 1 + 1, 1, none⟩ (.int .u64 ((nrl xs).2 : Int)) w3.heap.size (by simp; omega)).trans ((Below.heap_setCell X ⟨W.heap.size + 1 + 1, 0, none⟩ (.int .u64 ((nrl xs).1 : Int)) w3.heap.size (by simp; omega)))).trans hD
    refine ⟨by simp, .inl ⟨_, _, rfl, run_takeDeferred hD2, ?_⟩⟩
    have hE2 : Ew ((X.setCell ⟨W.heap.size + 1 + 1, 0, none⟩ (.int .u64 ((nrl xs).1 : Int))).setCell ⟨W.heap.size + 1 + 1, 1, none⟩ (.int .u64 ((nrl xs).2 : Int))) (W.heap.size + 1 + 1) (nrl xs).1 (nrl xs).2 := Ew.set ⟨⟨er1, er0⟩, eg1, eg0⟩ _ _
    have hE3 := hE2.blkF (World.putObj_heap_other (o := .deferred none) (show W.heap.size + 1 + 1 ≠ w3.heap.size by omega))
    have hB3 := ((b.setCell (p := ⟨W.heap.size + 1 + 1, 0, none⟩) (by simp; omega) (.int .u64 ((nrl xs).1 : Int))).setCell (p := ⟨W.heap.size + 1 + 1, 1, none⟩) (by simp; omega) (.int .u64 ((nrl xs).2 : Int))).trans (below_putF _ w3.heap.size (.deferred none) (Array.getElem?_eq_some_iff.1 hD2).1 (by omega))
    clear hD2 hE2 er1 er0 eg1 eg0 es1 es0 b hD c
    obtain ⟨⟨c1, c0⟩, _, _⟩ := hE3
    generalize World.putObj _ _ _ = X9 at *
    refine ⟨.agg #[.int .u64 ((nrl xs).1 : Int), .int .u64 ((nrl xs).2 : Int)], ?_, rfl, hB3⟩
    simp [results, Try.results19, go_sem, c1, c0]
theorem ov_yes {k j : Nat} (hj : j ≤ k) (a : Ek k) : ovB (k : Int) (j : Int) a.1 = true := by
  unfold ovB
  rw [show ofB (k : Int) (a.1.1 : Int) (a.1.2 : Int) = true from a.2.2]
  simp; omega
theorem norm_ok (k j : Nat) (hk : k < 8) (hj : j ≤ k) (a : Ek k) : Ret 19 #[.int .i64 (k : Int), .int .i64 (j : Int), .agg #[.int .u64 (a.1.1 : Int), .int .u64 (a.1.2 : Int)]] (.agg #[.int .u64 ((nrl (cjs k (2 ^ j) hk a (2 ^ (k - j)))).1 : Int), .int .u64 ((nrl (cjs k (2 ^ j) hk a (2 ^ (k - j)))).2 : Int)]) :=
  norm_core k hk (j : Int) a.1 a.2.1 (ov_yes hj a) _ (fun w b1 b2 b3 h => conj1_ok (3 - 1) (by omega) b1 b2 b3 k j (k - j) _ _ hk hj rfl rfl rfl a w h)
end Go.Proofs.Ytakaconhoodigaa
