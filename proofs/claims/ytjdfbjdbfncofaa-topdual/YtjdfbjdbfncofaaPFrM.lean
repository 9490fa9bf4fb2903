/- The contract of frob.Trace over the seat's translation. -/
import Derived.Test.YtjdfbjdbfncofaaPFrB
namespace Go.Proofs.Ytjdfbjdbfncofaa
open Go.RowKit Go.Shelf
open Cb
open Tw (pm)

attribute [local go_sem] Oper.semAt_some

/-- All added. -/
def trl {k : Nat} (xs : List (Ek k)) : Nat × Nat := xs.foldl (fun s x => xa s x.1) (0, 0)
theorem trl_snoc {k : Nat} (xs : List (Ek k)) (x : Ek k) : trl (xs ++ [x]) = xa (trl xs) x.1 := by simp [trl]
theorem lt_trl {k : Nat} (xs : List (Ek k)) : lt2 (trl xs) := by
  rcases xs.eq_nil_or_concat with rfl | ⟨ys, x, rfl⟩
  · exact lt_zero
  · rw [List.concat_eq_append, trl_snoc]
    have : ∀ (zs : List (Ek k)) (s : Nat × Nat), lt2 s → lt2 (zs.foldl (fun s x => xa s x.1) s) := by
      intro zs
      induction zs with
      | nil => exact fun s h => h
      | cons z zs ih => exact fun s h => ih _ (lt_xa h z.2.1)
    exact lt_xa (this ys _ lt_zero) x.2.1
theorem Ew.blkF {A B : World} {b x y : Nat} (e : Ew A b x y) (h : B.heap[b]? = A.heap[b]?) : Ew B b x y :=
  ⟨⟨(World.cell?_of_block h).trans e.hi, (World.cell?_of_block h).trans e.lo⟩, (World.frozen?_of_block h).trans e.fhi, (World.frozen?_of_block h).trans e.flo⟩
theorem El.blkF {A B : World} {b x y : Nat} (e : El A b x y) (h : B.heap[b]? = A.heap[b]?) : El B b x y :=
  ⟨(World.cell?_of_block h).trans e.hi, (World.cell?_of_block h).trans e.lo⟩
theorem Ew.ltF {A : World} {b x y : Nat} (e : Ew A b x y) : b < A.heap.size := cell_ltF e.hi
theorem Ew.newF (w : World) (v : Nat × Nat) (T : TypeId) : Ew (w.alloc (Obj.cells #[.int .u64 (v.1 : Int), .int .u64 (v.2 : Int)] T)) w.heap.size v.1 v.2 := ⟨⟨by simp [go_sem], by simp [go_sem]⟩, by simp [go_sem], by simp [go_sem]⟩
theorem Ew.offF {w : World} {b c h l : Nat} (e : Ew w c h l) (hn : b ≠ c) (o o' : Nat) (u v : Value) : Ew ((w.setCell ⟨b, o, none⟩ u).setCell ⟨b, o', none⟩ v) c h l := by
  obtain ⟨⟨h1, h2⟩, h3, h4⟩ := e
  have hn' : c ≠ b := fun h => hn h.symm
  exact ⟨⟨by simp [go_sem, *], by simp [go_sem, *]⟩, by simp [go_sem, *], by simp [go_sem, *]⟩
theorem below_putF {n : Nat} (W : World) (l : Nat) (o : Obj) (hl : l < W.heap.size) (hn : n ≤ l) : Below n W (W.putObj l o) :=
  (Below.refl _ _).grown (grownBy_putObj' _ _ _) (by omega) (fun k e => by cases e; omega)
theorem Kept.set2 {C : Nat → Prop} (A : World) (b o o' : Nat) (u v : Value) (hn : ¬ C b) : Kept C A ((A.setCell ⟨b, o, none⟩ u).setCell ⟨b, o', none⟩ v) := (Kept.set A b o u hn).trans (Kept.set _ b o' v hn)

set_option maxRecDepth 100000 in
set_option maxHeartbeats 8000000 in
theorem trace_core (k : Nat) (l t : Int) (a : Nat × Nat) (xs : List (Ek k)) (HS : ∀ (w : World) (b1 b2 b3 : Nat), Caught w b1 b2 b3 l t a → SeqPriv Fence.wide (3 - 1) Try.prog 53 #[.pointer (some ⟨b1, 0, none⟩), .pointer (some ⟨b2, 0, none⟩), .pointer (some ⟨b3, 0, none⟩)] (fun x : Ek k => #[enE x.1]) (capB b1 b2 b3) xs w) :
    Ret 14 #[.int .i64 l, .int .i64 t, .agg #[.int .u64 (a.1 : Int), .int .u64 (a.2 : Int)]] (.agg #[.int .u64 ((trl xs).1 : Int), .int .u64 ((trl xs).2 : Int)]) := by
  intro W
  refine (callsIn_wide (n := 3)).1 ?_
  have h1 : 1 ≤ 3 := by omega
  refine callsIn_of_wp_marks Try.func14 rfl trivial ?_ rfl
  simp only [Try.ntmps14, List.size_toArray, List.length_cons, List.length_nil, Nat.reduceAdd, Nat.reduceSub, Array.replicate_succ, Array.replicate_zero, List.push_toArray, List.append_toArray, List.nil_append, List.cons_append]
  have HI := fun w => conj_in (3 - 1) l t a w
  unfold enE at HI
  have HI' := hidF HI
  clear HI
  gi_wp2_with (refine ⟨trivial, ?_⟩; gi_at_call 33; refine (HI'.out _).mono ?_; rintro e w1 ⟨rfl, hc1, hb1, hs1⟩)
  simp only [World.size_alloc] at hc1 hb1 hs1
  obtain ⟨w0, hw0⟩ : ∃ w0, w0 = (((W.alloc (Obj.cells #[.int .u64 (a.1 : Int), .int .u64 (a.2 : Int)] 24)).alloc (Obj.cells #[.int .u64 0, .int .u64 0] 24)).alloc (Obj.cells #[.int .u64 0, .int .u64 0] 24)) := ⟨_, rfl⟩
  have B0 : Below W.heap.size W w0 := by rw [hw0]; exact (((Below.refl _ _).alloc (Nat.le_refl _) _).alloc (by simp) _).alloc (by simp; omega) _
  have ez0 : w0.heap.size = W.heap.size + 1 + 1 + 1 := by rw [hw0]; simp
  have S0 : Ew w0 (W.heap.size + 1 + 1) 0 0 := by rw [hw0]; exact ⟨⟨by simp [go_sem], by simp [go_sem]⟩, by simp [go_sem], by simp [go_sem]⟩
  have R0 : Ew w0 (W.heap.size + 1) 0 0 := by rw [hw0]; exact ⟨⟨by simp [go_sem], by simp [go_sem]⟩, by simp [go_sem], by simp [go_sem]⟩
  rw [← hw0] at hb1
  have hb1' : Below w0.heap.size w0 w1 := by rw [ez0]; exact hb1
  have S1 := S0.below hb1'
  have R1 := R0.below hb1'
  have B1 := B0.trans (hb1'.mono B0.size)
  clear hw0 hb1 hb1' S0 R0 B0 ez0 HI'
  have HZ := hidF hs1
  clear hs1
  have hCap : ∀ i, capB (W.heap.size + 1 + 1 + 1) (W.heap.size + 1 + 1 + 1 + 1) (W.heap.size + 1 + 1 + 1 + 1 + 1) i → W.heap.size + 1 + 1 < i ∧ i < w1.heap.size := fun i hi => by
    have := HZ.out
    rcases hi with h | h | h <;> omega
  refine rangePriv (xs := xs) rfl h1 (gf := 53) (lb := #[.pointer (some ⟨W.heap.size + 1 + 1 + 1, 0, none⟩), .pointer (some ⟨W.heap.size + 1 + 1 + 1 + 1, 0, none⟩), .pointer (some ⟨W.heap.size + 1 + 1 + 1 + 1 + 1, 0, none⟩)]) rfl trivial (enters_of Try.func53 (by kernel_rfl) rfl) (encs := fun x : Ek k => #[enE x.1]) (fun _ => rfl) (fun i hi => (hCap i hi).2) (HS w1 _ _ _ hc1)
    (fun _ pre X => Ew X (W.heap.size + 1 + 1) (trl pre).1 (trl pre).2 ∧ Ew X (W.heap.size + 1) 0 0 ∧ Below W.heap.size W X) ?_ ?_ ?_ ?_
  · rintro q pre A B hq ⟨s, r, b⟩ hb ho
    have hA := s.ltF
    have := HZ.out
    exact ⟨s.blkF (ho _ hA (by omega) (by omega) (by omega)), r.blkF (ho _ (by omega) (by omega) (by omega) (by omega)), b.trans (hb.mono (by omega))⟩
  · intro q A hq hA
    exact ⟨S1.below hA, R1.below hA, B1.trans (hA.mono B1.size)⟩
  · rintro y q pre x X hq hqX _ ⟨s, r, b⟩
    unfold enE
    have hz1 : W.heap.size + 1 + 1 < w1.heap.size := (by have := HZ.out; omega)
    gi_wp2
    refine ⟨Kept.below ((Below.refl _ _).alloc (Nat.le_refl _) _), fun o => ?_⟩
    obtain ⟨X2, hX2⟩ : ∃ X2, X2 = (X.alloc (Obj.cells #[.int .u64 (x.1.1 : Int), .int .u64 (x.1.2 : Int)] 24)).putObj (w1.heap.size + 1) o := ⟨_, rfl⟩
    have P2 : ∀ i, i < X.heap.size → i ≠ w1.heap.size + 1 → X2.heap[i]? = X.heap[i]? := fun i hi hn => by rw [hX2]; exact (World.putObj_heap_other hn).trans (Below.heap_alloc _ _ _ hi)
    have s2 : Ew X2 (W.heap.size + 1 + 1) (trl pre).1 (trl pre).2 := s.blkF (P2 _ s.ltF (by omega))
    have r2 : Ew X2 (W.heap.size + 1) 0 0 := r.blkF (P2 _ r.ltF (by omega))
    have ex2 : El X2 X.heap.size x.1.1 x.1.2 := by rw [hX2]; exact (Ew.newF X x.1 _).toEl.blkF (World.putObj_heap_other (by omega))
    have b2 : Below W.heap.size W X2 := by
      rw [hX2]; exact (b.alloc b.size _).trans (below_putF _ _ _ (by simp; omega) (by omega))
    have ez2 : X2.heap.size = X.heap.size + 1 := by rw [hX2]; simp [World.putObj]
    rw [← hX2]
    have HA := hidF (fun w => add_any (trl pre).1 (trl pre).2 x.1.1 x.1.2 (lt_trl pre).1 (lt_trl pre).2 x.2.1.1 x.2.1.2 w)
    have HV := hidF (trl_snoc pre x)
    clear hX2 s r b P2
    have K2 := hidF (And.intro s2 (And.intro r2 (And.intro ex2 b2)))
    have es1 := s2.hi
    have es0 := s2.lo
    have ex1 := ex2.hi
    have ex0 := ex2.lo
    clear s2 r2 ex2 b2
    generalize trl pre = T0 at *
    gi_wp2_with (refine ⟨trivial, ?_⟩; gi_at_call 23; refine (CallsIn.inRound y (callsIn_wide.2 (HA.out _))).mono ?_; rintro e w5 ⟨rfl, hb5⟩; have K5 := hidF (And.intro (K2.out.1.below hb5) (And.intro (K2.out.2.1.below hb5) (And.intro (Kept.below (C := Held q w1.heap.size (capB (W.heap.size + 1 + 1 + 1) (W.heap.size + 1 + 1 + 1 + 1) (W.heap.size + 1 + 1 + 1 + 1 + 1))) hb5) (K2.out.2.2.2.trans (hb5.mono K2.out.2.2.2.size))))); clear hb5 es1 es0 ex1 ex0; obtain ⟨⟨es1, es0⟩, ef1, ef0⟩ := K5.out.1)
    have nH : ¬ Held q w1.heap.size (capB (W.heap.size + 1 + 1 + 1) (W.heap.size + 1 + 1 + 1 + 1) (W.heap.size + 1 + 1 + 1 + 1 + 1)) (W.heap.size + 1 + 1) := by
      rintro ((h | h) | h | h)
      · omega
      · have := hCap _ h; omega
      · omega
      · omega
    refine ⟨K5.out.2.2.1.trans (Kept.set2 _ _ _ _ _ _ nH), ?_, K5.out.2.1.offF (by omega) _ _ _ _, (K5.out.2.2.2.setCell (by simp; omega) _).setCell (by simp; omega) _⟩
    rw [HV.out]
    exact K5.out.1.set _ _
  · rintro q X hq ⟨s, r, b⟩ hD
    obtain ⟨⟨es1, es0⟩, _, _⟩ := s
    obtain ⟨⟨er1, er0⟩, eg1, eg0⟩ := r
    have hz1 : W.heap.size + 1 + 1 < w1.heap.size := (by have := HZ.out; omega)
    gi_wp2
    have hD2 := ((Below.heap_setCell (X.setCell ⟨W.heap.size + 1, 0, none⟩ (.int .u64 ((trl xs).1 : Int))) ⟨W.heap.size + 1, 1, none⟩ (.int .u64 ((trl xs).2 : Int)) w1.heap.size (by simp; omega)).trans ((Below.heap_setCell X ⟨W.heap.size + 1, 0, none⟩ (.int .u64 ((trl xs).1 : Int)) w1.heap.size (by simp; omega)))).trans hD
    refine ⟨by simp, .inl ⟨_, _, rfl, run_takeDeferred hD2, ?_⟩⟩
    have hE2 : Ew ((X.setCell ⟨W.heap.size + 1, 0, none⟩ (.int .u64 ((trl xs).1 : Int))).setCell ⟨W.heap.size + 1, 1, none⟩ (.int .u64 ((trl xs).2 : Int))) (W.heap.size + 1) (trl xs).1 (trl xs).2 := Ew.set ⟨⟨er1, er0⟩, eg1, eg0⟩ _ _
    have hE3 := hE2.blkF (World.putObj_heap_other (o := .deferred none) (show W.heap.size + 1 ≠ w1.heap.size by omega))
    have hB3 := ((b.setCell (p := ⟨W.heap.size + 1, 0, none⟩) (Nat.le_succ _) (.int .u64 ((trl xs).1 : Int))).setCell (p := ⟨W.heap.size + 1, 1, none⟩) (Nat.le_succ _) (.int .u64 ((trl xs).2 : Int))).trans (below_putF _ w1.heap.size (.deferred none) (Array.getElem?_eq_some_iff.1 hD2).1 (by omega))
    clear hD2 hE2 er1 er0 eg1 eg0 es1 es0 b hD
    obtain ⟨⟨c1, c0⟩, _, _⟩ := hE3
    generalize World.putObj _ _ _ = X9 at *
    refine ⟨.agg #[.int .u64 ((trl xs).1 : Int), .int .u64 ((trl xs).2 : Int)], ?_, rfl, hB3⟩
    simp [results, Try.results14, go_sem, c1, c0]
end Go.Proofs.Ytjdfbjdbfncofaa

/- The contracts of frob.Trace and Norm over the seat's translation. -/
namespace Go.Proofs.Ytjdfbjdbfncofaa
open Go.RowKit Go.Shelf
open Cb
open Tw (pm)

attribute [local go_sem] Oper.semAt_some

theorem below_alF (W : World) (o : Obj) : Below W.heap.size W (W.alloc o) := (Below.refl _ W).alloc (Nat.le_refl _) o
/-- All multiplied. -/
def nrl {k : Nat} (xs : List (Ek k)) : Nat × Nat := xs.foldl (fun s x => pm s x.1) (0, 1)
theorem nrl_snoc {k : Nat} (xs : List (Ek k)) (x : Ek k) : nrl (xs ++ [x]) = pm (nrl xs) x.1 := by simp [nrl]
theorem lt_nrl {k : Nat} (xs : List (Ek k)) : lt2 (nrl xs) := by
  rcases xs.eq_nil_or_concat with rfl | ⟨ys, x, rfl⟩
  · exact lt_one
  · rw [List.concat_eq_append, nrl_snoc]; exact lt_pm _ _
theorem of_oneF {k : Nat} (hk : k < 8) : ofE k (0, 1) := (ofB_iff k 0 1 hk).2 (Or.inr ⟨rfl, Nat.one_lt_two_pow (Nat.pos_iff_ne_zero.1 (Nat.two_pow_pos k))⟩)
theorem of_zeroF {k : Nat} (hk : k < 8) : ofE k (0, 0) := (ofB_iff k 0 0 hk).2 (Or.inr ⟨rfl, Nat.two_pow_pos _⟩)
theorem of_nrl {k : Nat} (hk : k < 8) (xs : List (Ek k)) : ofE k (nrl xs) := by
  have : ∀ (zs : List (Ek k)) (s : Nat × Nat), ofE k s → ofE k (zs.foldl (fun s x => pm s x.1) s) := by
    intro zs
    induction zs with
    | nil => exact fun s h => h
    | cons z zs ih => exact fun s h => ih _ (of_pm hk h z.2.2)
  exact this xs _ (of_oneF hk)
theorem trace_none (l t : Int) (a : Nat × Nat) (la : lt2 a) (ho : ovB l t a = false) : Ret 14 #[.int .i64 l, .int .i64 t, .agg #[.int .u64 (a.1 : Int), .int .u64 (a.2 : Int)]] (.agg #[.int .u64 0, .int .u64 0]) :=
  trace_core 7 l t a [] (fun w b1 b2 b3 h => conj1_none (3 - 1) (by omega) b1 b2 b3 7 l t a la ho w h)
theorem trace_ok (k j : Nat) (hk : k < 8) (hj : j ≤ k) (a : Ek k) : Ret 14 #[.int .i64 (k : Int), .int .i64 (j : Int), .agg #[.int .u64 (a.1.1 : Int), .int .u64 (a.1.2 : Int)]] (.agg #[.int .u64 ((trl (cjs k (2 ^ j) hk a (2 ^ (k - j)))).1 : Int), .int .u64 ((trl (cjs k (2 ^ j) hk a (2 ^ (k - j)))).2 : Int)]) :=
  trace_core k (k : Int) (j : Int) a.1 _ (fun w b1 b2 b3 h => conj1_ok (3 - 1) (by omega) b1 b2 b3 k j (k - j) _ _ hk hj rfl rfl rfl a w h)

set_option maxRecDepth 100000 in
set_option maxHeartbeats 4000000 in
theorem norm_none (l t : Int) (a : Nat × Nat) (la : lt2 a) (ho : ovB l t a = false) : Ret 19 #[.int .i64 l, .int .i64 t, .agg #[.int .u64 (a.1 : Int), .int .u64 (a.2 : Int)]] (.agg #[.int .u64 0, .int .u64 0]) := by
  intro W
  have HO := hidF (over_any l t a la)
  rw [ho] at HO
  go_enter Try.func19, Try.ntmps19
  go_wp2_with (go_at_call 37; refine (HO.out.go _).mono ?_; rintro e w1 ⟨rfl, hb1⟩; have ek : Ew w1 (W.heap.size + 1 + 1) 0 0 := Ew.below ⟨⟨by simp [go_sem], by simp [go_sem]⟩, by simp [go_sem], by simp [go_sem]⟩ hb1; have eb : Below W.heap.size W w1 := ((((Below.refl _ _).alloc (Nat.le_refl _) _).alloc (by simp) _).alloc (by simp; omega) _).trans (hb1.mono (by simp; omega)); have EK := hidF (And.intro ek eb); obtain ⟨⟨er1, er0⟩, eg1, eg0⟩ := ek; clear hb1 eb)
  refine bodyPost_ret (v := .agg #[.int .u64 0, .int .u64 0]) (by simp [results, Try.results19, go_sem, *]) rfl ⟨rfl, ?_⟩
  exact (EK.out.2.setCell (by simp; omega) _).setCell (by simp; omega) _

set_option maxRecDepth 100000 in
set_option maxHeartbeats 8000000 in
theorem norm_core (k : Nat) (hk : k < 8) (t : Int) (a : Nat × Nat) (la : lt2 a) (hov : ovB (k : Int) t a = true) (xs : List (Ek k)) (HS : ∀ (w : World) (b1 b2 b3 : Nat), Caught w b1 b2 b3 (k : Int) t a → SeqPriv Fence.wide (3 - 1) Try.prog 53 #[.pointer (some ⟨b1, 0, none⟩), .pointer (some ⟨b2, 0, none⟩), .pointer (some ⟨b3, 0, none⟩)] (fun x : Ek k => #[enE x.1]) (capB b1 b2 b3) xs w) :
    Ret 19 #[.int .i64 (k : Int), .int .i64 t, .agg #[.int .u64 (a.1 : Int), .int .u64 (a.2 : Int)]] (.agg #[.int .u64 ((nrl xs).1 : Int), .int .u64 ((nrl xs).2 : Int)]) := by
  intro W
  have HO := hidF (over_any (k : Int) t a la)
  rw [hov] at HO
  refine (callsIn_wide (n := 3)).1 ?_
  have h1 : 1 ≤ 3 := by omega
  refine callsIn_of_wp_marks Try.func19 rfl trivial ?_ rfl
  simp only [Try.ntmps19, List.size_toArray, List.length_cons, List.length_nil, Nat.reduceAdd, Nat.reduceSub, Array.replicate_succ, Array.replicate_zero, List.push_toArray, List.append_toArray, List.nil_append, List.cons_append]
  have HI := fun w => conj_in (3 - 1) (k : Int) t a w
  unfold enE at HI
  have HI' := hidF HI
  have HON := hidF one_any
  clear HI hov
  gi_wp2_with (first
    | (refine ⟨trivial, ?_⟩; gi_at_call 37; refine (callsIn_wide.2 (HO.out.go _)).mono ?_; rintro e w1 ⟨rfl, hb1⟩; have ek : Ew w1 (W.heap.size + 1 + 1) 0 0 := Ew.below ⟨⟨by simp [go_sem], by simp [go_sem]⟩, by simp [go_sem], by simp [go_sem]⟩ hb1; have ea : El w1 (W.heap.size + 1) a.1 a.2 := El.below ⟨by simp [go_sem], by simp [go_sem]⟩ hb1; have ev : w1.cell? ⟨W.heap.size, 0, none⟩ = some (.int .i64 (k : Int)) := cellB hb1 (by simp [go_sem]); have eb : Below W.heap.size W w1 := ((((Below.refl _ _).alloc (Nat.le_refl _) _).alloc (by simp) _).alloc (by simp; omega) _).trans (hb1.mono (by simp; omega)); have EK := hidF (And.intro ek (And.intro ea (And.intro ev eb))); clear hb1 eb ek ea ev)
    | (refine ⟨trivial, ?_⟩; gi_at_call 16; refine (callsIn_wide.2 (HON.out _)).mono ?_; rintro e w2 ⟨rfl, hb2⟩; have EK2 := hidF (And.intro (EK.out.1.below hb2) (And.intro (EK.out.2.1.below hb2) (And.intro (cellB hb2 EK.out.2.2.1) (EK.out.2.2.2.trans (hb2.mono EK.out.2.2.2.size))))); have ga : (w2.alloc (Obj.cells #[.int .u64 0, .int .u64 1] 24)).cell? ⟨W.heap.size + 1, 0, none⟩ = some (.int .u64 (a.1 : Int)) := cellB (below_alF _ _) EK2.out.2.1.hi; have gb : (w2.alloc (Obj.cells #[.int .u64 0, .int .u64 1] 24)).cell? ⟨W.heap.size + 1, 1, none⟩ = some (.int .u64 (a.2 : Int)) := cellB (below_alF _ _) EK2.out.2.1.lo; have gl : (w2.alloc (Obj.cells #[.int .u64 0, .int .u64 1] 24)).cell? ⟨W.heap.size, 0, none⟩ = some (.int .i64 (k : Int)) := cellB (below_alF _ _) EK2.out.2.2.1; clear hb2 EK)
    | (refine ⟨trivial, ?_⟩; gi_at_call 33; refine (HI'.out _).mono ?_; rintro e w3 ⟨rfl, hc3, hb3, hs3⟩))
  clear ga gb gl HI' HON HO
  have hb3' := hb3
  have hp : W.heap.size + 1 + 1 < w2.heap.size := EK2.out.1.ltF
  have P1 : Ew w3 w2.heap.size 0 1 := (Ew.newF w2 (0, 1) _).below hb3
  have R1 : Ew w3 (W.heap.size + 1 + 1) 0 0 := (EK2.out.1.below (below_alF _ _)).below hb3
  have L1 : w3.cell? ⟨W.heap.size, 0, none⟩ = some (.int .i64 (k : Int)) := cellB hb3 (cellB (below_alF _ _) EK2.out.2.2.1)
  have B1 : Below W.heap.size W w3 := (EK2.out.2.2.2.trans ((below_alF w2 _).mono EK2.out.2.2.2.size)).trans (hb3.mono (by simp; omega))
  simp only [World.size_alloc] at hc3 hs3
  clear hb3 hb3' EK2
  have HZ := hidF hs3
  clear hs3
  generalize w2.heap.size = p at *
  have hCap : ∀ i, capB (p + 1) (p + 1 + 1) (p + 1 + 1 + 1) i → p < i ∧ i < w3.heap.size := fun i hi => by
    have := HZ.out
    rcases hi with h | h | h <;> omega
  refine rangePriv (xs := xs) rfl h1 (gf := 53) (lb := #[.pointer (some ⟨p + 1, 0, none⟩), .pointer (some ⟨p + 1 + 1, 0, none⟩), .pointer (some ⟨p + 1 + 1 + 1, 0, none⟩)]) rfl trivial (enters_of Try.func53 (by kernel_rfl) rfl) (encs := fun x : Ek k => #[enE x.1]) (fun _ => rfl) (fun i hi => (hCap i hi).2) (HS w3 _ _ _ hc3)
    (fun _ pre X => Ew X p (nrl pre).1 (nrl pre).2 ∧ Ew X (W.heap.size + 1 + 1) 0 0 ∧ X.cell? ⟨W.heap.size, 0, none⟩ = some (.int .i64 (k : Int)) ∧ Below W.heap.size W X) ?_ ?_ ?_ ?_
  · rintro q pre A B hq ⟨s, r, c, b⟩ hb ho
    have hA := s.ltF
    have := HZ.out
    exact ⟨s.blkF (ho _ hA (by omega) (by omega) (by omega)), r.blkF (ho _ (by omega) (by omega) (by omega) (by omega)), (World.cell?_of_block (ho W.heap.size (by omega) (by omega) (by omega) (by omega))).trans c, b.trans (hb.mono (by omega))⟩
  · intro q A hq hA
    exact ⟨P1.below hA, R1.below hA, cellB hA L1, B1.trans (hA.mono B1.size)⟩
  · rintro y q pre x X hq hqX _ ⟨s, r, c, b⟩
    unfold enE
    have hz1 : p < w3.heap.size := (by have := HZ.out; omega)
    gi_wp2
    refine ⟨Kept.below ((Below.refl _ _).alloc (Nat.le_refl _) _), fun o => ?_⟩
    obtain ⟨X2, hX2⟩ : ∃ X2, X2 = (X.alloc (Obj.cells #[.int .u64 (x.1.1 : Int), .int .u64 (x.1.2 : Int)] 24)).putObj (w3.heap.size + 1) o := ⟨_, rfl⟩
    have P2 : ∀ i, i < X.heap.size → i ≠ w3.heap.size + 1 → X2.heap[i]? = X.heap[i]? := fun i hi hn => by rw [hX2]; exact (World.putObj_heap_other hn).trans (Below.heap_alloc _ _ _ hi)
    have es2 : Ew X2 p (nrl pre).1 (nrl pre).2 := s.blkF (P2 _ s.ltF (by omega))
    have er2 : Ew X2 (W.heap.size + 1 + 1) 0 0 := r.blkF (P2 _ r.ltF (by omega))
    have ec2 : X2.cell? ⟨W.heap.size, 0, none⟩ = some (.int .i64 (k : Int)) := (World.cell?_of_block (P2 W.heap.size (by have := s.ltF; omega) (by omega))).trans c
    have ex2 : El X2 X.heap.size x.1.1 x.1.2 := by rw [hX2]; exact (Ew.newF X x.1 _).toEl.blkF (World.putObj_heap_other (by omega))
    have eb2 : Below W.heap.size W X2 := by
      rw [hX2]; exact (b.alloc b.size _).trans (below_putF _ _ _ (by simp; omega) (by omega))
    rw [← hX2]
    have HA : Hid (Ret 15 #[.int .i64 (k : Int), .agg #[.int .u64 ((nrl pre).1 : Int), .int .u64 ((nrl pre).2 : Int)], .agg #[.int .u64 (x.1.1 : Int), .int .u64 (x.1.2 : Int)]] (.agg #[.int .u64 ((nrl (pre ++ [x])).1 : Int), .int .u64 ((nrl (pre ++ [x])).2 : Int)])) := by
      have := mul_any (k : Int) (nrl pre) x.1 (lt_nrl pre).1 (lt_nrl pre).2 x.2.1.1 x.2.1.2
      rw [mulv_of (of_nrl hk pre) x.2.2, ← nrl_snoc] at this
      exact this
    clear hX2 s r b c P2
    have K2 := hidF (And.intro es2 (And.intro er2 (And.intro ec2 eb2)))
    have es1 := es2.hi
    have es0 := es2.lo
    have ex1 := ex2.hi
    have ex0 := ex2.lo
    clear es2 er2 ex2 eb2
    generalize nrl (pre ++ [x]) = T1 at *
    generalize nrl pre = T0 at *
    gi_wp2_with (refine ⟨trivial, ?_⟩; gi_at_call 15; refine (CallsIn.inRound y (callsIn_wide.2 (HA.out.go _))).mono ?_; rintro e w5 ⟨rfl, hb5⟩; have K5 := hidF (And.intro (K2.out.1.below hb5) (And.intro (K2.out.2.1.below hb5) (And.intro (cellB hb5 K2.out.2.2.1) (And.intro (Kept.below (C := Held q w3.heap.size (capB (p + 1) (p + 1 + 1) (p + 1 + 1 + 1))) hb5) (K2.out.2.2.2.trans (hb5.mono K2.out.2.2.2.size)))))); clear hb5 es1 es0 ex1 ex0 ec2; obtain ⟨⟨es1, es0⟩, ef1, ef0⟩ := K5.out.1)
    have nH : ¬ Held q w3.heap.size (capB (p + 1) (p + 1 + 1) (p + 1 + 1 + 1)) p := by
      rintro ((h | h) | h | h)
      · omega
      · have := hCap _ h; omega
      · omega
      · omega
    refine ⟨K5.out.2.2.2.1.trans (Kept.set2 _ _ _ _ _ _ nH), K5.out.1.set _ _, K5.out.2.1.offF (by omega) _ _ _ _, ?_, (K5.out.2.2.2.2.setCell (by simp; omega) _).setCell (by simp; omega) _⟩
    exact K5.out.2.2.1
  · rintro q X hq ⟨s, r, c, b⟩ hD
    obtain ⟨⟨es1, es0⟩, _, _⟩ := s
    obtain ⟨⟨er1, er0⟩, eg1, eg0⟩ := r
    have hz1 : p < w3.heap.size := (by have := HZ.out; omega)
    gi_wp2
    have hD2 := ((Below.heap_setCell (X.setCell ⟨W.heap.size + 1 + 1, 0, none⟩ (.int .u64 ((nrl xs).1 : Int))) ⟨W.heap.size + 1 + 1, 1, none⟩ (.int .u64 ((nrl xs).2 : Int)) w3.heap.size (by simp; omega)).trans ((Below.heap_setCell X ⟨W.heap.size + 1 + 1, 0, none⟩ (.int .u64 ((nrl xs).1 : Int)) w3.heap.size (by simp; omega)))).trans hD
    refine ⟨by simp, .inl ⟨_, _, rfl, run_takeDeferred hD2, ?_⟩⟩
    have hE2 : Ew ((X.setCell ⟨W.heap.size + 1 + 1, 0, none⟩ (.int .u64 ((nrl xs).1 : Int))).setCell ⟨W.heap.size + 1 + 1, 1, none⟩ (.int .u64 ((nrl xs).2 : Int))) (W.heap.size + 1 + 1) (nrl xs).1 (nrl xs).2 := Ew.set ⟨⟨er1, er0⟩, eg1, eg0⟩ _ _
    have hE3 := hE2.blkF (World.putObj_heap_other (o := .deferred none) (show W.heap.size + 1 + 1 ≠ w3.heap.size by omega))
    have hB3 := ((b.setCell (p := ⟨W.heap.size + 1 + 1, 0, none⟩) (by simp; omega) (.int .u64 ((nrl xs).1 : Int))).setCell (p := ⟨W.heap.size + 1 + 1, 1, none⟩) (by simp; omega) (.int .u64 ((nrl xs).2 : Int))).trans (below_putF _ w3.heap.size (.deferred none) (Array.getElem?_eq_some_iff.1 hD2).1 (by omega))
    clear hD2 hE2 er1 er0 eg1 eg0 es1 es0 b hD c
    obtain ⟨⟨c1, c0⟩, _, _⟩ := hE3
    generalize World.putObj _ _ _ = X9 at *
    refine ⟨.agg #[.int .u64 ((nrl xs).1 : Int), .int .u64 ((nrl xs).2 : Int)], ?_, rfl, hB3⟩
    simp [results, Try.results19, go_sem, c1, c0]
theorem ov_yes {k j : Nat} (hj : j ≤ k) (a : Ek k) : ovB (k : Int) (j : Int) a.1 = true := by
  unfold ovB
  rw [show ofB (k : Int) (a.1.1 : Int) (a.1.2 : Int) = true from a.2.2]
  simp; omega
theorem norm_ok (k j : Nat) (hk : k < 8) (hj : j ≤ k) (a : Ek k) : Ret 19 #[.int .i64 (k : Int), .int .i64 (j : Int), .agg #[.int .u64 (a.1.1 : Int), .int .u64 (a.1.2 : Int)]] (.agg #[.int .u64 ((nrl (cjs k (2 ^ j) hk a (2 ^ (k - j)))).1 : Int), .int .u64 ((nrl (cjs k (2 ^ j) hk a (2 ^ (k - j)))).2 : Int)]) :=
  norm_core k hk (j : Int) a.1 a.2.1 (ov_yes hj a) _ (fun w b1 b2 b3 h => conj1_ok (3 - 1) (by omega) b1 b2 b3 k j (k - j) _ _ hk hj rfl rfl rfl a w h)
end Go.Proofs.Ytjdfbjdbfncofaa

/- Traces and norms, no Go in sight: they are of the level below, and go through any level between. -/
namespace Go.Proofs.Ytjdfbjdbfncofaa
open Cb
open Tw (pm)
namespace Fr

/-- What is added or multiplied: an operation on elements, and what changes nothing. -/
structure Mon (op : Nat × Nat → Nat × Nat → Nat × Nat) (e : Nat × Nat) : Prop where
  comm : ∀ a b, op a b = op b a
  assoc : ∀ a b c, op (op a b) c = op a (op b c)
  one : ∀ a, lt2 a → op e a = a
  lt : ∀ a b, lt2 a → lt2 b → lt2 (op a b)
  le : lt2 e
/-- The first so many, one behind the other. -/
def fo (op : Nat × Nat → Nat × Nat → Nat × Nat) (e : Nat × Nat) : Nat → (Nat → Nat × Nat) → Nat × Nat
  | 0, _ => e
  | n + 1, f => op (fo op e n f) (f n)
variable {op : Nat × Nat → Nat × Nat → Nat × Nat} {e : Nat × Nat}
theorem lt_fo (h : Mon op e) {f : Nat → Nat × Nat} (hf : ∀ i, lt2 (f i)) : ∀ n, lt2 (fo op e n f)
  | 0 => h.le
  | n + 1 => h.lt _ _ (lt_fo h hf n) (hf n)
theorem fo_congr {f g : Nat → Nat × Nat} : ∀ n, (∀ i, i < n → f i = g i) → fo op e n f = fo op e n g
  | 0, _ => rfl
  | n + 1, h => by rw [fo, fo, fo_congr n fun i hi => h i (by omega), h n (by omega)]
theorem left_comm (h : Mon op e) (a b c : Nat × Nat) : op a (op b c) = op b (op a c) := by rw [← h.assoc, h.comm a b, h.assoc]
theorem fo_op (h : Mon op e) (f g : Nat → Nat × Nat) : ∀ n, fo op e n (fun i => op (f i) (g i)) = op (fo op e n f) (fo op e n g)
  | 0 => (h.one e h.le).symm
  | n + 1 => by rw [fo, fo, fo, fo_op h f g n, h.assoc, h.assoc, left_comm h (fo op e n g)]
theorem fo_e (h : Mon op e) : ∀ n, fo op e n (fun _ => e) = e
  | 0 => rfl
  | n + 1 => by rw [fo, fo_e h n, h.one e h.le]
theorem fo_add (h : Mon op e) {f : Nat → Nat × Nat} (hf : ∀ i, lt2 (f i)) (m : Nat) : ∀ n, fo op e (m + n) f = op (fo op e m f) (fo op e n fun i => f (m + i))
  | 0 => by rw [Nat.add_zero, fo, h.comm, h.one _ (lt_fo h hf m)]
  | n + 1 => by rw [← Nat.add_assoc, fo, fo, fo_add h hf m n, h.assoc]
/-- A rows of B, one column behind the other. -/
theorem fo_grid (h : Mon op e) {f : Nat → Nat × Nat} (hf : ∀ i, lt2 (f i)) (A : Nat) : ∀ B, fo op e (A * B) f = fo op e A fun i => fo op e B fun j => f (A * j + i)
  | 0 => by rw [Nat.mul_zero]; exact (fo_e h A).symm
  | B + 1 => by
    rw [Nat.mul_succ, fo_add h hf, fo_grid h hf A B, ← fo_op h]
    rfl
theorem fo_first (h : Mon op e) (f : Nat → Nat × Nat) (n : Nat) : op (f 0) (fo op e n fun i => f (i + 1)) = op (fo op e n f) (f n) := by
  induction n with
  | zero => show op (f 0) e = op e (f 0); rw [h.comm]
  | succ n ih => rw [fo, ← h.assoc, ih, fo]
theorem mon_add : Mon xa (0, 0) := ⟨xa_comm, xa_assoc, fun a _ => zero_xa a, fun _ _ ha hb => lt_xa ha hb, lt_zero⟩
theorem mon_mul : Mon pm (0, 1) := ⟨Tw.pm_comm', Tw.pm_assoc', fun _ h => one_pm h, fun _ _ _ _ => lt_pm _ _, lt_one⟩
/-- Squares go over both. -/
def Goes (op : Nat × Nat → Nat × Nat → Nat × Nat) (e : Nat × Nat) : Prop := (∀ n, sqv e n = e) ∧ ∀ a b n, lt2 a → lt2 b → sqv (op a b) n = op (sqv a n) (sqv b n)
theorem d7_one'' : Tw.d7 0 1 = Tw.one 7 := Tw.d7_one'
theorem goes_add : Goes xa (0, 0) := by
  have h2 : ∀ a b n, lt2 a → lt2 b → sqv (xa a b) n = xa (sqv a n) (sqv b n) := fun a b n ha hb =>
    d7_ext (lt_sqv (lt_xa ha hb) n) (lt_xa (lt_sqv ha n) (lt_sqv hb n)) (by
      rw [d7_sqv]
      show Tw.sqn 7 n (Tw.d7 (a.1 ^^^ b.1) (a.2 ^^^ b.2)) = Tw.d7 ((sqv a n).1 ^^^ (sqv b n).1) ((sqv a n).2 ^^^ (sqv b n).2)
      rw [Tw.d7_add, Tw.d7_add, Tw.sqn_add, d7_sqv, d7_sqv])
  refine ⟨fun n => ?_, h2⟩
  have h := h2 (0, 0) (0, 0) n lt_zero lt_zero
  rw [xa_self, xa_self] at h
  exact h
theorem goes_mul : Goes pm (0, 1) := by
  refine ⟨fun n => d7_ext (lt_sqv lt_one n) lt_one (by rw [d7_sqv, d7_one'', Tw.sqn_one]), fun a b n ha hb => d7_ext (lt_sqv (lt_pm _ _) n) (lt_pm _ _) ?_⟩
  rw [d7_sqv]
  show Tw.sqn 7 n (Tw.d7 (Tw.pmh a.1 a.2 b.1 b.2) (Tw.pml a.1 a.2 b.1 b.2)) = Tw.d7 (Tw.pmh (sqv a n).1 (sqv a n).2 (sqv b n).1 (sqv b n).2) (Tw.pml (sqv a n).1 (sqv a n).2 (sqv b n).1 (sqv b n).2)
  rw [Tw.d7_mul, Tw.d7_mul, Tw.sqn_mul, d7_sqv, d7_sqv]
theorem sqv_fo (h : Mon op e) (g : Goes op e) {f : Nat → Nat × Nat} (hf : ∀ i, lt2 (f i)) (m : Nat) : ∀ n, sqv (fo op e n f) m = fo op e n fun i => sqv (f i) m
  | 0 => g.1 m
  | n + 1 => by rw [fo, fo, g.2 _ _ m (lt_fo h hf n) (hf n), sqv_fo h g hf m n]
/-- The trace or the norm. -/
def tn (op : Nat × Nat → Nat × Nat → Nat × Nat) (e : Nat × Nat) (k j : Nat) (a : Nat × Nat) : Nat × Nat := fo op e (2 ^ (k - j)) fun i => sqv a (2 ^ j * i)
theorem lt_tn (h : Mon op e) {a : Nat × Nat} (la : lt2 a) (k j : Nat) : lt2 (tn op e k j a) := lt_fo h (fun _ => lt_sqv la _) _
/-- It is fixed. -/
theorem tn_fixed (h : Mon op e) (g : Goes op e) {k j : Nat} (hk : k < 8) (hj : j ≤ k) {a : Nat × Nat} (la : lt2 a) (oa : ofE k a) : sqv (tn op e k j a) (2 ^ j) = tn op e k j a := by
  have hf : ∀ i, lt2 (sqv a (2 ^ j * i)) := fun _ => lt_sqv la _
  obtain ⟨n, hn⟩ : ∃ n, 2 ^ (k - j) = n + 1 := ⟨2 ^ (k - j) - 1, (Nat.succ_pred_eq_of_pos (Nat.two_pow_pos _)).symm⟩
  have he : 2 ^ j * (n + 1) = 2 ^ k := by rw [← hn, ← Nat.pow_add]; congr 1; omega
  unfold tn
  rw [sqv_fo h g hf, hn]
  have h1 := fo_first h (fun i => sqv a (2 ^ j * i)) n
  have e1 : ∀ i, sqv (sqv a (2 ^ j * i)) (2 ^ j) = sqv a (2 ^ j * (i + 1)) := fun i => by rw [sqv_sqv la, Nat.mul_succ]
  rw [fo_congr (n + 1) fun i _ => e1 i]
  show op (fo op e n fun i => sqv a (2 ^ j * (i + 1))) (sqv a (2 ^ j * (n + 1))) = op (fo op e n fun i => sqv a (2 ^ j * i)) (sqv a (2 ^ j * n))
  rw [← h1, he, sqv_back hk la oa, h.comm]
  rfl
/-- It is of the level below. -/
theorem of_tn (h : Mon op e) (g : Goes op e) {k j : Nat} (hk : k < 8) (hj : j ≤ k) {a : Nat × Nat} (la : lt2 a) (oa : ofE k a) : ofE j (tn op e k j a) := by
  have l := lt_tn h la k j
  have hx : Tw.d7 (sqv (tn op e k j a) (2 ^ j)).1 (sqv (tn op e k j a) (2 ^ j)).2 = Tw.d7 (tn op e k j a).1 (tn op e k j a).2 := by rw [tn_fixed h g hk hj la oa]
  rw [d7_sqv] at hx
  generalize tn op e k j a = t at *
  have hj8 : j < 8 := by omega
  refine (ofB_iff j t.1 t.2 hj8).2 ?_
  by_cases h7 : j = 7
  · exact .inl h7
  · right
    have hlev := Tw.fixed_levels j (7 - j)
    rw [show j + (7 - j) = 7 by omega] at hlev
    have hb := hlev _ hx
    have e7 : Tw.enc 7 (Tw.d7 t.1 t.2) = 2 ^ 64 * t.1 + t.2 := by
      rw [← Tw.dec7 t.1 t.2 l.2, Tw.enc_dec_lt]
      · have := l.1; have := l.2
        show 2 ^ 64 * t.1 + t.2 < 2 ^ 128
        omega
    rw [e7] at hb
    have hp : 2 ^ 2 ^ j ≤ 2 ^ 64 := Nat.pow_le_pow_right (by decide) (Nat.pow_le_pow_right (n := 2) (by decide) (show j ≤ 6 by omega))
    have h0 : t.1 = 0 := by
      rcases Nat.eq_zero_or_pos t.1 with h0 | h0
      · exact h0
      · exfalso
        have : 2 ^ 64 * 1 ≤ 2 ^ 64 * t.1 := Nat.mul_le_mul_left _ h0
        omega
    rw [h0] at hb
    exact ⟨h0, by omega⟩
/-- It goes through any level between. -/
theorem tn_through (h : Mon op e) (g : Goes op e) {k m j : Nat} (hk : k < 8) (hm : m ≤ k) (hj : j ≤ m) {a : Nat × Nat} (la : lt2 a) : tn op e k j a = tn op e m j (tn op e k m a) := by
  have hf : ∀ i, lt2 (sqv a (2 ^ j * i)) := fun _ => lt_sqv la _
  unfold tn
  rw [show 2 ^ (k - j) = 2 ^ (m - j) * 2 ^ (k - m) by rw [← Nat.pow_add]; congr 1; omega, fo_grid h hf]
  refine fo_congr _ fun i _ => ?_
  rw [sqv_fo h g (fun _ => lt_sqv la _)]
  refine fo_congr _ fun l _ => ?_
  rw [sqv_sqv la]
  congr 1
  rw [Nat.mul_add, ← Nat.mul_assoc, ← Nat.pow_add, show j + (m - j) = m by omega]
end Fr
open Fr
theorem trl_tn {k : Nat} (hk : k < 8) (j : Nat) (a : Ek k) (n : Nat) : trl (cjs k (2 ^ j) hk a n) = fo xa (0, 0) n fun i => sqv a.1 (2 ^ j * i) := by
  induction n with
  | zero => rfl
  | succ n ih => rw [cjs_succ, trl_snoc, ih]; rfl
theorem nrl_tn {k : Nat} (hk : k < 8) (j : Nat) (a : Ek k) (n : Nat) : nrl (cjs k (2 ^ j) hk a n) = fo pm (0, 1) n fun i => sqv a.1 (2 ^ j * i) := by
  induction n with
  | zero => rfl
  | succ n ih => rw [cjs_succ, nrl_snoc, ih]; rfl
end Go.Proofs.Ytjdfbjdbfncofaa

/- The contract of steeplelaw33.of over the seat's translation. -/
namespace Go.Proofs.Ytjdfbjdbfncofaa
open Go.RowKit
open Cb
open Tw (pm)

theorem and_maskF (al m : Nat) (h : al < 2 ^ 64) (hm : m ≤ 32) : bits .and .u64 (al : Int) ((2 ^ m - 1 : Nat) : Int) = ((al % 2 ^ m : Nat) : Int) := by
  have hp : 2 ^ m ≤ 2 ^ 32 := Nat.pow_le_pow_right (by decide) hm
  have h1 : (BitVec.ofInt 64 (al : Int)).toNat = al := by
    rw [BitVec.ofInt_natCast, BitVec.toNat_ofNat]; exact Nat.mod_eq_of_lt (by omega)
  have h2 : (BitVec.ofInt 64 ((2 ^ m - 1 : Nat) : Int)).toNat = 2 ^ m - 1 := by
    rw [BitVec.ofInt_natCast, BitVec.toNat_ofNat]; exact Nat.mod_eq_of_lt (by omega)
  show IntKind.u64.wrap ((BitVec.ofInt 64 (al : Int) &&& BitVec.ofInt 64 ((2 ^ m - 1 : Nat) : Int)).toNat : Int) = _
  rw [BitVec.toNat_and, h1, h2, Nat.and_two_pow_sub_one_eq_mod]
  have : al % 2 ^ m < 2 ^ m := Nat.mod_lt _ (Nat.two_pow_pos m)
  generalize al % 2 ^ m = x at *
  show ((x : Int) % 18446744073709551616) = _
  omega
set_option maxHeartbeats 8000000 in
set_option maxRecDepth 100000 in
theorem of33 (k : Nat) (hk : k < 8) (a : Nat × Nat) (la : lt2 a) : Ret 7 #[.int .i64 (k : Int), .agg #[.int .u64 (a.1 : Int), .int .u64 (a.2 : Int)]] (.agg #[.int .u64 ((cutE k a).1 : Int), .int .u64 ((cutE k a).2 : Int)]) := by
  intro W
  have m0 : bits .and .u64 (a.2 : Int) 1 = ((a.2 % 2 : Nat) : Int) := and_maskF a.2 1 la.2 (by decide)
  have m1 : bits .and .u64 (a.2 : Int) 3 = ((a.2 % 4 : Nat) : Int) := and_maskF a.2 2 la.2 (by decide)
  have m2 : bits .and .u64 (a.2 : Int) 15 = ((a.2 % 16 : Nat) : Int) := and_maskF a.2 4 la.2 (by decide)
  have m3 : bits .and .u64 (a.2 : Int) 255 = ((a.2 % 256 : Nat) : Int) := and_maskF a.2 8 la.2 (by decide)
  have m4 : bits .and .u64 (a.2 : Int) 65535 = ((a.2 % 65536 : Nat) : Int) := and_maskF a.2 16 la.2 (by decide)
  have m5 : bits .and .u64 (a.2 : Int) 4294967295 = ((a.2 % 4294967296 : Nat) : Int) := and_maskF a.2 32 la.2 (by decide)
  rcases (show k = 0 ∨ k = 1 ∨ k = 2 ∨ k = 3 ∨ k = 4 ∨ k = 5 ∨ k = 6 ∨ k = 7 by omega) with rfl | rfl | rfl | rfl | rfl | rfl | rfl | rfl
  all_goals
    go_enter Try.func7, Try.ntmps7
    go_wp2
    refine bodyPost_ret (v := .agg #[.int .u64 ((cutE _ a).1 : Int), .int .u64 ((cutE _ a).2 : Int)]) (by simp [results, Try.results7, go_sem, cutE]) rfl ⟨rfl, ?_⟩
    exact ((Below.refl _ _).alloc (Nat.le_refl _) _).alloc (by simp) _
/-- A level by a remainder. -/
theorem cut_mod (x : Int) (n : Nat) (hn : n < 8) : ∃ (t : Int) (m : Nat), m ≤ n ∧ x.tmod ((n : Int) + 1) = t ∧ -8 ≤ t ∧ t ≤ 8 ∧ (t + (n : Int) + 1).tmod ((n : Int) + 1) = (m : Int) := by
  have h1 : -((n : Int) + 1) < x.tmod ((n : Int) + 1) := by
    have := Int.lt_tmod_of_pos x (show (0 : Int) < (n : Int) + 1 by omega); omega
  have h2 : x.tmod ((n : Int) + 1) < (n : Int) + 1 := Int.tmod_lt_of_pos _ (by omega)
  refine ⟨_, ((x.tmod ((n : Int) + 1) + (n : Int) + 1).tmod ((n : Int) + 1)).toNat, ?_, rfl, by omega, by omega, ?_⟩
  · have h3 : (x.tmod ((n : Int) + 1) + (n : Int) + 1).tmod ((n : Int) + 1) < (n : Int) + 1 := Int.tmod_lt_of_pos _ (by omega)
    have h4 : 0 ≤ (x.tmod ((n : Int) + 1) + (n : Int) + 1).tmod ((n : Int) + 1) := Int.tmod_nonneg _ (by omega)
    omega
  · have h4 : 0 ≤ (x.tmod ((n : Int) + 1) + (n : Int) + 1).tmod ((n : Int) + 1) := Int.tmod_nonneg _ (by omega)
    omega
end Go.Proofs.Ytjdfbjdbfncofaa
