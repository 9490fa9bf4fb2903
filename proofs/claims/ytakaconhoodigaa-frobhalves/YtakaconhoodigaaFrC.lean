/- The contract of frob.Trace over the seat's translation. -/
import Derived.Test.YtakaconhoodigaaFrB
namespace Go.Proofs.Ytakaconhoodigaa
open Go.RowKit Go.Shelf
open Cb
open Tw (pm)

attribute [local go_sem] Oper.semAt_some

/-- All added. -/
def trl {k : Nat} (xs : List (Ek k)) : Nat × Nat := xs.foldl (fun s x => xa s x.1) (0, 0)
theorem trl_snoc {k : Nat} (xs : List (Ek k)) (x : Ek k) : trl (xs ++ [x]) = xa (trl xs) x.1 := by simp [trl]
theorem lt_trl {k : Nat} (xs : List (Ek k)) : lt2 (trl xs) := by
  rcases xs.eq_nil_or_concat with rfl | ⟨ys, x, rfl⟩
  · exact lt_zero
  · rw [List.concat_eq_append, trl_snoc]
    have : ∀ (zs : List (Ek k)) (s : Nat × Nat), lt2 s → lt2 (zs.foldl (fun s x => xa s x.1) s) := by
      intro zs
      induction zs with
      | nil => exact fun s h => h
      | cons z zs ih => exact fun s h => ih _ (lt_xa h z.2.1)
    exact lt_xa (this ys _ lt_zero) x.2.1
theorem Ew.blkF {A B : World} {b x y : Nat} (e : Ew A b x y) (h : B.heap[b]? = A.heap[b]?) : Ew B b x y :=
  ⟨⟨(World.cell?_of_block h).trans e.hi, (World.cell?_of_block h).trans e.lo⟩, (World.frozen?_of_block h).trans e.fhi, (World.frozen?_of_block h).trans e.flo⟩
theorem El.blkF {A B : World} {b x y : Nat} (e : El A b x y) (h : B.heap[b]? = A.heap[b]?) : El B b x y :=
  ⟨(World.cell?_of_block h).trans e.hi, (World.cell?_of_block h).trans e.lo⟩
theorem Ew.ltF {A : World} {b x y : Nat} (e : Ew A b x y) : b < A.heap.size := cell_ltF e.hi
theorem Ew.newF (w : World) (v : Nat × Nat) (T : TypeId) : Ew (w.alloc (Obj.cells #[.int .u64 (v.1 : Int), .int .u64 (v.2 : Int)] T)) w.heap.size v.1 v.2 := ⟨⟨by simp [go_sem], by simp [go_sem]⟩, by simp [go_sem], by simp [go_sem]⟩
theorem Ew.offF {w : World} {b c h l : Nat} (e : Ew w c h l) (hn : b ≠ c) (o o' : Nat) (u v : Value) : Ew ((w.setCell ⟨b, o, none⟩ u).setCell ⟨b, o', none⟩ v) c h l := by
  obtain ⟨⟨h1, h2⟩, h3, h4⟩ := e
  have hn' : c ≠ b := fun h => hn h.symm
  exact ⟨⟨by simp [go_sem, *], by simp [go_sem, *]⟩, by simp [go_sem, *], by simp [go_sem, *]⟩
theorem below_putF {n : Nat} (W : World) (l : Nat) (o : Obj) (hl : l < W.heap.size) (hn : n ≤ l) : Below n W (W.putObj l o) :=
  (Below.refl _ _).grown (grownBy_putObj' _ _ _) (by omega) (fun k e => by cases e; omega)
theorem Kept.set2 {C : Nat → Prop} (A : World) (b o o' : Nat) (u v : Value) (hn : ¬ C b) : Kept C A ((A.setCell ⟨b, o, none⟩ u).setCell ⟨b, o', none⟩ v) := (Kept.set A b o u hn).trans (Kept.set _ b o' v hn)

set_option maxRecDepth 100000 in
set_option maxHeartbeats 8000000 in
theorem trace_core (k : Nat) (l t : Int) (a : Nat × Nat) (xs : List (Ek k)) (HS : ∀ (w : World) (b1 b2 b3 : Nat), Caught w b1 b2 b3 l t a → SeqPriv Fence.wide (3 - 1) Try.prog 50 #[.pointer (some ⟨b1, 0, none⟩), .pointer (some ⟨b2, 0, none⟩), .pointer (some ⟨b3, 0, none⟩)] (fun x : Ek k => #[enE x.1]) (capB b1 b2 b3) xs w) :
    Ret 18 #[.int .i64 l, .int .i64 t, .agg #[.int .u64 (a.1 : Int), .int .u64 (a.2 : Int)]] (.agg #[.int .u64 ((trl xs).1 : Int), .int .u64 ((trl xs).2 : Int)]) := by
  intro W
  refine (callsIn_wide (n := 3)).1 ?_
  have h1 : 1 ≤ 3 := by omega
  refine callsIn_of_wp_marks Try.func18 rfl trivial ?_ rfl
  simp only [Try.ntmps18, List.size_toArray, List.length_cons, List.length_nil, Nat.reduceAdd, Nat.reduceSub, Array.replicate_succ, Array.replicate_zero, List.push_toArray, List.append_toArray, List.nil_append, List.cons_append]
  have HI := fun w => conj_in (3 - 1) l t a w
  unfold enE at HI
  have HI' := hidF HI
  clear HI
  gi_wp2_with (refine ⟨trivial, ?_⟩; gi_at_call 39; refine (HI'.out _).mono ?_; rintro e w1 ⟨rfl, hc1, hb1, hs1⟩)
  simp only [World.size_alloc] at hc1 hb1 hs1
  obtain ⟨w0, hw0⟩ : ∃ w0, w0 = (((W.alloc (Obj.cells #[.int .u64 (a.1 : Int), .int .u64 (a.2 : Int)] 24)).alloc (Obj.cells #[.int .u64 0, .int .u64 0] 24)).alloc (Obj.cells #[.int .u64 0, .int .u64 0] 24)) := ⟨_, rfl⟩
  have B0 : Below W.heap.size W w0 := by rw [hw0]; exact (((Below.refl _ _).alloc (Nat.le_refl _) _).alloc (by simp) _).alloc (by simp; omega) _
  have ez0 : w0.heap.size = W.heap.size + 1 + 1 + 1 := by rw [hw0]; simp
  have S0 : Ew w0 (W.heap.size + 1 + 1) 0 0 := by rw [hw0]; exact ⟨⟨by simp [go_sem], by simp [go_sem]⟩, by simp [go_sem], by simp [go_sem]⟩
  have R0 : Ew w0 (W.heap.size + 1) 0 0 := by rw [hw0]; exact ⟨⟨by simp [go_sem], by simp [go_sem]⟩, by simp [go_sem], by simp [go_sem]⟩
  rw [← hw0] at hb1
  have hb1' : Below w0.heap.size w0 w1 := by rw [ez0]; exact hb1
  have S1 := S0.below hb1'
  have R1 := R0.below hb1'
  have B1 := B0.trans (hb1'.mono B0.size)
  clear hw0 hb1 hb1' S0 R0 B0 ez0 HI'
  have HZ := hidF hs1
  clear hs1
  have hCap : ∀ i, capB (W.heap.size + 1 + 1 + 1) (W.heap.size + 1 + 1 + 1 + 1) (W.heap.size + 1 + 1 + 1 + 1 + 1) i → W.heap.size + 1 + 1 < i ∧ i < w1.heap.size := fun i hi => by
    have := HZ.out
    rcases hi with h | h | h <;> omega
  refine rangePriv (xs := xs) rfl h1 (gf := 50) (lb := #[.pointer (some ⟨W.heap.size + 1 + 1 + 1, 0, none⟩), .pointer (some ⟨W.heap.size + 1 + 1 + 1 + 1, 0, none⟩), .pointer (some ⟨W.heap.size + 1 + 1 + 1 + 1 + 1, 0, none⟩)]) rfl trivial (enters_of Try.func50 (by kernel_rfl) rfl) (encs := fun x : Ek k => #[enE x.1]) (fun _ => rfl) (fun i hi => (hCap i hi).2) (HS w1 _ _ _ hc1)
    (fun _ pre X => Ew X (W.heap.size + 1 + 1) (trl pre).1 (trl pre).2 ∧ Ew X (W.heap.size + 1) 0 0 ∧ Below W.heap.size W X) ?_ ?_ ?_ ?_
  · rintro q pre A B hq ⟨s, r, b⟩ hb ho
    have hA := s.ltF
    have := HZ.out
    exact ⟨s.blkF (ho _ hA (by omega) (by omega) (by omega)), r.blkF (ho _ (by omega) (by omega) (by omega) (by omega)), b.trans (hb.mono (by omega))⟩
  · intro q A hq hA
    exact ⟨S1.below hA, R1.below hA, B1.trans (hA.mono B1.size)⟩
  · rintro y q pre x X hq hqX _ ⟨s, r, b⟩
    unfold enE
    have hz1 : W.heap.size + 1 + 1 < w1.heap.size := (by have := HZ.out; omega)
    gi_wp2
    refine ⟨Kept.below ((Below.refl _ _).alloc (Nat.le_refl _) _), fun o => ?_⟩
    obtain ⟨X2, hX2⟩ : ∃ X2, X2 = (X.alloc (Obj.cells #[.int .u64 (x.1.1 : Int), .int .u64 (x.1.2 : Int)] 24)).putObj (w1.heap.size + 1) o := ⟨_, rfl⟩
    have P2 : ∀ i, i < X.heap.size → i ≠ w1.heap.size + 1 → X2.heap[i]? = X.heap[i]? := fun i hi hn => by rw [hX2]; exact (World.putObj_heap_other hn).trans (Below.heap_alloc _ _ _ hi)
    have s2 : Ew X2 (W.heap.size + 1 + 1) (trl pre).1 (trl pre).2 := s.blkF (P2 _ s.ltF (by omega))
    have r2 : Ew X2 (W.heap.size + 1) 0 0 := r.blkF (P2 _ r.ltF (by omega))
    have ex2 : El X2 X.heap.size x.1.1 x.1.2 := by rw [hX2]; exact (Ew.newF X x.1 _).toEl.blkF (World.putObj_heap_other (by omega))
    have b2 : Below W.heap.size W X2 := by
      rw [hX2]; exact (b.alloc b.size _).trans (below_putF _ _ _ (by simp; omega) (by omega))
    have ez2 : X2.heap.size = X.heap.size + 1 := by rw [hX2]; simp [World.putObj]
    rw [← hX2]
    have HA := hidF (fun w => add_any (trl pre).1 (trl pre).2 x.1.1 x.1.2 (lt_trl pre).1 (lt_trl pre).2 x.2.1.1 x.2.1.2 w)
    have HV := hidF (trl_snoc pre x)
    clear hX2 s r b P2
    have K2 := hidF (And.intro s2 (And.intro r2 (And.intro ex2 b2)))
    have es1 := s2.hi
    have es0 := s2.lo
    have ex1 := ex2.hi
    have ex0 := ex2.lo
    clear s2 r2 ex2 b2
    generalize trl pre = T0 at *
    gi_wp2_with (refine ⟨trivial, ?_⟩; gi_at_call 26; refine (CallsIn.inRound y (callsIn_wide.2 (HA.out _))).mono ?_; rintro e w5 ⟨rfl, hb5⟩; have K5 := hidF (And.intro (K2.out.1.below hb5) (And.intro (K2.out.2.1.below hb5) (And.intro (Kept.below (C := Held q w1.heap.size (capB (W.heap.size + 1 + 1 + 1) (W.heap.size + 1 + 1 + 1 + 1) (W.heap.size + 1 + 1 + 1 + 1 + 1))) hb5) (K2.out.2.2.2.trans (hb5.mono K2.out.2.2.2.size))))); clear hb5 es1 es0 ex1 ex0; obtain ⟨⟨es1, es0⟩, ef1, ef0⟩ := K5.out.1)
    have nH : ¬ Held q w1.heap.size (capB (W.heap.size + 1 + 1 + 1) (W.heap.size + 1 + 1 + 1 + 1) (W.heap.size + 1 + 1 + 1 + 1 + 1)) (W.heap.size + 1 + 1) := by
      rintro ((h | h) | h | h)
      · omega
      · have := hCap _ h; omega
      · omega
      · omega
    refine ⟨K5.out.2.2.1.trans (Kept.set2 _ _ _ _ _ _ nH), ?_, K5.out.2.1.offF (by omega) _ _ _ _, (K5.out.2.2.2.setCell (by simp; omega) _).setCell (by simp; omega) _⟩
    rw [HV.out]
    exact K5.out.1.set _ _
  · rintro q X hq ⟨s, r, b⟩ hD
    obtain ⟨⟨es1, es0⟩, _, _⟩ := s
    obtain ⟨⟨er1, er0⟩, eg1, eg0⟩ := r
    have hz1 : W.heap.size + 1 + 1 < w1.heap.size := (by have := HZ.out; omega)
    gi_wp2
    have hD2 := ((Below.heap_setCell (X.setCell ⟨W.heap.size + 1, 0, none⟩ (.int .u64 ((trl xs).1 : Int))) ⟨W.heap.size + 1, 1, none⟩ (.int .u64 ((trl xs).2 : Int)) w1.heap.size (by simp; omega)).trans ((Below.heap_setCell X ⟨W.heap.size + 1, 0, none⟩ (.int .u64 ((trl xs).1 : Int)) w1.heap.size (by simp; omega)))).trans hD
    refine ⟨by simp, .inl ⟨_, _, rfl, run_takeDeferred hD2, ?_⟩⟩
    have hE2 : Ew ((X.setCell ⟨W.heap.size + 1, 0, none⟩ (.int .u64 ((trl xs).1 : Int))).setCell ⟨W.heap.size + 1, 1, none⟩ (.int .u64 ((trl xs).2 : Int))) (W.heap.size + 1) (trl xs).1 (trl xs).2 := Ew.set ⟨⟨er1, er0⟩, eg1, eg0⟩ _ _
    have hE3 := hE2.blkF (World.putObj_heap_other (o := .deferred none) (show W.heap.size + 1 ≠ w1.heap.size by omega))
    have hB3 := ((b.setCell (p := ⟨W.heap.size + 1, 0, none⟩) (Nat.le_succ _) (.int .u64 ((trl xs).1 : Int))).setCell (p := ⟨W.heap.size + 1, 1, none⟩) (Nat.le_succ _) (.int .u64 ((trl xs).2 : Int))).trans (below_putF _ w1.heap.size (.deferred none) (Array.getElem?_eq_some_iff.1 hD2).1 (by omega))
    clear hD2 hE2 er1 er0 eg1 eg0 es1 es0 b hD
    obtain ⟨⟨c1, c0⟩, _, _⟩ := hE3
    generalize World.putObj _ _ _ = X9 at *
    refine ⟨.agg #[.int .u64 ((trl xs).1 : Int), .int .u64 ((trl xs).2 : Int)], ?_, rfl, hB3⟩
    simp [results, Try.results18, go_sem, c1, c0]
end Go.Proofs.Ytakaconhoodigaa
