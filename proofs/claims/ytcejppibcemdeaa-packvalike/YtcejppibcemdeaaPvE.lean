/- The contracts of packv.addPair, Left and One over the seat's translation. -/
import Derived.Test.YtcejppibcemdeaaPPvP
import Derived.Test.YtcejppibcemdeaaPPvD
import Derived.Test.YtcejppibcemdeaaPWvO
import Derived.Test.YtcejppibcemdeaaTwBl
namespace Go.Proofs.Ytcejppibcemdeaa
open Go.RowKit
open Cb Rg
open Tw (pm)
namespace Pv

theorem _root_.Go.Proofs.Ytcejppibcemdeaa.El.newP (w : World) (v : Nat × Nat) (T : TypeId) : El (w.alloc (Obj.cells #[.int .u64 (v.1 : Int), .int .u64 (v.2 : Int)] T)) w.heap.size v.1 v.2 := ⟨by simp [go_sem], by simp [go_sem]⟩
/-- A row to which j parts of a pair have been added. -/
def apj (h : Nat → Nat × Nat) (a b : Nat × Nat) (j c : Nat) : Nat × Nat := if c < j then xa (h c) (sl (hs a c) b) else h c
/-- What addPair holds. -/
structure Ap (R w : World) (N : Nat) (h : Nat → Nat × Nat) (gb : Nat) (a : Nat × Nat) (qb : Nat) (b : Nat × Nat) : Prop where
  t : Tn R w N h
  s : w.rowIs gb 4 N fun i => .bool (hs a i)
  e : El w qb b.1 b.2
  n1 : gb ≠ R.heap.size
  n2 : qb ≠ R.heap.size
theorem Ap.below {R w w' : World} {N : Nat} {h : Nat → Nat × Nat} {gb : Nat} {a : Nat × Nat} {qb : Nat} {b : Nat × Nat} (k : Ap R w N h gb a qb b) (hb : Below w.heap.size w w') : Ap R w' N h gb a qb b :=
  ⟨k.t.below hb, k.s.of_block (hb.block _ k.s.lt), k.e.below hb, k.n1, k.n2⟩
theorem Ap.drew {R w : World} {N : Nat} {h : Nat → Nat × Nat} {gb : Nat} {a : Nat × Nat} {qb : Nat} {b : Nat × Nat} (k : Ap R w N h gb a qb b) : Ap R w.drew N h gb a qb b := k.below (Below.refl _ _).drew
theorem Ap.cells {R w : World} {N : Nat} {h : Nat → Nat × Nat} {gb : Nat} {a : Nat × Nat} {qb : Nat} {b x : Nat × Nat} {j : Nat} (k : Ap R w N h gb a qb b) (hx : h j = x) (hj : j < N) :
    w.cell? ⟨R.heap.size, j * 2, none⟩ = some (.int .u64 (x.1 : Int)) ∧ w.cell? ⟨R.heap.size, j * 2 + 1, none⟩ = some (.int .u64 (x.2 : Int)) ∧ w.cell? ⟨qb, 0, none⟩ = some (.int .u64 (b.1 : Int)) ∧ w.cell? ⟨qb, 1, none⟩ = some (.int .u64 (b.2 : Int)) := by
  have f := k.t.facts j hj
  rw [hx] at f
  exact ⟨f.1, f.2.1, k.e.hi, k.e.lo⟩
theorem Ap.put {R w : World} {N : Nat} {h : Nat → Nat × Nat} {gb : Nat} {a : Nat × Nat} {qb : Nat} {b : Nat × Nat} (k : Ap R w N h gb a qb b) (j : Nat) (r : Nat × Nat) (h' : Nat → Nat × Nat) (e : ∀ c, c < N → h' c = if c = j then r else h c) :
    Ap R ((w.setCell ⟨R.heap.size, j * 2, none⟩ (.int .u64 (r.1 : Int))).setCell ⟨R.heap.size, j * 2 + 1, none⟩ (.int .u64 (r.2 : Int))) N h' gb a qb b :=
  ⟨k.t.put j r h' e, (World.rowIs.setOther (World.rowIs.setOther k.s (fun q => k.n1 q) _) (fun q => k.n1 q) _), (by
    obtain ⟨h1, h2⟩ := k.e
    have n := k.n2
    exact ⟨by simp [go_sem, *], by simp [go_sem, *]⟩), k.n1, k.n2⟩
theorem apart_bool {w : World} {g g' n m : Nat} {f f' : Nat → Value} (h : w.rowIs g 4 n f) (k : w.rowIs g' 24 m f') : g ≠ g' := by
  rintro rfl
  obtain ⟨c, hc, _⟩ := h
  obtain ⟨d, hd, _⟩ := k
  rw [hc] at hd
  injection hd with h1
  injection h1 with _ h2
  exact absurd h2 (by decide)
set_option linter.unusedSimpArgs false in
set_option linter.unusedVariables false in
set_option maxHeartbeats 8000000 in
set_option maxRecDepth 100000 in
theorem addpair_any (k : Nat) (hk : k < 8) (N : Nat) (hN : N = 2 ^ k) (h : Nat → Nat × Nat) (hh : ∀ c, lt2 (h c)) (a b : Nat × Nat) (la : lt2 a) (oa : ofE k a) (lb : lt2 b) (R W : World) (hT : Tn R W N h) :
    Calls Try.prog 34 #[.int .i64 (k : Int), .slice (some ⟨R.heap.size, 0, none⟩) N N, .agg #[.int .u64 (a.1 : Int), .int .u64 (a.2 : Int)], .agg #[.int .u64 (b.1 : Int), .int .u64 (b.2 : Int)]] W fun e w' => e = .returned (.tuple #[]) ∧ Tn R w' N (fun c => xa (h c) (sl (hs a c) b)) := by
  have HB := hidT (fun w => bits_any k hk a.1 a.2 la.1 la.2 oa w)
  rw [← hN] at HB
  have n1 : N ≤ 128 := by rw [hN]; exact Nat.le_trans (Nat.pow_le_pow_right (by decide) (show k ≤ 7 by omega)) (by decide)
  have HL := hidT hh
  have hR := hT.row.lt
  have LB := hidT lb
  clear oa hN la hh lb
  obtain ⟨W1, hW1⟩ : ∃ W1, W1 = (W.alloc (Obj.cells #[.int .u64 (a.1 : Int), .int .u64 (a.2 : Int)] 24)).alloc (Obj.cells #[.int .u64 (b.1 : Int), .int .u64 (b.2 : Int)] 24) := ⟨_, rfl⟩
  have K1 : Hid (Tn R W1 N h ∧ El W1 W.heap.size a.1 a.2 ∧ El W1 (W.heap.size + 1) b.1 b.2) := by
    subst hW1
    refine ⟨(hT.below ((Below.refl _ _).alloc (Nat.le_refl _) _)).below ((Below.refl _ _).alloc (Nat.le_refl _) _), (El.newP W a _).below ((Below.refl _ _).alloc (Nat.le_refl _) _), ?_⟩
    have := El.newP (W.alloc (Obj.cells #[.int .u64 (a.1 : Int), .int .u64 (a.2 : Int)] 24)) b 24
    simpa using this
  have HR := hidT hR
  clear hT
  go_enter Try.func34, Try.ntmps34
  go_upto_region 1 with fail
  rw [← hW1]
  clear hW1
  have a1 := K1.out.2.1.hi
  have a0 := K1.out.2.1.lo
  go_upto_region 3 with (go_at_call 55; refine (HB.out _).mono ?_; rintro e w2 ⟨gb, rfl, hrow, hb2⟩; have K2 := hidT (show Ap R w2 N h gb a (W.heap.size + 1) b from ⟨K1.out.1.below hb2, hrow, K1.out.2.2.below hb2, apart_bool hrow (K1.out.1.below hb2).row, by have := HR.out; omega⟩); clear hrow hb2 K1 a1 a0)
  clear HR hR
  generalize W.heap.size + 1 = qb at *
  go_loopw [15] (fun u wr => ∃ j : Nat, j ≤ N ∧ u = .int .i64 j ∧ Hid (Ap R wr N (apj h a b j) gb a qb b)) (fun u _ => N - (intOf u).toNat)
  case atStart => exact ⟨0, Nat.zero_le _, rfl, ⟨K2.out.t.like fun c _ => by unfold apj; rw [if_neg (Nat.not_lt_zero c)], K2.out.s, K2.out.e, K2.out.n1, K2.out.n2⟩⟩
  case round =>
    obtain ⟨j, hj, rfl, HK⟩ := hrel
    clear K2
    by_cases hjl : j < N
    · have j1 : (j : Int) < (N : Int) := by omega
      have j0 : (0 : Int) ≤ (j : Int) := by omega
      have cb := HK.out.s.cell hjl
      by_cases hbit : hs a j = true
      · rw [hbit] at cb
        have AD := hidT (show Ret 56 #[.agg #[.int .u64 ((h j).1 : Int), .int .u64 ((h j).2 : Int)], .agg #[.int .u64 (b.1 : Int), .int .u64 (b.2 : Int)]] (.agg #[.int .u64 ((xa (h j) b).1 : Int), .int .u64 ((xa (h j) b).2 : Int)]) from fun w => add_any _ _ _ _ (HL.out j).1 (HL.out j).2 LB.out.1 LB.out.2 w)
        have HX0 : apj h a b j j = h j := by unfold apj; rw [if_neg (Nat.lt_irrefl j)]
        have HZ := hidT (show ∀ c, c < N → apj h a b (j + 1) c = if c = j then xa (h j) b else apj h a b j c from fun c _ => by
          unfold apj
          by_cases e : c = j
          · subst e
            rw [if_pos (by omega), if_pos rfl, hbit]
            rfl
          · rw [if_neg e]
            by_cases e2 : c < j
            · rw [if_pos e2, if_pos (by omega)]
            · rw [if_neg e2, if_neg (by omega)])
        obtain ⟨x, hx⟩ : ∃ x, x = h j := ⟨_, rfl⟩
        rw [← hx] at AD HX0 HZ
        obtain ⟨z, hz⟩ : ∃ z, z = xa x b := ⟨_, rfl⟩
        rw [← hz] at AD HZ
        have HX := hidT HX0
        clear hx hz HX0 hbit
        go_upto_region 6 with fail
        have K := HK
        clear HK cb
        refine wp_region_noPanic ?_
        refine wp_region_peel (S := fun w => w.cell? ⟨R.heap.size, j * 2, none⟩ = some (.int .u64 (x.1 : Int)) ∧ w.cell? ⟨R.heap.size, j * 2 + 1, none⟩ = some (.int .u64 (x.2 : Int)) ∧ w.cell? ⟨qb, 0, none⟩ = some (.int .u64 (b.1 : Int)) ∧ w.cell? ⟨qb, 1, none⟩ = some (.int .u64 (b.2 : Int))) 9 (by kernel_rfl) rfl (by kernel_rfl) ?_ (fun hHeld => ?_)
        · exact by first | exact K.out.cells HX.out hjl | exact K.out.drew.cells HX.out hjl
        refine wpAnyH_take (i := 0) (oi := _) (v := ?_) rfl (by kernel_rfl) (by kernel_rfl) (by kernel_rfl) (fun _ _ _ h => h) (Or.inl ⟨by rfl, ?_⟩) (by assumption) ?_
        rotate_left
        · ((intro w hSw; (try dsimp only at hSw); go_simp) <;> (try with_reducible rfl))
        show wpAnyH _ _ _ _ _ _ _ (Act.put _ (some 22) _) _
        simp only [Act.put, List.setIfInBounds_toArray, List.set_cons_succ, List.set_cons_zero]
        refine wpAnyH_take (i := 1) (oi := _) (v := ?_) rfl (by kernel_rfl) (by kernel_rfl) (by kernel_rfl) (fun _ _ _ h => h) (Or.inl ⟨by rfl, ?_⟩) (by assumption) ?_
        rotate_left
        · ((intro w hSw; (try dsimp only at hSw); go_simp) <;> (try with_reducible rfl))
        show wpAnyH _ _ _ _ _ _ _ (Act.put _ (some 23) _) _
        simp only [Act.put, List.setIfInBounds_toArray, List.set_cons_succ, List.set_cons_zero]
        refine wpAnyH_take (i := 2) (oi := _) (v := ?_) rfl (by kernel_rfl) (by kernel_rfl) (by kernel_rfl) (fun _ _ _ h => h) (Or.inl ⟨by rfl, ?_⟩) (by assumption) ?_
        rotate_left
        · ((intro w hSw; (try dsimp only at hSw); go_simp) <;> (try with_reducible rfl))
        show wpAnyH _ _ _ _ _ _ _ (Act.put _ (some 24) _) _
        simp only [Act.put, List.setIfInBounds_toArray, List.set_cons_succ, List.set_cons_zero]
        refine wpAnyH_take (i := 3) (oi := _) (v := ?_) rfl (by kernel_rfl) (by kernel_rfl) (by kernel_rfl) (fun _ _ _ h => h) (Or.inl ⟨by rfl, ?_⟩) (by assumption) ?_
        rotate_left
        · ((intro w hSw; (try dsimp only at hSw); go_simp) <;> (try with_reducible rfl))
        show wpAnyH _ _ _ _ _ _ _ (Act.put _ (some 25) _) _
        simp only [Act.put, List.setIfInBounds_toArray, List.set_cons_succ, List.set_cons_zero]
        refine wpAnyH_take (i := 4) (oi := _) (v := ?_) rfl (by kernel_rfl) (by kernel_rfl) (by kernel_rfl) (fun _ _ _ h => h) (Or.inl ⟨by rfl, ?_⟩) (by assumption) ?_
        rotate_left
        · ((intro w hSw; (try dsimp only at hSw); go_simp) <;> (try with_reducible rfl))
        show wpAnyH _ _ _ _ _ _ _ (Act.put _ (some 26) _) _
        simp only [Act.put, List.setIfInBounds_toArray, List.set_cons_succ, List.set_cons_zero]
        refine wpAnyH_take (i := 5) (oi := _) (v := ?_) rfl (by kernel_rfl) (by kernel_rfl) (by kernel_rfl) (fun _ _ _ h => h) (Or.inl ⟨by rfl, ?_⟩) (by assumption) ?_
        rotate_left
        · ((intro w hSw; (try dsimp only at hSw); go_simp) <;> (try with_reducible rfl))
        show wpAnyH _ _ _ _ _ _ _ (Act.put _ (some 27) _) _
        simp only [Act.put, List.setIfInBounds_toArray, List.set_cons_succ, List.set_cons_zero]
        refine wpAnyH_take (i := 6) (oi := _) (v := ?_) rfl (by kernel_rfl) (by kernel_rfl) (by kernel_rfl) (fun _ _ _ h => h) (Or.inl ⟨by rfl, ?_⟩) (by assumption) ?_
        rotate_left
        · ((intro w hSw; (try dsimp only at hSw); go_simp) <;> (try with_reducible rfl))
        show wpAnyH _ _ _ _ _ _ _ (Act.put _ (some 28) _) _
        simp only [Act.put, List.setIfInBounds_toArray, List.set_cons_succ, List.set_cons_zero]
        refine wpAnyH_ready (rs := [7]) (by kernel_rfl) (by simp) ?_
        refine AllReadyH.cons (o := _) rfl (fun KK hKK => ?_) AllReadyH.nil
        go_simp
        (go_at_call 56; refine (AD.out.go _).mono ?_; rintro e w' ⟨rfl, hb'⟩)
        have K'' := hidT (by first | exact K.out.below hb' | exact K.out.drew.below hb' : Ap R w' N (apj h a b j) gb a qb b)
        clear K hb'
        have K := K''
        clear K''
        refine hKK.out _ _ ?_ (fun hHeld => ?_)
        · exact by first | exact K.out.cells HX.out hjl | exact K.out.drew.cells HX.out hjl
        clear hKK KK
        try simp only [Act.put]
        refine wpAnyH_take (i := 8) (oi := _) (v := ?_) rfl (by kernel_rfl) (by kernel_rfl) (by kernel_rfl) (fun _ _ _ h => h) (Or.inl ⟨by rfl, ?_⟩) (by assumption) ?_
        rotate_left
        · ((intro w hSw; (try dsimp only at hSw); go_simp) <;> (try with_reducible rfl))
        show wpAnyH _ _ _ _ _ _ _ (Act.put _ (some 30) _) _
        simp only [Act.put, List.setIfInBounds_toArray, List.set_cons_succ, List.set_cons_zero]
        refine wpAnyH_done (by kernel_rfl) ?_ _
        refine peel_last rfl (fun KK hKK => ?_)
        clear hHeld
        obtain ⟨r1, r0, f1, f0⟩ := K.out.t.facts j hjl
        rw [HX.out] at r1 r0
        go_simp
        refine hKK _ _ ?_
        refine NoPanic.normal ?_
        clear hKK KK
        have K2 := hidT (K.out.put j z (apj h a b (j + 1)) HZ.out)
        clear K r1 r0 f1 f0
        go_wp2
        exact ⟨⟨j + 1, hjl, by simp, K2⟩, by simp [intOf]; omega⟩
      · have hbit : hs a j = false := by simpa using hbit
        rw [hbit] at cb
        have K2 := hidT (show Ap R wr N (apj h a b (j + 1)) gb a qb b from ⟨HK.out.t.like fun c _ => by
          unfold apj
          by_cases e : c = j
          · subst e
            rw [if_neg (Nat.lt_irrefl c), if_pos (by omega), hbit]
            show _ = xa (h c) (0, 0)
            rw [xa_zero]
          · by_cases e2 : c < j
            · rw [if_pos e2, if_pos (by omega)]
            · rw [if_neg e2, if_neg (by omega)], HK.out.s, HK.out.e, HK.out.n1, HK.out.n2⟩)
        clear HK
        go_wp2
        exact ⟨⟨j + 1, hjl, by simp, K2⟩, by simp [intOf]; omega⟩
    · obtain rfl : j = N := by omega
      have HF := hidT (HK.out.t.like fun c hc => show apj h a b j c = xa (h c) (sl (hs a c) b) from by unfold apj; rw [if_pos hc])
      clear HK
      go_wp2
      go_end0
      exact ⟨rfl, HF.out⟩
end Pv
end Go.Proofs.Ytcejppibcemdeaa
