/- MerkleClimbs over the seat's translation: the document's Climb, what Climb and Check of both sides answer whatever they are given, and the law's guards. -/
import Derived.Test.YthmjbdmnlkbllaaGreatMkI
import Derived.Test.YthmjbdmnlkbllaaGreatRsA
namespace Go.Proofs.YthmjbdmnlkbllaaGreat
open Go.RowKit

/-- Is a way not more than the statement goes through? -/
def wayB (ss : List ByteArray) (h : Int) : Bool := fewB ss 6 100 && (decide (h ≤ 6) || decide (12 < h))
set_option maxHeartbeats 1000000 in
set_option maxRecDepth 100000 in
theorem few_way (a : Option Addr) (ss : List ByteArray) (cap : Nat) (h i : Int) (hm : ss.length ≤ maxLen) (W : World) (hX : StrRow W a ss) :
    Calls Tryz.prog 4 #[.agg #[.int .i64 h, .int .i64 i, .slice a ss.length cap]] W fun e w' => e = .returned (.bool (wayB ss h)) ∧ Below W.heap.size W w' := by
  have HF : Hid (∀ w, StrRow w a ss → Calls Tryz.prog 13 #[.slice a ss.length cap, .int .i64 6, .int .i64 100] w fun e w' => e = .returned (.bool (fewB ss 6 100)) ∧ w' = w) := fun w x => few_any a ss cap 6 100 hm w x
  have HX : Hid (StrRow W a ss) := hX
  have HV : Hid (wayB ss h = (fewB ss 6 100 && (decide (h ≤ 6) || decide (12 < h)))) := (rfl : wayB ss h = _)
  clear hX
  cases hf : fewB ss 6 100
  · rw [hf] at HF HV
    go_enter Tryz.func4, Tryz.ntmps4
    go_wp2_with (go_at_call 13; refine (HF.out _ (HX.out.below (below_laid _ _))).mono ?_; rintro e w9 ⟨rfl, hw⟩; obtain rfl := hw.symm; clear hw)
    go_ret
    exact ⟨by rw [HV.out]; rfl, below_laid _ _⟩
  · rw [hf] at HF HV
    by_cases h1 : h ≤ 6
    · have HW : Hid (wayB ss h = true) := by show _ = _; rw [HV.out]; simp [h1]
      go_enter Tryz.func4, Tryz.ntmps4
      go_wp2_with (go_at_call 13; refine (HF.out _ (HX.out.below (below_laid _ _))).mono ?_; rintro e w9 ⟨rfl, hw⟩; obtain rfl := hw.symm; clear hw)
      go_ret
      exact ⟨by rw [HW.out]; rfl, below_laid _ _⟩
    · by_cases h2 : 12 < h
      · have HW : Hid (wayB ss h = true) := by show _ = _; rw [HV.out]; simp [h2]
        go_enter Tryz.func4, Tryz.ntmps4
        go_wp2_with (go_at_call 13; refine (HF.out _ (HX.out.below (below_laid _ _))).mono ?_; rintro e w9 ⟨rfl, hw⟩; obtain rfl := hw.symm; clear hw)
        go_ret
        exact ⟨by rw [HW.out]; rfl, below_laid _ _⟩
      · skip
        go_enter Tryz.func4, Tryz.ntmps4
        go_wp2_with (go_at_call 13; refine (HF.out _ (HX.out.below (below_laid _ _))).mono ?_; rintro e w9 ⟨rfl, hw⟩; obtain rfl := hw.symm; clear hw)
        go_ret
        exact ⟨by rw [HV.out]; rfl, below_laid _ _⟩

/-- What the document's Climb answers. -/
def Cld (w' : World) (h i : Int) (leaf : ByteArray) (n : Nat) (P : Nat → ByteArray) (e : Ending) : Prop :=
  (cerr h i leaf n P ≠ 0 ∧ e = .returned (.agg #[.string (ByteArray.mk #[]), .slice none 0 0, .int .i64 ((cerr h i leaf n P : Nat) : Int)])) ∨
  (cerr h i leaf n P = 0 ∧ ∃ a5 c5, e = .returned (.agg #[.string (clv i.toNat P leaf n), .slice a5 n c5, .int .i64 0]) ∧ Txs w' a5 n (clt i.toNat P leaf))
theorem cld_arg {w' : World} {h i : Int} {leaf : ByteArray} {n : Nat} {P : Nat → ByteArray} (hc : h < 0 ∨ 12 < h ∨ i < 0 ∨ ((2 ^ h.toNat : Nat) : Int) ≤ i) : Cld w' h i leaf n P (.returned (.agg #[.string (ByteArray.mk #[]), .slice none 0 0, .int .i64 1])) := by
  have e : cerr h i leaf n P = 1 := by unfold cerr; rw [if_pos hc]
  exact .inl ⟨by rw [e]; decide, by rw [e]; rfl⟩
theorem cld_size {w' : World} {k j : Nat} {leaf : ByteArray} {n : Nat} {P : Nat → ByteArray} (hk : k ≤ 12) (hj : j < 2 ^ k) (hc : n ≠ k ∨ leaf.size ≠ 32 ∨ digB n P = false) : Cld w' (k : Int) (j : Int) leaf n P (.returned (.agg #[.string (ByteArray.mk #[]), .slice none 0 0, .int .i64 6])) := by
  have h1 : ¬ ((k : Int) < 0 ∨ 12 < (k : Int) ∨ (j : Int) < 0 ∨ ((2 ^ (k : Int).toNat : Nat) : Int) ≤ (j : Int)) := by
    rw [Int.toNat_natCast]
    generalize 2 ^ k = H at *
    omega
  have h2 : (n : Int) ≠ (k : Int) ∨ leaf.size ≠ 32 ∨ digB n P = false := by
    rcases hc with q | q | q
    · exact .inl (by omega)
    · exact .inr (.inl q)
    · exact .inr (.inr q)
  have e : cerr (k : Int) (j : Int) leaf n P = 6 := by unfold cerr; rw [if_neg h1, if_pos h2]
  exact .inl ⟨by rw [e]; decide, by rw [e]; rfl⟩
theorem pk_lay {W : World} {gB gT : Nat} (cB cT : Nat) {gs cs : Nat → Nat} (h : RTab W gB gT gs cs) : Pk W (W.alloc (Obj.cells #[.slice (some ⟨gB, 0, none⟩) 256 cB, .slice (some ⟨gT, 0, none⟩) 8 cT] 32)) gB cB gT cT gs cs W.heap.size :=
  ⟨h.below (below_laid _ _), by simp [go_sem], by simp [go_sem], below_laid _ _⟩
set_option maxHeartbeats 2000000 in
set_option maxRecDepth 100000 in
theorem rclimb_h (gB cB gT cT n cap : Nat) (a : Option Addr) (h i : Int) (leaf : ByteArray) (hc : h < 0 ∨ 12 < h) (W : World) :
    Calls Tryz.prog 9 #[.agg #[.slice (some ⟨gB, 0, none⟩) 256 cB, .slice (some ⟨gT, 0, none⟩) 8 cT], .int .i64 h, .int .i64 i, .string leaf, .slice a n cap] W fun e w' => e = .returned (.agg #[.string (ByteArray.mk #[]), .slice none 0 0, .int .i64 1]) ∧ Below W.heap.size W w' := by
  by_cases h1 : h < 0
  · clear hc
    go_enter Tryz.func9, Tryz.ntmps9
    go_wp2_with fail
    refine bodyPost_ret (v := .agg #[.string (ByteArray.mk #[]), .slice none 0 0, .int .i64 1]) (by simp [results, Tryz.results9, go_sem]) rfl ⟨?_, ?_⟩
    · rfl
    · exact (below_laid W _).alloc (by simp) _
  · have h2 : 12 < h := by omega
    clear hc
    go_enter Tryz.func9, Tryz.ntmps9
    go_wp2_with fail
    refine bodyPost_ret (v := .agg #[.string (ByteArray.mk #[]), .slice none 0 0, .int .i64 1]) (by simp [results, Tryz.results9, go_sem]) rfl ⟨?_, ?_⟩
    · rfl
    · exact (below_laid W _).alloc (by simp) _
theorem own_other {w : World} {base : Nat} {T : TypeId} {v : Value} {n : Nat} {xs : List Value} (h : w.ownsRow base T 1 v n xs) {p : Addr} (hp : p.block < base) (u : Value) : (w.setCell p u).ownsRow base T 1 v n xs := ownsRow_setCell_below h hp u
/-- What lies in memory while the document climbs: its tables, the path, what is answered, and what is led to. -/
structure Dk (W w : World) (gB cB gT cT : Nat) (gs cs : Nat → Nat) (a : Option Addr) (n : Nat) (P : Nat → ByteArray) (B C : Nat) (r : ByteArray) (v : Value) (q : Nat) (xs : List Value) : Prop where
  rt : RTab W gB gT gs cs
  xo : Txs W a n P
  d : Below W.heap.size W w
  q0 : w.cell? ⟨W.heap.size, 0, none⟩ = some (.slice (some ⟨gB, 0, none⟩) 256 cB)
  q1 : w.cell? ⟨W.heap.size, 1, none⟩ = some (.slice (some ⟨gT, 0, none⟩) 8 cT)
  b0 : w.cell? ⟨B, 0, none⟩ = some (.string (ByteArray.mk #[]))
  b1 : w.cell? ⟨B, 1, none⟩ = some (.slice none 0 0)
  b2 : w.cell? ⟨B, 2, none⟩ = some (.int .i64 0)
  zb : ∀ i, w.frozen? ⟨B, i, none⟩ = false
  c0 : w.cell? ⟨C, 0, none⟩ = some (.string r)
  c1 : w.cell? ⟨C, 1, none⟩ = some v
  c2 : w.cell? ⟨C, 2, none⟩ = some (.int .i64 0)
  zc : ∀ i, w.frozen? ⟨C, i, none⟩ = false
  own : w.ownsRow (C + 1) 9 1 v q xs
  hB : W.heap.size + 1 = B
  hC : B < C
section
variable {W w w' : World} {gB cB gT cT : Nat} {gs cs : Nat → Nat} {a : Option Addr} {n : Nat} {P : Nat → ByteArray} {B C : Nat} {r : ByteArray} {v : Value} {q : Nat} {xs : List Value}
theorem Dk.lt (k : Dk W w gB cB gT cT gs cs a n P B C r v q xs) : C < w.heap.size := cell_lt k.c0
theorem Dk.t (k : Dk W w gB cB gT cT gs cs a n P B C r v q xs) : RTab w gB gT gs cs := k.rt.below k.d
theorem Dk.x (k : Dk W w gB cB gT cT gs cs a n P B C r v q xs) : Txs w a n P := k.xo.below k.d
/-- Blocks up to C are as they were. -/
theorem Dk.move (k : Dk W w gB cB gT cT gs cs a n P B C r v q xs) (hd : Below W.heap.size W w') (hk : ∀ b, b ≤ C → w'.heap[b]? = w.heap[b]?) {v' : Value} {q' : Nat} {xs' : List Value} (ho : w'.ownsRow (C + 1) 9 1 v' q' xs') (hv : v' = v) : Dk W w' gB cB gT cT gs cs a n P B C r v' q' xs' := by
  have h1 := k.hB
  have h2 := k.hC
  have o : ∀ b i u, b ≤ C → w.cell? ⟨b, i, none⟩ = some u → w'.cell? ⟨b, i, none⟩ = some u := fun b i u hb hc => by rw [World.cell?_of_block (w := w) (a := ⟨b, i, none⟩) (hk b hb)]; exact hc
  have z : ∀ b i, b ≤ C → w.frozen? ⟨b, i, none⟩ = false → w'.frozen? ⟨b, i, none⟩ = false := fun b i hb hc => by rw [World.frozen?_of_block (w := w) (a := ⟨b, i, none⟩) (hk b hb)]; exact hc
  subst hv
  exact ⟨k.rt, k.xo, hd, o _ _ _ (by omega) k.q0, o _ _ _ (by omega) k.q1, o _ _ _ (by omega) k.b0, o _ _ _ (by omega) k.b1, o _ _ _ (by omega) k.b2, fun i => z _ _ (by omega) (k.zb i), o _ _ _ (Nat.le_refl _) k.c0, o _ _ _ (Nat.le_refl _) k.c1, o _ _ _ (Nat.le_refl _) k.c2, fun i => z _ _ (Nat.le_refl _) (k.zc i), ho, k.hB, k.hC⟩
theorem Dk.below (k : Dk W w gB cB gT cT gs cs a n P B C r v q xs) (h : Below w.heap.size w w') : Dk W w' gB cB gT cT gs cs a n P B C r v q xs :=
  k.move (k.d.trans (h.mono k.d.size)) (fun b hb => h.block b (by have := k.lt; omega)) (own_below k.own h) rfl
theorem Dk.drew (k : Dk W w gB cB gT cT gs cs a n P B C r v q xs) : Dk W w.drew gB cB gT cT gs cs a n P B C r v q xs :=
  k.move k.d.drew (fun _ _ => rfl) k.own rfl
/-- Behind a store into what is led to. -/
theorem Dk.put (k : Dk W w gB cB gT cT gs cs a n P B C r v q xs) (i : Nat) (u : Value) {r' : ByteArray} {v' : Value} {q' : Nat} {xs' : List Value} (h0 : (i = 0 ∧ u = .string r' ∧ v' = v ∧ q' = q ∧ xs' = xs) ∨ (i = 1 ∧ r' = r ∧ u = v' ∧ w.ownsRow (C + 1) 9 1 v' q' xs')) : Dk W (w.setCell ⟨C, i, none⟩ u) gB cB gT cT gs cs a n P B C r' v' q' xs' := by
  have h1 := k.hB
  have h2 := k.hC
  have D : Below W.heap.size W (w.setCell ⟨C, i, none⟩ u) := k.d.setCell (p := ⟨C, i, none⟩) (by show W.heap.size ≤ C; omega) _
  have o : ∀ b i' u', b ≠ C → w.cell? ⟨b, i', none⟩ = some u' → (w.setCell ⟨C, i, none⟩ u).cell? ⟨b, i', none⟩ = some u' := fun b i' u' hb hc => by rw [World.cell?_setCell_far w ⟨C, i, none⟩ ⟨b, i', none⟩ _ (fun e => hb e.symm)]; exact hc
  have oc : ∀ i' u', i' ≠ i → w.cell? ⟨C, i', none⟩ = some u' → (w.setCell ⟨C, i, none⟩ u).cell? ⟨C, i', none⟩ = some u' := fun i' u' hi hc => by rw [World.cell?_setCell_other _ _ _ _ (fun e => hi (by injection e with _ e2; exact e2.symm))]; exact hc
  have os : ∀ u', w.cell? ⟨C, i, none⟩ = some u' → (w.setCell ⟨C, i, none⟩ u).cell? ⟨C, i, none⟩ = some u := fun u' hc => World.cell?_setCell_same' _ _ _ (by rw [hc]; rfl)
  rcases h0 with ⟨rfl, rfl, rfl, rfl, rfl⟩ | ⟨rfl, rfl, rfl, ho⟩
  · exact ⟨k.rt, k.xo, D, o _ _ _ (by omega) k.q0, o _ _ _ (by omega) k.q1, o _ _ _ (by omega) k.b0, o _ _ _ (by omega) k.b1, o _ _ _ (by omega) k.b2, fun i => by rw [World.frozen?_setCell]; exact k.zb i, os _ k.c0, oc 1 _ (by decide) k.c1, oc 2 _ (by decide) k.c2, fun i => by rw [World.frozen?_setCell]; exact k.zc i, own_other k.own (by show C < C + 1; omega) _, k.hB, k.hC⟩
  · exact ⟨k.rt, k.xo, D, o _ _ _ (by omega) k.q0, o _ _ _ (by omega) k.q1, o _ _ _ (by omega) k.b0, o _ _ _ (by omega) k.b1, o _ _ _ (by omega) k.b2, fun i => by rw [World.frozen?_setCell]; exact k.zb i, oc 0 _ (by decide) k.c0, os _ k.c1, oc 2 _ (by decide) k.c2, fun i => by rw [World.frozen?_setCell]; exact k.zc i, own_other ho (by show C < C + 1; omega) _, k.hB, k.hC⟩
/-- Behind an append, and the store of what came of it. -/
theorem Dk.grow (k : Dk W w gB cB gT cT gs cs a n P B C r v q xs) {v' : Value} {q' : Nat} {xs' : List Value} (ho : w'.ownsRow (C + 1) 9 1 v' q' xs') (hg : w.grownBy w' v.ownBlock) : Dk W (w'.setCell ⟨C, 1, none⟩ v') gB cB gT cT gs cs a n P B C r v' q' xs' := by
  have h1 := k.hB
  have h2 := k.hC
  have hl := k.lt
  have hn : ∀ b, b ≤ C → some b ≠ v.ownBlock := fun b hb e => by have := (k.own.lt b e.symm).1; omega
  have o : ∀ b, b ≤ C → w'.heap[b]? = w.heap[b]? := fun b hb => hg.block b (by omega) (hn b hb)
  have D : Below W.heap.size W w' := k.d.grown hg k.d.size fun b hb => by have := (k.own.lt b hb).1; omega
  have c : ∀ b i u', b ≤ C → w.cell? ⟨b, i, none⟩ = some u' → w'.cell? ⟨b, i, none⟩ = some u' := fun b i u' hb hc => by rw [World.cell?_of_block (w := w) (a := ⟨b, i, none⟩) (o b hb)]; exact hc
  have z : ∀ b i, b ≤ C → w.frozen? ⟨b, i, none⟩ = false → w'.frozen? ⟨b, i, none⟩ = false := fun b i hb hc => by rw [World.frozen?_of_block (w := w) (a := ⟨b, i, none⟩) (o b hb)]; exact hc
  have d2 : Below W.heap.size W (w'.setCell ⟨C, 1, none⟩ v') := D.setCell (p := ⟨C, 1, none⟩) (by show W.heap.size ≤ C; omega) _
  have f : ∀ b i u', b ≠ C → b ≤ C → w.cell? ⟨b, i, none⟩ = some u' → (w'.setCell ⟨C, 1, none⟩ v').cell? ⟨b, i, none⟩ = some u' := fun b i u' hb hb2 hc => by rw [World.cell?_setCell_far w' ⟨C, 1, none⟩ ⟨b, i, none⟩ _ (fun e => hb e.symm)]; exact c b i u' hb2 hc
  have fc : ∀ i u', i ≠ 1 → w.cell? ⟨C, i, none⟩ = some u' → (w'.setCell ⟨C, 1, none⟩ v').cell? ⟨C, i, none⟩ = some u' := fun i u' hi hc => by rw [World.cell?_setCell_other _ _ _ _ (fun e => hi (by injection e with _ e2; exact e2.symm))]; exact c C i u' (Nat.le_refl _) hc
  exact ⟨k.rt, k.xo, d2, f _ _ _ (by omega) (by omega) k.q0, f _ _ _ (by omega) (by omega) k.q1, f _ _ _ (by omega) (by omega) k.b0, f _ _ _ (by omega) (by omega) k.b1, f _ _ _ (by omega) (by omega) k.b2, fun i => by rw [World.frozen?_setCell]; exact z _ _ (by omega) (k.zb i), fc 0 _ (by decide) k.c0, World.cell?_setCell_same' _ _ _ (by rw [c _ _ _ (Nat.le_refl _) k.c1]; rfl), fc 2 _ (by decide) k.c2, fun i => by rw [World.frozen?_setCell]; exact z _ _ (Nat.le_refl _) (k.zc i), own_other ho (by show C < C + 1; omega) _, k.hB, k.hC⟩
/-- Behind an append, ahead of the store. -/
theorem Dk.grow0 (k : Dk W w gB cB gT cT gs cs a n P B C r v q xs) (hg : w.grownBy w' v.ownBlock) : w'.cell? ⟨C, 0, none⟩ = some (.string r) ∧ w'.cell? ⟨C, 1, none⟩ = some v ∧ (∀ i, w'.frozen? ⟨C, i, none⟩ = false) ∧ w'.cell? ⟨W.heap.size, 0, none⟩ = some (.slice (some ⟨gB, 0, none⟩) 256 cB) ∧ w'.cell? ⟨W.heap.size, 1, none⟩ = some (.slice (some ⟨gT, 0, none⟩) 8 cT) := by
  have h1 := k.hB
  have h2 := k.hC
  have hl := k.lt
  have hn : ∀ b, b ≤ C → some b ≠ v.ownBlock := fun b hb e => by have := (k.own.lt b e.symm).1; omega
  have o : ∀ b, b ≤ C → w'.heap[b]? = w.heap[b]? := fun b hb => hg.block b (by omega) (hn b hb)
  have c : ∀ b i u', b ≤ C → w.cell? ⟨b, i, none⟩ = some u' → w'.cell? ⟨b, i, none⟩ = some u' := fun b i u' hb hc => by rw [World.cell?_of_block (w := w) (a := ⟨b, i, none⟩) (o b hb)]; exact hc
  have z : ∀ b i, b ≤ C → w.frozen? ⟨b, i, none⟩ = false → w'.frozen? ⟨b, i, none⟩ = false := fun b i hb hc => by rw [World.frozen?_of_block (w := w) (a := ⟨b, i, none⟩) (o b hb)]; exact hc
  exact ⟨c _ _ _ (Nat.le_refl _) k.c0, c _ _ _ (Nat.le_refl _) k.c1, fun i => z _ _ (Nat.le_refl _) (k.zc i), c _ _ _ (by omega) k.q0, c _ _ _ (by omega) k.q1⟩
end
theorem Txs.drew {w : World} {a : Option Addr} {n : Nat} {f : Nat → ByteArray} (h : Txs w a n f) : Txs w.drew a n f := ⟨h.cells⟩
abbrev tbl (gB cB gT cT : Nat) : Value := .agg #[.slice (some ⟨gB, 0, none⟩) 256 cB, .slice (some ⟨gT, 0, none⟩) 8 cT]
set_option maxHeartbeats 1000000 in
theorem rleaf_ok (gB cB gT cT : Nat) (gs cs : Nat → Nat) (s : ByteArray) (hs : s.size ≤ 100000) (W : World) (hR : RTab W gB gT gs cs) :
    Calls Tryz.prog 10 #[tbl gB cB gT cT, .string s] W fun e w' => e = .returned (.string (lfv s)) ∧ Below W.heap.size W w' := by
  have h1 : (ByteArray.mk #[0]).size = 1 := rfl
  have hz : (ByteArray.mk #[0] ++ s).size = 1 + s.size := ByteArray.size_append
  have H : Hid (∀ w, RTab w gB gT gs cs → Calls Tryz.prog 28 #[.agg #[.slice (some ⟨gB, 0, none⟩) 256 cB, .slice (some ⟨gT, 0, none⟩) 8 cT], .string (ByteArray.mk #[0] ++ s)] w fun e w' => e = .returned (.string (lfv s)) ∧ Below w.heap.size w w') := fun w t => rsum_ok gB cB gT cT gs cs _ (by omega) w t
  have HK : Hid (Pk W (W.alloc (Obj.cells #[.slice (some ⟨gB, 0, none⟩) 256 cB, .slice (some ⟨gT, 0, none⟩) 8 cT] 32)) gB cB gT cT gs cs W.heap.size) := pk_lay cB cT hR
  clear hR
  generalize lfv s = c at *
  go_enter Tryz.func10, Tryz.ntmps10
  go_wp2_with (go_at_call 28; refine (H.out _ HK.out.t).mono ?_; rintro e w1 ⟨rfl, hb1⟩)
  go_ret
  exact ⟨rfl, HK.out.d.trans (hb1.mono HK.out.d.size)⟩
set_option maxHeartbeats 1000000 in
set_option maxRecDepth 100000 in
theorem texts_same (a a' : Option Addr) (n cap cap' : Nat) (f : Nat → ByteArray) (hn : n ≤ 1000000) (W : World) (hX : Txs W a n f) (hY : Txs W a' n f) :
    Calls Tryz.prog 11 #[.slice a n cap, .slice a' n cap'] W fun e w' => e = .returned (.bool true) ∧ Below W.heap.size W w' := by
  have HX : Hid (Txs W a n f) := hX
  have HY : Hid (Txs W a' n f) := hY
  clear hX hY
  go_enter Tryz.func11, Tryz.ntmps11
  go_wp2
  go_loopw [5] (fun u wr => ∃ k : Nat, k ≤ n ∧ u = .int .i64 k ∧ Hid (Below W.heap.size W wr)) (fun u _ => n - (intOf u).toNat)
  case atStart => exact ⟨0, Nat.zero_le _, rfl, Below.refl _ _⟩
  case round =>
    obtain ⟨k, hk, rfl, HB⟩ := hrel
    by_cases hlt : k < n
    · have k1 : (k : Int) < (n : Int) := by omega
      have k0 : (0 : Int) ≤ (k : Int) := by omega
      obtain ⟨b1, o1, rfl, _, c1⟩ := HX.out.cells k hlt
      obtain ⟨b2, o2, rfl, _, c2⟩ := HY.out.cells k hlt
      have d1 := keepc HB.out c1
      have d2 := keepc HB.out c2
      clear c1 c2
      generalize f k = s at d1 d2
      go_wp2
      go_region
      go_wp2
      exact ⟨⟨k + 1, hlt, by simp, HB.out.drew⟩, by simp [intOf]; omega⟩
    · have k1 : ¬ (k : Int) < (n : Int) := by omega
      go_wp2
      go_ret
      exact ⟨rfl, HB.out⟩
set_option maxHeartbeats 8000000 in
set_option maxRecDepth 100000 in
theorem rclimb_k (gB cB gT cT : Nat) (gs cs : Nat → Nat) (k n cap : Nat) (a : Option Addr) (i : Int) (leaf : ByteArray) (P : Nat → ByteArray) (hk : k ≤ 12) (hn : n ≤ 1000) (W : World) (hR : RTab W gB gT gs cs) (hX : Txs W a n P) :
    Calls Tryz.prog 9 #[.agg #[.slice (some ⟨gB, 0, none⟩) 256 cB, .slice (some ⟨gT, 0, none⟩) 8 cT], .int .i64 (k : Int), .int .i64 i, .string leaf, .slice a n cap] W fun e w' => Cld w' (k : Int) i leaf n P e ∧ Below W.heap.size W w' := by
  have i3 : ¬ (k : Int) < 0 := by omega
  have i4 : ¬ (12 : Int) < (k : Int) := by omega
  have K0 := (pk_lay cB cT hR).below (below_laid _ (.cells #[.string (ByteArray.mk #[]), .slice none 0 0, .int .i64 0] 38))
  have HX : Hid (Txs W a n P) := hX
  have HR : Hid (RTab W gB gT gs cs) := hR
  obtain ⟨j0, hj0, jz0, jz1, jz2⟩ := info_str
  have HI : Hid (Tryz.prog.info? 9 = some j0 ∧ j0.zero = some (.string (ByteArray.mk #[])) ∧ j0.size = 1 ∧ j0.bytes = 16) := ⟨hj0, jz0, jz1, jz2⟩
  clear hj0 jz0 jz1 jz2
  clear hR hX
  go_enter Tryz.func9, Tryz.ntmps9
  go_wp2_with fail
  have b0 : ((W.alloc (Obj.cells #[.slice (some ⟨gB, 0, none⟩) 256 cB, .slice (some ⟨gT, 0, none⟩) 8 cT] 32)).alloc (.cells #[.string (ByteArray.mk #[]), .slice none 0 0, .int .i64 0] 38)).cell? ⟨W.heap.size + 1, 0, none⟩ = some (.string (ByteArray.mk #[])) := by simp [go_sem]
  have b1 : ((W.alloc (Obj.cells #[.slice (some ⟨gB, 0, none⟩) 256 cB, .slice (some ⟨gT, 0, none⟩) 8 cT] 32)).alloc (.cells #[.string (ByteArray.mk #[]), .slice none 0 0, .int .i64 0] 38)).cell? ⟨W.heap.size + 1, 1, none⟩ = some (.slice none 0 0) := by simp [go_sem]
  have b2 : ((W.alloc (Obj.cells #[.slice (some ⟨gB, 0, none⟩) 256 cB, .slice (some ⟨gT, 0, none⟩) 8 cT] 32)).alloc (.cells #[.string (ByteArray.mk #[]), .slice none 0 0, .int .i64 0] 38)).cell? ⟨W.heap.size + 1, 2, none⟩ = some (.int .i64 0) := by simp [go_sem]
  have z0 : ∀ o, ((W.alloc (Obj.cells #[.slice (some ⟨gB, 0, none⟩) 256 cB, .slice (some ⟨gT, 0, none⟩) 8 cT] 32)).alloc (.cells #[.string (ByteArray.mk #[]), .slice none 0 0, .int .i64 0] 38)).frozen? ⟨W.heap.size + 1, o, none⟩ = false := fun o => by simp [go_sem]
  have D0 : Hid (Below W.heap.size W ((W.alloc (Obj.cells #[.slice (some ⟨gB, 0, none⟩) 256 cB, .slice (some ⟨gT, 0, none⟩) 8 cT] 32)).alloc (.cells #[.string (ByteArray.mk #[]), .slice none 0 0, .int .i64 0] 38))) := (below_laid W _).alloc (by simp) _
  have hWB : W.heap.size ≤ W.heap.size + 1 := by omega
  have HK0 : Hid (Pk W ((W.alloc (Obj.cells #[.slice (some ⟨gB, 0, none⟩) 256 cB, .slice (some ⟨gT, 0, none⟩) 8 cT] 32)).alloc (.cells #[.string (ByteArray.mk #[]), .slice none 0 0, .int .i64 0] 38)) gB cB gT cT gs cs W.heap.size) := K0
  clear K0
  generalize (W.alloc (Obj.cells #[.slice (some ⟨gB, 0, none⟩) 256 cB, .slice (some ⟨gT, 0, none⟩) 8 cT] 32)).alloc (.cells #[.string (ByteArray.mk #[]), .slice none 0 0, .int .i64 0] 38) = w0 at *
  generalize hB : W.heap.size + 1 = B at *
  have za := z0 0
  have zb := z0 1
  have zc := z0 2
  have HB : Hid (W.heap.size + 1 = B) := hB
  clear hB
  go_loopw [11, 12] (fun v u wr => ∃ m p : Nat, m ≤ k ∧ u = .int .i64 m ∧ v = .int .i64 p ∧ Hid (p = 2 ^ m) ∧ w0 = wr) (fun _ u _ => k - (intOf u).toNat)
  case atStart => exact ⟨0, 1, Nat.zero_le _, rfl, rfl, (rfl : 1 = 2 ^ 0), rfl⟩
  case round =>
    obtain ⟨m, p, hm, rfl, rfl, HP, rfl⟩ := hrel
    have hp : p ≤ 4096 := by rw [HP.out]; exact Nat.pow_le_pow_right (n := 2) (by decide) (show m ≤ 12 by omega)
    by_cases hlt : m < k
    · have m1 : (m : Int) < (k : Int) := by omega
      have HP2 : Hid (2 * p = 2 ^ (m + 1)) := by show _ = _; rw [HP.out, Nat.pow_succ, Nat.mul_comm]
      go_wp2
      exact ⟨⟨m + 1, 2 * p, hlt, by simp, by simp, HP2, by first | rfl | trivial⟩, by simp [intOf]; omega⟩
    · obtain rfl : m = k := by omega
      have m1 : ¬ (m : Int) < (m : Int) := by omega
      by_cases hi0 : i < 0
      · have HCld : Hid (∀ w', Cld w' (m : Int) i leaf n P (.returned (.agg #[.string (ByteArray.mk #[]), .slice none 0 0, .int .i64 1]))) := fun w' => cld_arg (.inr (.inr (.inl hi0)))
        go_wp2_with fail
        refine bodyPost_ret (v := .agg #[.string (ByteArray.mk #[]), .slice none 0 0, .int .i64 1]) (by simp [results, Tryz.results9, go_sem, *]) rfl ⟨?_, ?_⟩
        · exact HCld.out _
        · exact ((D0.out.setCell (p := ⟨B, 0, none⟩) hWB _).setCell (p := ⟨B, 1, none⟩) hWB _).setCell (p := ⟨B, 2, none⟩) hWB _
      by_cases hip : (p : Int) ≤ i
      · have HCld : Hid (∀ w', Cld w' (m : Int) i leaf n P (.returned (.agg #[.string (ByteArray.mk #[]), .slice none 0 0, .int .i64 1]))) := fun w' => cld_arg (.inr (.inr (.inr (by rw [Int.toNat_natCast, ← HP.out]; exact hip))))
        go_wp2_with fail
        refine bodyPost_ret (v := .agg #[.string (ByteArray.mk #[]), .slice none 0 0, .int .i64 1]) (by simp [results, Tryz.results9, go_sem, *]) rfl ⟨?_, ?_⟩
        · exact HCld.out _
        · exact ((D0.out.setCell (p := ⟨B, 0, none⟩) hWB _).setCell (p := ⟨B, 1, none⟩) hWB _).setCell (p := ⟨B, 2, none⟩) hWB _
      obtain ⟨j, rfl⟩ : ∃ j : Nat, i = (j : Int) := ⟨i.toNat, by omega⟩
      have HJ : Hid (j < 2 ^ m) := by show _ < _; rw [← HP.out]; omega
      by_cases hl32 : leaf.size = 32
      · by_cases hnm : n = m
        · subst hnm
          have e1 : (n : Int) = (n : Int) := rfl
          have e0 : (leaf.size : Int) = 32 := by omega
          have HL : Hid (leaf.size = 32) := hl32
          clear hl32
          go_wp2
          go_loopw [13] (fun u wr => ∃ q : Nat, q ≤ n ∧ u = .int .i64 q ∧ Hid (digB q P = true) ∧ w0 = wr) (fun u _ => n - (intOf u).toNat)
          case atStart => exact ⟨0, Nat.zero_le _, rfl, (rfl : digB 0 P = true), rfl⟩
          case round =>
            obtain ⟨q, hq, rfl, HV, rfl⟩ := hrel
            by_cases hlt : q < n
            · have q1 : (q : Int) < (n : Int) := by omega
              obtain ⟨b, off, rfl, _, c1⟩ := HX.out.cells q hlt
              have c2 := keepc D0.out c1
              have HS : Hid (digB (q + 1) P = (digB q P && decide ((P q).size = 32))) := digB_succ q P
              have HN : Hid (digB n P = true → (P q).size = 32) := fun h => digB_at h hlt
              clear c1
              generalize P q = s at c2 HS HN
              by_cases hs : s.size = 32
              · have i1 : (s.size : Int) = 32 := by omega
                have HE : Hid (s.size = 32) := hs
                clear hs
                go_wp2
                exact ⟨⟨q + 1, hlt, by simp, (by show _ = _; rw [HS.out, HV.out]; simp [HE.out]), by first | rfl | trivial⟩, by simp [intOf]; omega⟩
              · have i1 : ¬ (s.size : Int) = 32 := by omega
                have HE : digB n P = false := by
                  cases h : digB n P
                  · rfl
                  · exact absurd (HN.out h) hs
                have HCld : Hid (∀ w', Cld w' (n : Int) (j : Int) leaf n P (.returned (.agg #[.string (ByteArray.mk #[]), .slice none 0 0, .int .i64 6]))) := fun w' => cld_size hk HJ.out (.inr (.inr HE))
                clear hs HE
                go_wp2_with fail
                refine bodyPost_ret (v := .agg #[.string (ByteArray.mk #[]), .slice none 0 0, .int .i64 6]) (by simp [results, Tryz.results9, go_sem, *]) rfl ⟨?_, ?_⟩
                · exact HCld.out _
                · exact ((D0.out.setCell (p := ⟨B, 0, none⟩) hWB _).setCell (p := ⟨B, 1, none⟩) hWB _).setCell (p := ⟨B, 2, none⟩) hWB _
            · obtain rfl : q = n := by omega
              have q1 : ¬ (q : Int) < (q : Int) := by omega
              have HD : Hid (Dk W (w0.alloc (Obj.cells #[.string leaf, .slice none 0 0, .int .i64 0] 38)) gB cB gT cT gs cs a q P B w0.heap.size leaf (.slice none 0 0) 0 (cts j P leaf 0)) := by
                have K1 := HK0.out
                have hl0 : B < w0.heap.size := cell_lt b0
                have bl := below_laid w0 (Obj.cells #[.string leaf, .slice none 0 0, .int .i64 0] 38)
                exact ⟨HR.out, HX.out, D0.out.trans (bl.mono D0.out.size), keepc bl K1.c0, keepc bl K1.c1, keepc bl b0, keepc bl b1, keepc bl b2, fun o => (by rw [World.frozen?_of_block (w := w0) (a := ⟨B, o, none⟩) (bl.block B hl0)]; exact z0 o), by simp [go_sem], by simp [go_sem], by simp [go_sem], fun o => by simp [go_sem], World.ownsRow_nil _ _ _ _, HB.out, hl0⟩
              go_wp2
              generalize w0.alloc (Obj.cells #[.string leaf, .slice none 0 0, .int .i64 0] 38) = w3 at HD ⊢
              generalize w0.heap.size = C at HD ⊢
              clear b0 b1 b2 z0 za zb zc D0 HK0 m1 hip hi0 e0 e1 i3 i4 hlt hm q1 hq hp HP
              go_loopw [15, 16] (fun y u wr => ∃ (t yy : Nat) (r : ByteArray) (v : Value), t ≤ q ∧ u = .int .i64 t ∧ y = .int .i64 yy ∧ Hid (yy = j / 2 ^ t) ∧ Hid (r = clv j P leaf t) ∧ Hid (Dk W wr gB cB gT cT gs cs a q P B C r v t (cts j P leaf t))) (fun _ u _ => q - (intOf u).toNat)
              case atStart => exact ⟨0, j, leaf, _, Nat.zero_le _, rfl, rfl, (by show j = j / 2 ^ 0; simp), (rfl : leaf = clv j P leaf 0), HD⟩
              case round =>
                obtain ⟨t, yy, r, v, ht, rfl, rfl, HY, HA, HD2⟩ := hrel
                clear HD
                by_cases hlt : t < q
                · have t1 : (t : Int) < (q : Int) := by omega
                  obtain ⟨b, off, rfl, _, x1⟩ := HD2.out.x.cells t hlt
                  have c0 := HD2.out.c0
                  have c1 := HD2.out.c1
                  have f0 := HD2.out.zc 0
                  have f1 := HD2.out.zc 1
                  have g0 := HD2.out.q0
                  have g1 := HD2.out.q1
                  have hqC : ¬ W.heap.size = C := by have h1 := HD2.out.hB; have h2 := HD2.out.hC; omega
                  have hCq : ¬ C = W.heap.size := fun e => hqC e.symm
                  have hs1 : r.size = 32 := by rw [HA.out]; exact clv_size HL.out t
                  have hs2 : (P t).size = 32 := digB_at HV.out hlt
                  have hz1 : (ByteArray.mk #[1]).size = 1 := rfl
                  have hz2 : (ByteArray.mk #[1] ++ r).size = 33 := by rw [ByteArray.size_append, hs1]; rfl
                  have hz3 : (ByteArray.mk #[1] ++ P t).size = 33 := by rw [ByteArray.size_append, hs2]; rfl
                  have hct : clt j P leaf t = if j / 2 ^ t % 2 = 0 then ByteArray.mk #[1] ++ r ++ P t else ByteArray.mk #[1] ++ P t ++ r := by rw [HA.out]; rfl
                  have HN : Hid (cts j P leaf (t + 1) = cts j P leaf t ++ [.string (clt j P leaf t)] ∧ (cts j P leaf t).length = t) := ⟨cts_succ j P leaf t, by simp [cts]⟩
                  have hcz : (clt j P leaf t).size = 65 := by unfold clt; exact ctx_size (by rw [← HA.out]; exact hs1) hs2
                  have HS : Hid (∀ w, RTab w gB gT gs cs → Calls Tryz.prog 28 #[.agg #[.slice (some ⟨gB, 0, none⟩) 256 cB, .slice (some ⟨gT, 0, none⟩) 8 cT], .string (clt j P leaf t)] w fun e w' => e = .returned (.string (clv j P leaf (t + 1))) ∧ Below w.heap.size w w') := fun w h => rsum_ok gB cB gT cT gs cs _ (by omega) w h
                  rw [← HY.out] at hct
                  have HYZ : Hid (yy / 2 = j / 2 ^ (t + 1)) := by show _ = _; rw [HY.out, Nat.pow_succ, Nat.div_div_eq_div_mul]
                  obtain ⟨z, hz⟩ : ∃ z, z = yy / 2 := ⟨_, rfl⟩
                  rw [← hz] at HYZ
                  have y2 : (yy : Int).tdiv 2 = (z : Int) := by rw [Int.tdiv_eq_ediv_of_nonneg (by omega)]; omega
                  have y3 : (yy : Int) / 2 = (z : Int) := by omega
                  have hyl : yy ≤ 4096 := by
                    rw [HY.out]
                    exact Nat.le_trans (Nat.div_le_self _ _) (Nat.le_trans (Nat.le_of_lt HJ.out) (Nat.pow_le_pow_right (by decide) hk))
                  have hzl : z ≤ 4096 := by omega
                  clear hcz
                  generalize P t = s at x1 hs2 hz3 hct
                  by_cases hpar : yy % 2 = 0
                  · rw [if_pos hpar] at hct
                    rw [hct] at HS HN
                    have y4 : ¬ (yy : Int) % 2 = 1 := by omega
                    have y5 : (yy : Int).tmod 2 = 0 := by rw [Int.tmod_eq_emod_of_nonneg (by omega)]; omega
                    have y6 : (yy : Int) % 2 = 0 := by omega
                    clear hct hpar hz
                    go_wp2
                    go_region
                    go_wp2_with (first | (at_builtin; refine wpList_append_own _ rfl _ _ 22 rfl (C + 1) 9 j0 (.string (ByteArray.mk #[])) 1 16 Tryz.underlying22 HI.out.1 HI.out.2.1 HI.out.2.2.1 HI.out.2.2.2 rfl (by decide) v t (cts j P leaf t) rfl (HD2.out.below (below_laid _ _)).drew.own ⟨wr.heap.size, 0, none⟩ 1 1 [.string (ByteArray.mk #[1] ++ r ++ s)] rfl rfl (fun p u hu => by rcases p with _ | p <;> simp at hu; subst hu; simp [go_sem]) (fun u hu => by simp at hu; subst hu; rfl) (by simp only [maxLen]; omega) (by omega) (by have := HD2.out.lt; simp; omega) ?_; intro v' w' hown' hgr _; obtain ⟨G, cp, rfl, hGb, hcell⟩ := own_last HN.out.2 hown'; obtain ⟨m0, m1, m2, m3, m4⟩ := (HD2.out.below (below_laid _ _)).drew.grow0 hgr; have m5 := m2 0; have m6 := m2 1; have HG : Hid (Dk W (w'.setCell ⟨C, 1, none⟩ (.slice (some ⟨G, 0, none⟩) (t + 1) cp)) gB cB gT cT gs cs (some ⟨b, off, none⟩) q P B C r (.slice (some ⟨G, 0, none⟩) (t + 1) cp) (t + 1) (cts j P leaf (t + 1))) := (by show Dk W _ _ _ _ _ _ _ _ _ _ _ _ _ _ _ _; rw [HN.out.1]; exact (HD2.out.below (below_laid _ _)).drew.grow hown' hgr); clear hown' hgr hcell m2 c0 c1 f0 f1 g0 g1 x1) | (go_at_call 28; refine (HS.out _ HG.out.t).mono ?_; rintro e w6 ⟨rfl, hb6⟩; have HG6 : Hid (Dk W w6 gB cB gT cT gs cs (some ⟨b, off, none⟩) q P B C r (.slice (some ⟨G, 0, none⟩) (t + 1) cp) (t + 1) (cts j P leaf (t + 1))) := HG.out.below hb6; have n0 := HG6.out.c0; have n1 := HG6.out.zc 0; clear hb6))
                    exact ⟨⟨t + 1, z, _, _, hlt, by simp, rfl, HYZ, (rfl : clv j P leaf (t + 1) = clv j P leaf (t + 1)), HG6.out.put 0 _ (.inl ⟨rfl, rfl, rfl, rfl, rfl⟩)⟩, by simp [intOf]; omega⟩
                  · rw [if_neg hpar] at hct
                    rw [hct] at HS HN
                    have y4 : (yy : Int) % 2 = 1 := by omega
                    have y5 : (yy : Int).tmod 2 = 1 := by rw [Int.tmod_eq_emod_of_nonneg (by omega)]; omega
                    clear hct hpar hz
                    go_wp2
                    go_region
                    go_wp2
                    go_region
                    go_wp2_with (first | (at_builtin; refine wpList_append_own _ rfl _ _ 22 rfl (C + 1) 9 j0 (.string (ByteArray.mk #[])) 1 16 Tryz.underlying22 HI.out.1 HI.out.2.1 HI.out.2.2.1 HI.out.2.2.2 rfl (by decide) v t (cts j P leaf t) rfl (HD2.out.below (below_laid _ _)).drew.drew.own ⟨wr.heap.size, 0, none⟩ 1 1 [.string (ByteArray.mk #[1] ++ s ++ r)] rfl rfl (fun p u hu => by rcases p with _ | p <;> simp at hu; subst hu; simp [go_sem]) (fun u hu => by simp at hu; subst hu; rfl) (by simp only [maxLen]; omega) (by omega) (by have := HD2.out.lt; simp; omega) ?_; intro v' w' hown' hgr _; obtain ⟨G, cp, rfl, hGb, hcell⟩ := own_last HN.out.2 hown'; obtain ⟨m0, m1, m2, m3, m4⟩ := (HD2.out.below (below_laid _ _)).drew.drew.grow0 hgr; have m5 := m2 0; have m6 := m2 1; have HG : Hid (Dk W (w'.setCell ⟨C, 1, none⟩ (.slice (some ⟨G, 0, none⟩) (t + 1) cp)) gB cB gT cT gs cs (some ⟨b, off, none⟩) q P B C r (.slice (some ⟨G, 0, none⟩) (t + 1) cp) (t + 1) (cts j P leaf (t + 1))) := (by show Dk W _ _ _ _ _ _ _ _ _ _ _ _ _ _ _ _; rw [HN.out.1]; exact (HD2.out.below (below_laid _ _)).drew.drew.grow hown' hgr); clear hown' hgr hcell m2 c0 c1 f0 f1 g0 g1 x1) | (go_at_call 28; refine (HS.out _ HG.out.t).mono ?_; rintro e w6 ⟨rfl, hb6⟩; have HG6 : Hid (Dk W w6 gB cB gT cT gs cs (some ⟨b, off, none⟩) q P B C r (.slice (some ⟨G, 0, none⟩) (t + 1) cp) (t + 1) (cts j P leaf (t + 1))) := HG.out.below hb6; have n0 := HG6.out.c0; have n1 := HG6.out.zc 0; clear hb6))
                    exact ⟨⟨t + 1, z, _, _, hlt, by simp, rfl, HYZ, (rfl : clv j P leaf (t + 1) = clv j P leaf (t + 1)), HG6.out.put 0 _ (.inl ⟨rfl, rfl, rfl, rfl, rfl⟩)⟩, by simp [intOf]; omega⟩
                · obtain rfl : t = q := by omega
                  have t1 : ¬ (t : Int) < (t : Int) := by omega
                  have c0 := HD2.out.c0
                  have c1 := HD2.out.c1
                  have c2 := HD2.out.c2
                  have b0 := HD2.out.b0
                  have b1 := HD2.out.b1
                  have b2 := HD2.out.b2
                  have zb0 := HD2.out.zb 0
                  have zb1 := HD2.out.zb 1
                  have zb2 := HD2.out.zb 2
                  obtain ⟨a5, c5, rfl, hT5⟩ := own_txs HD2.out.own
                  have HCld : Hid (∀ w', Txs w' a5 t (clt j P leaf) → Cld w' (t : Int) (j : Int) leaf t P (.returned (.agg #[.string r, .slice a5 t c5, .int .i64 0]))) := fun w' hx => by
                    have h1 : ¬ ((t : Int) < 0 ∨ 12 < (t : Int) ∨ (j : Int) < 0 ∨ ((2 ^ (t : Int).toNat : Nat) : Int) ≤ (j : Int)) := by
                      rw [Int.toNat_natCast]
                      have := HJ.out
                      generalize 2 ^ t = H at *
                      omega
                    have h2 : ¬ ((t : Int) ≠ (t : Int) ∨ leaf.size ≠ 32 ∨ digB t P = false) := by
                      rw [HV.out]
                      have := HL.out
                      simp [this]
                    have e : cerr (t : Int) (j : Int) leaf t P = 0 := by unfold cerr; rw [if_neg h1, if_neg h2]
                    refine .inr ⟨e, a5, c5, ?_, ?_⟩
                    · rw [HA.out, Int.toNat_natCast]
                    · rw [Int.toNat_natCast]; exact hx
                  have HT5 : Hid (Txs wr a5 t (clt j P leaf)) := hT5
                  clear hT5
                  go_wp2_with fail
                  refine bodyPost_ret (v := .agg #[.string r, .slice a5 t c5, .int .i64 0]) (by simp [results, Tryz.results9, go_sem, *]) rfl ⟨?_, ?_⟩
                  · refine HCld.out _ ?_
                    have hl := HD2.out.hC
                    have ho := own_other (own_other (own_other HD2.out.own (p := ⟨B, 0, none⟩) (by show B < C + 1; omega) (.string r)) (p := ⟨B, 1, none⟩) (by show B < C + 1; omega) (.slice a5 t c5)) (p := ⟨B, 2, none⟩) (by show B < C + 1; omega) (.int .i64 0)
                    obtain ⟨a6, c6, e6, h6⟩ := own_txs ho
                    obtain ⟨rfl, rfl⟩ : a5 = a6 ∧ c5 = c6 := by injection e6 with e1 _ e2; exact ⟨e1, e2⟩
                    exact h6
                  · exact ((HD2.out.d.setCell (p := ⟨B, 0, none⟩) hWB _).setCell (p := ⟨B, 1, none⟩) hWB _).setCell (p := ⟨B, 2, none⟩) hWB _
        · have e1 : ¬ (n : Int) = (m : Int) := by omega
          have e0 : (leaf.size : Int) = 32 := by omega
          have HCld : Hid (∀ w', Cld w' (m : Int) (j : Int) leaf n P (.returned (.agg #[.string (ByteArray.mk #[]), .slice none 0 0, .int .i64 6]))) := fun w' => cld_size hk HJ.out (.inl hnm)
          go_wp2_with fail
          refine bodyPost_ret (v := .agg #[.string (ByteArray.mk #[]), .slice none 0 0, .int .i64 6]) (by simp [results, Tryz.results9, go_sem, *]) rfl ⟨?_, ?_⟩
          · exact HCld.out _
          · exact ((D0.out.setCell (p := ⟨B, 0, none⟩) hWB _).setCell (p := ⟨B, 1, none⟩) hWB _).setCell (p := ⟨B, 2, none⟩) hWB _
      · have e0 : ¬ (leaf.size : Int) = 32 := by omega
        have HCld : Hid (∀ w', Cld w' (m : Int) (j : Int) leaf n P (.returned (.agg #[.string (ByteArray.mk #[]), .slice none 0 0, .int .i64 6]))) := fun w' => cld_size hk HJ.out (.inr (.inl hl32))
        go_wp2_with fail
        refine bodyPost_ret (v := .agg #[.string (ByteArray.mk #[]), .slice none 0 0, .int .i64 6]) (by simp [results, Tryz.results9, go_sem, *]) rfl ⟨?_, ?_⟩
        · exact HCld.out _
        · exact ((D0.out.setCell (p := ⟨B, 0, none⟩) hWB _).setCell (p := ⟨B, 1, none⟩) hWB _).setCell (p := ⟨B, 2, none⟩) hWB _

def crt (h i : Int) (leaf : ByteArray) (n : Nat) (P : Nat → ByteArray) : ByteArray := if cerr h i leaf n P = 0 then clv i.toNat P leaf n else ByteArray.mk #[]
def cnt (h i : Int) (leaf : ByteArray) (n : Nat) (P : Nat → ByteArray) : Nat := if cerr h i leaf n P = 0 then n else 0
abbrev ClX (g : Nat) (a : Option Addr) (n cap : Nat) (h i : Int) (l : ByteArray) (P : Nat → ByteArray) (r : ByteArray) (m : Nat) (T : Nat → ByteArray) (ec : Nat) : Prop :=
  ∀ w, Tab w g → Txs w a n P → Calls Tryz.prog 8 #[.pointer (some ⟨g, 0, none⟩), .int .i64 h, .int .i64 i, .string l, .slice a n cap] w fun e w' => ∃ a5 c5, e = .returned (.tuple #[.string r, .slice a5 m c5, .int .i64 (ec : Int)]) ∧ Txs w' a5 m T ∧ Below w.heap.size w w'
abbrev RlX (gB cB gT cT : Nat) (gs cs : Nat → Nat) (a : Option Addr) (n cap : Nat) (h i : Int) (l : ByteArray) (P : Nat → ByteArray) (r : ByteArray) (m : Nat) (T : Nat → ByteArray) (ec : Nat) : Prop :=
  ∀ w, RTab w gB gT gs cs → Txs w a n P → Calls Tryz.prog 9 #[.agg #[.slice (some ⟨gB, 0, none⟩) 256 cB, .slice (some ⟨gT, 0, none⟩) 8 cT], .int .i64 h, .int .i64 i, .string l, .slice a n cap] w fun e w' => ∃ a5 c5, e = .returned (.agg #[.string r, .slice a5 m c5, .int .i64 (ec : Int)]) ∧ Txs w' a5 m T ∧ Below w.heap.size w w'
theorem txs_none (w : World) (a : Option Addr) (f : Nat → ByteArray) : Txs w a 0 f := ⟨fun i hi => absurd hi (Nat.not_lt_zero i)⟩
theorem clx_tot (g : Nat) (a : Option Addr) (n cap : Nat) (h i : Int) (leaf : ByteArray) (P : Nat → ByteArray) (hn : n ≤ 1000000) : ClX g a n cap h i leaf P (crt h i leaf n P) (cnt h i leaf n P) (clt i.toNat P leaf) (cerr h i leaf n P) := fun w t x => by
  unfold crt cnt
  by_cases e : cerr h i leaf n P = 0
  · rw [if_pos e, if_pos e, e]
    obtain ⟨j, rfl, rfl, h1, h2, h3, h4⟩ := cerr_ok e
    refine (climb_ok g a n cap j leaf P h1 h2 h3 h4 w t x).mono ?_
    rintro e' w' ⟨v, rfl, ho, hb⟩
    obtain ⟨a5, c5, rfl, h5⟩ := own_txs ho
    rw [Int.toNat_natCast]
    exact ⟨a5, c5, rfl, h5, hb⟩
  · rw [if_neg e, if_neg e]
    refine (climb_bad g a n cap h i leaf P hn e w x).mono ?_
    rintro e' w' ⟨rfl, hb⟩
    exact ⟨none, 0, rfl, txs_none _ _ _, hb⟩
theorem rlx_tot (gB cB gT cT : Nat) (gs cs : Nat → Nat) (a : Option Addr) (n cap : Nat) (h i : Int) (leaf : ByteArray) (P : Nat → ByteArray) (hn : n ≤ 1000) : RlX gB cB gT cT gs cs a n cap h i leaf P (crt h i leaf n P) (cnt h i leaf n P) (clt i.toNat P leaf) (cerr h i leaf n P) := fun w t x => by
  unfold crt cnt
  by_cases hc : h < 0 ∨ 12 < h
  · have e : cerr h i leaf n P = 1 := by unfold cerr; rw [if_pos (by rcases hc with q | q; exact .inl q; exact .inr (.inl q))]
    rw [e, if_neg (by decide), if_neg (by decide)]
    refine (rclimb_h gB cB gT cT n cap a h i leaf hc w).mono ?_
    rintro e' w' ⟨rfl, hb⟩
    exact ⟨none, 0, rfl, txs_none _ _ _, hb⟩
  · obtain ⟨k, rfl⟩ : ∃ k : Nat, h = (k : Int) := ⟨h.toNat, by omega⟩
    refine (rclimb_k gB cB gT cT gs cs k n cap a i leaf P (by omega) hn w t x).mono ?_
    rintro e' w' ⟨⟨hne, rfl⟩ | ⟨h0, a5, c5, rfl, hx⟩, hb⟩
    · rw [if_neg hne, if_neg hne]
      exact ⟨none, 0, rfl, txs_none _ _ _, hb⟩
    · rw [if_pos h0, if_pos h0, h0]
      exact ⟨a5, c5, rfl, hx, hb⟩
set_option maxHeartbeats 1000000 in
set_option maxRecDepth 100000 in
theorem check_tot (g : Nat) (a : Option Addr) (n cap : Nat) (h i : Int) (root s : ByteArray) (P : Nat → ByteArray) (r : ByteArray) (m : Nat) (T : Nat → ByteArray) (E : Nat) (hs : s.size ≤ 1048575) (hC : ClX g a n cap h i (lfv s) P r m T E) (W : World) (hT : Tab W g) (hX : Txs W a n P) :
    Calls Tryz.prog 12 #[.pointer (some ⟨g, 0, none⟩), .string root, .int .i64 h, .int .i64 i, .string s, .slice a n cap] W fun e w' => e = .returned (.bool (decide (E = 0) && (r.toList == root.toList))) ∧ Below W.heap.size W w' := by
  have H1 : Hid (∀ w, Tab w g → Calls Tryz.prog 17 #[.pointer (some ⟨g, 0, none⟩), .string s] w fun e w' => e = .returned (.string (lfv s)) ∧ Below w.heap.size w w') := fun w t => leaf_ok g s hs w t
  have H2 : Hid (ClX g a n cap h i (lfv s) P r m T E) := hC
  have HT : Hid (Tab W g) := hT
  have HX : Hid (Txs W a n P) := hX
  clear hT hX hC
  generalize lfv s = l at *
  by_cases hE : E = 0
  · subst hE
    go_enter Tryz.func12, Tryz.ntmps12
    go_wp2_with (first | (go_at_call 17; refine (H1.out _ HT.out).mono ?_; rintro e w1 ⟨rfl, hb1⟩) | (go_at_call 8; refine (H2.out _ (HT.out.below hb1) (HX.out.below hb1)).mono ?_; rintro e w2 ⟨a5, c5, rfl, _, hb2⟩))
    go_ret
    exact ⟨by simp, hb1.trans (hb2.mono hb1.size)⟩
  · have e0 : ¬ (E : Int) = 0 := by omega
    have HE : Hid (decide (E = 0) = false) := (by show _ = _; simp [hE])
    clear hE
    go_enter Tryz.func12, Tryz.ntmps12
    go_wp2_with (first | (go_at_call 17; refine (H1.out _ HT.out).mono ?_; rintro e w1 ⟨rfl, hb1⟩) | (go_at_call 8; refine (H2.out _ (HT.out.below hb1) (HX.out.below hb1)).mono ?_; rintro e w2 ⟨a5, c5, rfl, _, hb2⟩))
    go_ret
    exact ⟨by rw [HE.out]; rfl, hb1.trans (hb2.mono hb1.size)⟩

set_option maxHeartbeats 3200000 in
set_option maxRecDepth 100000 in
theorem mc_s1 (a : Option Addr) (n cap : Nat) (h i : Int) (leaf s : ByteArray) (W : World) (HF : Hid (∀ w, Below W.heap.size W w → Calls Tryz.prog 4 #[.agg #[.int .i64 h, .int .i64 i, .slice a n cap]] w fun e w' => e = .returned (.bool false) ∧ Below w.heap.size w w')) :
    Calls Tryz.prog 3 #[.agg #[.int .i64 h, .int .i64 i, .slice a n cap], .string leaf, .string s] W fun e w' => e = .returned (.bool true) ∧ Below W.heap.size W w' := by
  have D : Hid (Below W.heap.size W (W.alloc (.cells #[.int .i64 h, .int .i64 i, .slice a n cap] 24))) := below_laid _ _
  have c0' : (W.alloc (.cells #[.int .i64 h, .int .i64 i, .slice a n cap] 24)).cell? ⟨W.heap.size, 0, none⟩ = some (.int .i64 h) := by simp [go_sem]
  have c1' : (W.alloc (.cells #[.int .i64 h, .int .i64 i, .slice a n cap] 24)).cell? ⟨W.heap.size, 1, none⟩ = some (.int .i64 i) := by simp [go_sem]
  have c2' : (W.alloc (.cells #[.int .i64 h, .int .i64 i, .slice a n cap] 24)).cell? ⟨W.heap.size, 2, none⟩ = some (.slice a n cap) := by simp [go_sem]
  go_enter Tryz.func3, Tryz.ntmps3
  go_wp2_with (first | (go_at_call 4; refine (HF.out _ D.out).mono ?_; rintro e w1 ⟨rfl, hb1⟩; have D1 : Hid (Below W.heap.size W w1) := D.out.trans (hb1.mono D.out.size); have c0 := keepc hb1 c0'; have c1 := keepc hb1 c1'; have c2 := keepc hb1 c2'; clear hb1) | (go_at_call 5; refine (awake12.go _).mono ?_; rintro e w2 ⟨rfl, hb2⟩; have D2 : Hid (Below W.heap.size W w2) := D1.out.trans (hb2.mono D1.out.size); have f0 := keepc hb2 c0; have f1 := keepc hb2 c1; have f2 := keepc hb2 c2; clear hb2))
  go_ret
  exact ⟨rfl, D2.out⟩
set_option maxHeartbeats 3200000 in
set_option maxRecDepth 100000 in
theorem mc_s2 (a : Option Addr) (n cap : Nat) (h i : Int) (leaf s : ByteArray) (W : World) (HF : Hid (∀ w, Below W.heap.size W w → Calls Tryz.prog 4 #[.agg #[.int .i64 h, .int .i64 i, .slice a n cap]] w fun e w' => e = .returned (.bool true) ∧ Below w.heap.size w w')) (hs : 100 < leaf.size) :
    Calls Tryz.prog 3 #[.agg #[.int .i64 h, .int .i64 i, .slice a n cap], .string leaf, .string s] W fun e w' => e = .returned (.bool true) ∧ Below W.heap.size W w' := by
  have D : Hid (Below W.heap.size W (W.alloc (.cells #[.int .i64 h, .int .i64 i, .slice a n cap] 24))) := below_laid _ _
  have c0' : (W.alloc (.cells #[.int .i64 h, .int .i64 i, .slice a n cap] 24)).cell? ⟨W.heap.size, 0, none⟩ = some (.int .i64 h) := by simp [go_sem]
  have c1' : (W.alloc (.cells #[.int .i64 h, .int .i64 i, .slice a n cap] 24)).cell? ⟨W.heap.size, 1, none⟩ = some (.int .i64 i) := by simp [go_sem]
  have c2' : (W.alloc (.cells #[.int .i64 h, .int .i64 i, .slice a n cap] 24)).cell? ⟨W.heap.size, 2, none⟩ = some (.slice a n cap) := by simp [go_sem]
  have h1 : (100 : Int) < (leaf.size : Int) := by omega
  go_enter Tryz.func3, Tryz.ntmps3
  go_wp2_with (first | (go_at_call 4; refine (HF.out _ D.out).mono ?_; rintro e w1 ⟨rfl, hb1⟩; have D1 : Hid (Below W.heap.size W w1) := D.out.trans (hb1.mono D.out.size); have c0 := keepc hb1 c0'; have c1 := keepc hb1 c1'; have c2 := keepc hb1 c2'; clear hb1) | (go_at_call 5; refine (awake12.go _).mono ?_; rintro e w2 ⟨rfl, hb2⟩; have D2 : Hid (Below W.heap.size W w2) := D1.out.trans (hb2.mono D1.out.size); have f0 := keepc hb2 c0; have f1 := keepc hb2 c1; have f2 := keepc hb2 c2; clear hb2))
  go_ret
  exact ⟨rfl, D2.out⟩
set_option maxHeartbeats 3200000 in
set_option maxRecDepth 100000 in
theorem mc_s3 (a : Option Addr) (n cap : Nat) (h i : Int) (leaf s : ByteArray) (W : World) (HF : Hid (∀ w, Below W.heap.size W w → Calls Tryz.prog 4 #[.agg #[.int .i64 h, .int .i64 i, .slice a n cap]] w fun e w' => e = .returned (.bool true) ∧ Below w.heap.size w w')) (hs : leaf.size ≤ 100) (ht : 100 < s.size) :
    Calls Tryz.prog 3 #[.agg #[.int .i64 h, .int .i64 i, .slice a n cap], .string leaf, .string s] W fun e w' => e = .returned (.bool true) ∧ Below W.heap.size W w' := by
  have D : Hid (Below W.heap.size W (W.alloc (.cells #[.int .i64 h, .int .i64 i, .slice a n cap] 24))) := below_laid _ _
  have c0' : (W.alloc (.cells #[.int .i64 h, .int .i64 i, .slice a n cap] 24)).cell? ⟨W.heap.size, 0, none⟩ = some (.int .i64 h) := by simp [go_sem]
  have c1' : (W.alloc (.cells #[.int .i64 h, .int .i64 i, .slice a n cap] 24)).cell? ⟨W.heap.size, 1, none⟩ = some (.int .i64 i) := by simp [go_sem]
  have c2' : (W.alloc (.cells #[.int .i64 h, .int .i64 i, .slice a n cap] 24)).cell? ⟨W.heap.size, 2, none⟩ = some (.slice a n cap) := by simp [go_sem]
  have h1 : ¬ (100 : Int) < (leaf.size : Int) := by omega
  have h2 : (100 : Int) < (s.size : Int) := by omega
  go_enter Tryz.func3, Tryz.ntmps3
  go_wp2_with (first | (go_at_call 4; refine (HF.out _ D.out).mono ?_; rintro e w1 ⟨rfl, hb1⟩; have D1 : Hid (Below W.heap.size W w1) := D.out.trans (hb1.mono D.out.size); have c0 := keepc hb1 c0'; have c1 := keepc hb1 c1'; have c2 := keepc hb1 c2'; clear hb1) | (go_at_call 5; refine (awake12.go _).mono ?_; rintro e w2 ⟨rfl, hb2⟩; have D2 : Hid (Below W.heap.size W w2) := D1.out.trans (hb2.mono D1.out.size); have f0 := keepc hb2 c0; have f1 := keepc hb2 c1; have f2 := keepc hb2 c2; clear hb2))
  go_ret
  exact ⟨rfl, D2.out⟩
/-- What lies in memory: the tables of both sides, the path, the way's cells, and the cells that hold the document's tables. -/
structure Lk (W w : World) (g gB cB gT cT : Nat) (gs cs : Nat → Nat) (a : Option Addr) (n : Nat) (P : Nat → ByteArray) (cap : Nat) (h i : Int) (b : Nat) : Prop where
  t : Tab w g
  rt : RTab w gB gT gs cs
  x : Txs w a n P
  d : Below W.heap.size W w
  c0 : w.cell? ⟨W.heap.size, 0, none⟩ = some (.int .i64 h)
  c1 : w.cell? ⟨W.heap.size, 1, none⟩ = some (.int .i64 i)
  c2 : w.cell? ⟨W.heap.size, 2, none⟩ = some (.slice a n cap)
  r0 : w.cell? ⟨b, 0, none⟩ = some (.slice (some ⟨gB, 0, none⟩) 256 cB)
  r1 : w.cell? ⟨b, 1, none⟩ = some (.slice (some ⟨gT, 0, none⟩) 8 cT)
theorem Lk.below {W w w' : World} {g gB cB gT cT : Nat} {gs cs : Nat → Nat} {a : Option Addr} {n : Nat} {P : Nat → ByteArray} {cap : Nat} {h i : Int} {b : Nat} (k : Lk W w g gB cB gT cT gs cs a n P cap h i b) (q : Below w.heap.size w w') : Lk W w' g gB cB gT cT gs cs a n P cap h i b := ⟨k.t.below q, k.rt.below q, k.x.below q, k.d.trans (q.mono k.d.size), keepc q k.c0, keepc q k.c1, keepc q k.c2, keepc q k.r0, keepc q k.r1⟩
theorem Lk.drew {W w : World} {g gB cB gT cT : Nat} {gs cs : Nat → Nat} {a : Option Addr} {n : Nat} {P : Nat → ByteArray} {cap : Nat} {h i : Int} {b : Nat} (k : Lk W w g gB cB gT cT gs cs a n P cap h i b) : Lk W w.drew g gB cB gT cT gs cs a n P cap h i b := ⟨k.t, k.rt.drew, k.x.drew, k.d.drew, k.c0, k.c1, k.c2, k.r0, k.r1⟩
theorem set3 {w0 w : World} {d : Nat} {x z x' y' z' : Value} (h : Below w0.heap.size w0 w) (hd : w0.heap.size ≤ d) (v0 : w.cell? ⟨d, 0, none⟩ = some x) (v2 : w.cell? ⟨d, 2, none⟩ = some z) :
    Below w0.heap.size w0 (((w.setCell ⟨d, 0, none⟩ x').setCell ⟨d, 1, none⟩ y').setCell ⟨d, 2, none⟩ z') ∧ (((w.setCell ⟨d, 0, none⟩ x').setCell ⟨d, 1, none⟩ y').setCell ⟨d, 2, none⟩ z').cell? ⟨d, 0, none⟩ = some x' ∧ (((w.setCell ⟨d, 0, none⟩ x').setCell ⟨d, 1, none⟩ y').setCell ⟨d, 2, none⟩ z').cell? ⟨d, 2, none⟩ = some z' := by
  refine ⟨((h.setCell (p := ⟨d, 0, none⟩) hd _).setCell (p := ⟨d, 1, none⟩) hd _).setCell (p := ⟨d, 2, none⟩) hd _, ?_, ?_⟩
  · rw [World.cell?_setCell_other _ _ _ _ (fun e => by injection e with _ e2; cases e2), World.cell?_setCell_other _ _ _ _ (fun e => by injection e with _ e2; cases e2)]
    exact World.cell?_setCell_same' _ _ _ (by rw [v0]; rfl)
  · refine World.cell?_setCell_same' _ _ _ ?_
    rw [World.cell?_setCell_other _ _ _ _ (fun e => by injection e with _ e2; cases e2), World.cell?_setCell_other _ _ _ _ (fun e => by injection e with _ e2; cases e2), v2]
    rfl
theorem keepz {W w : World} (hb : Below W.heap.size W w) {b : Nat} (hl : b < W.heap.size) {o : Nat} (h : W.frozen? ⟨b, o, none⟩ = false) : w.frozen? ⟨b, o, none⟩ = false := by rw [World.frozen?_of_block (w := W) (a := ⟨b, o, none⟩) (hb.block b hl)]; exact h
theorem bytes_ne {x y : ByteArray} (h : x ≠ y) : (x.toList == y.toList) = false := by
  rw [beq_eq_false_iff_ne]
  intro e
  rw [ByteArray.toList_eq, ByteArray.toList_eq] at e
  exact h (ByteArray.ext (Array.toList_inj.1 e))
end Go.Proofs.YthmjbdmnlkbllaaGreat
