/- The contract of line.factors over the seat's translation. -/
import Derived.Test.YtfhojakhoobnhaaPCbB
import Derived.Deep.OwnRows
import Derived.Deep.MidRow
import Derived.Lib.LazyBuf
import Derived.Test.YtfhojakhoobnhaaPPeel
namespace Go.Proofs.Ytfhojakhoobnhaa
open Go.RowKit
open Cb Ln
open Tw (pm)

/-- The cell number p of an array of elements. -/
def acell (f : Nat → Nat × Nat) (p : Nat) : Value := if p % 2 = 0 then .int .u64 ((f (p / 2)).1 : Int) else .int .u64 ((f (p / 2)).2 : Int)
def z18 : Array Value := #[.int .u64 0, .int .u64 0, .int .u64 0, .int .u64 0, .int .u64 0, .int .u64 0, .int .u64 0, .int .u64 0, .int .u64 0, .int .u64 0, .int .u64 0, .int .u64 0, .int .u64 0, .int .u64 0, .int .u64 0, .int .u64 0, .int .u64 0, .int .u64 0]
theorem row_z (w : World) (T : TypeId) : (w.alloc (.cells z18 T)).rowIs w.heap.size T 18 (acell fun _ => (0, 0)) := by
  have := World.rowIs_alloc w z18 T (acell fun _ => (0, 0)) (fun i hi => by
    have h : i < 18 := hi
    have e : acell (fun _ => (0, 0)) i = .int .u64 0 := by unfold acell; split <;> rfl
    rw [e, show z18 = (List.replicate 18 (Value.int .u64 0)).toArray from rfl, List.getElem?_toArray, List.getElem?_replicate, if_pos h])
  exact this
/-- An array's cells. -/
def ar (f : Nat → Nat × Nat) : List Value := (List.range 18).map (acell f)
theorem ar_len (f : Nat → Nat × Nat) : (ar f).length = 18 := by unfold ar; simp
theorem ar_get (f : Nat → Nat × Nat) (i : Nat) (h : i < 18) : (ar f)[i]? = some (acell f i) := by unfold ar; simp [h]
theorem row_range {w : World} {b : Nat} {T : TypeId} {f : Nat → Nat × Nat} (h : w.rowIs b T 18 (acell f)) : w.rangeAt b 0 (ar f) := fun j v hv => by
  have hj : j < 18 := by
    have := (List.getElem?_eq_some_iff.1 hv).1
    rwa [ar_len] at this
  rw [ar_get f j hj] at hv
  cases hv
  rw [Nat.zero_add]
  exact h.cell hj
theorem row_there {w : World} {b : Nat} {T : TypeId} {f : Nat → Value} (h : w.rowIs b T 18 f) : w.there b 0 18 := fun j hj => by
  rw [Nat.zero_add]
  exact ⟨by rw [h.cell hj]; rfl, h.frozen j⟩
theorem row_setAll {w : World} {b : Nat} {T : TypeId} {f : Nat → Value} (h : w.rowIs b T 18 f) (g : Nat → Nat × Nat) : (w.setCells b 0 (ar g)).rowIs b T 18 (acell g) := by
  refine (Go.rowIs_setCells (ar g) 0 w _ h).congr fun p hp => ?_
  rw [ar_len, if_pos (by omega)]
  have := ar_get g p hp
  simp only [Nat.sub_zero]
  simp [this]
theorem info_ar (f : Nat → Nat × Nat) : (Try.prog.info? 123).map (·.size) = some (ar f).length := by rw [ar_len]; kernel_rfl
theorem info_ar2 (f : Nat → Nat × Nat) : (Try.prog.info? 123).map (·.size) = some (ar f).toArray.size := by rw [List.size_toArray, ar_len]; kernel_rfl
theorem one_ar (f : Nat → Nat × Nat) : (ar f).toArray.all (·.oneCell') = true := all_oneCell_toArray fun v hv => by
  unfold ar at hv
  obtain ⟨i, _, rfl⟩ := List.mem_map.1 hv
  unfold acell
  split <;> rfl
theorem results_cellA {fn : Func} {p : Tmp} {ty : TypeId} {b : Nat} {v : Value} {tmps : Array Value} {P : Program} {w : World} (h : fn.results = #[.cell p ty]) (hp : tmps.getD p undef = .pointer (some ⟨b, 0, none⟩)) (hl : (loadVar ty ⟨b, 0, none⟩).run P w = .ok v w) :
    (results fn tmps).run P w = .ok v w := by
  have hp' : tmps[p]?.getD undef = .pointer (some ⟨b, 0, none⟩) := by rw [← hp]; simp
  simp only [results, h]
  simp [hp', asAddr, hl]
/-- What lies in memory between two rounds. -/
structure Fo (W w : World) (x : Nat × Nat) (g : Nat → Nat × Nat) : Prop where
  x : Ew w W.heap.size x.1 x.2
  r : w.rowIs (W.heap.size + 1) 123 18 (acell fun _ => (0, 0))
  f : w.rowIs (W.heap.size + 1 + 1) 123 18 (acell g)
  d : Below W.heap.size W w
theorem Fo.below {W w w' : World} {x : Nat × Nat} {g : Nat → Nat × Nat} (h : Fo W w x g) (hb : Below w.heap.size w w') : Fo W w' x g :=
  ⟨h.x.below hb, h.r.of_block (hb.block _ h.r.lt), h.f.of_block (hb.block _ h.f.lt), h.d.trans (hb.mono h.d.size)⟩
theorem Fo.drew {W w : World} {x : Nat × Nat} {g : Nat → Nat × Nat} (h : Fo W w x g) : Fo W w.drew x g := h.below (Below.refl _ _).drew
theorem Fo.put {W w : World} {x : Nat × Nat} {g : Nat → Nat × Nat} (h : Fo W w x g) {p : Nat} (hp : W.heap.size + 1 + 1 < p) (u v : Value) : Fo W ((w.setCell ⟨p, 0, none⟩ u).setCell ⟨p, 1, none⟩ v) x g :=
  ⟨h.x.other (by omega) _ _, (h.r.setOther (by simp; omega) _).setOther (by simp; omega) _, (h.f.setOther (by simp; omega) _).setOther (by simp; omega) _, below2 (p := p) h.d (by omega) _ _⟩
theorem acell_set (g : Nat → Nat × Nat) (i : Nat) (v : Nat × Nat) (p : Nat) : (if p = i * 2 + 1 then Value.int .u64 (v.2 : Int) else if p = i * 2 then .int .u64 (v.1 : Int) else acell g p) = acell (fun j => if j = i then v else g j) p := by
  by_cases q1 : p = i * 2 + 1
  · subst q1
    unfold acell
    rw [if_pos rfl, if_neg (by omega)]
    show _ = Value.int .u64 (((if (i * 2 + 1) / 2 = i then v else g ((i * 2 + 1) / 2)).2 : Nat) : Int)
    rw [if_pos (by omega)]
  · by_cases q2 : p = i * 2
    · subst q2
      unfold acell
      rw [if_neg q1, if_pos rfl, if_pos (by omega)]
      show _ = Value.int .u64 (((if i * 2 / 2 = i then v else g (i * 2 / 2)).1 : Nat) : Int)
      rw [if_pos (by omega)]
    · have e : ¬ p / 2 = i := by omega
      simp only [acell, if_neg q1, if_neg q2, if_neg e]
theorem Fo.fill {W w : World} {x : Nat × Nat} {g : Nat → Nat × Nat} (h : Fo W w x g) (i : Nat) (v : Nat × Nat) : Fo W ((w.setCell ⟨W.heap.size + 1 + 1, i * 2, none⟩ (.int .u64 (v.1 : Int))).setCell ⟨W.heap.size + 1 + 1, i * 2 + 1, none⟩ (.int .u64 (v.2 : Int))) x (fun j => if j = i then v else g j) := by
  obtain ⟨⟨h1, h2⟩, h3, h4⟩ := h.x
  refine ⟨⟨⟨by simp [go_sem, *], by simp [go_sem, *]⟩, by simp [go_sem, *], by simp [go_sem, *]⟩, (h.r.setOther (by simp) _).setOther (by simp) _, ?_, (h.d.setCell (by simp; omega) _).setCell (by simp; omega) _⟩
  exact ((h.f.set (i * 2) _).set (i * 2 + 1) _).congr fun p _ => acell_set g i v p
theorem Fo.start (W : World) (x : Nat × Nat) : Fo W (((W.alloc (Obj.cells #[.int .u64 (x.1 : Int), .int .u64 (x.2 : Int)] 24)).alloc (.cells z18 123)).alloc (.cells z18 123)) x (fun _ => (0, 0)) := by
  have r1 := row_z (W.alloc (Obj.cells #[.int .u64 (x.1 : Int), .int .u64 (x.2 : Int)] 24)) 123
  have r2 := row_z ((W.alloc (Obj.cells #[.int .u64 (x.1 : Int), .int .u64 (x.2 : Int)] 24)).alloc (.cells z18 123)) 123
  have e0 : Ew (W.alloc (Obj.cells #[.int .u64 (x.1 : Int), .int .u64 (x.2 : Int)] 24)) W.heap.size x.1 x.2 := ⟨⟨by simp [go_sem], by simp [go_sem]⟩, by simp [go_sem], by simp [go_sem]⟩
  refine ⟨(e0.alloc _).alloc _, ?_, ?_, by go_grown⟩
  · simpa using r1.alloc _
  · simpa using r2
/-- Within a round. -/
structure Fi (W w : World) (p q : Nat) (x o u : Nat × Nat) (g : Nat → Nat × Nat) : Prop where
  a : Fo W w x g
  o : Ew w p o.1 o.2
  u : Ew w q u.1 u.2
  hp : W.heap.size + 1 + 1 < p
  hq : W.heap.size + 1 + 1 < q
  pq : p ≠ q
section
variable {W w w' : World} {p q : Nat} {x o u : Nat × Nat} {g : Nat → Nat × Nat}
theorem Fi.below (h : Fi W w p q x o u g) (hb : Below w.heap.size w w') : Fi W w' p q x o u g := ⟨h.a.below hb, h.o.below hb, h.u.below hb, h.hp, h.hq, h.pq⟩
theorem Fi.drew (h : Fi W w p q x o u g) : Fi W w.drew p q x o u g := h.below (Below.refl _ _).drew
theorem Fi.putO (h : Fi W w p q x o u g) (v : Nat × Nat) : Fi W ((w.setCell ⟨p, 0, none⟩ (.int .u64 (v.1 : Int))).setCell ⟨p, 1, none⟩ (.int .u64 (v.2 : Int))) p q x v u g := ⟨h.a.put h.hp _ _, h.o.set _ _, h.u.other h.pq _ _, h.hp, h.hq, h.pq⟩
theorem Fi.putU (h : Fi W w p q x o u g) (v : Nat × Nat) : Fi W ((w.setCell ⟨q, 0, none⟩ (.int .u64 (v.1 : Int))).setCell ⟨q, 1, none⟩ (.int .u64 (v.2 : Int))) p q x o v g := ⟨h.a.put h.hq _ _, h.o.other (fun e => h.pq e.symm) _ _, h.u.set _ _, h.hp, h.hq, h.pq⟩
theorem Fi.some6 (h : Fi W w p q x o u g) : w.cell? ⟨W.heap.size, 0, none⟩ = some (.int .u64 (x.1 : Int)) ∧ w.cell? ⟨W.heap.size, 1, none⟩ = some (.int .u64 (x.2 : Int)) ∧ w.cell? ⟨p, 0, none⟩ = some (.int .u64 (o.1 : Int)) ∧ w.cell? ⟨p, 1, none⟩ = some (.int .u64 (o.2 : Int)) ∧ w.cell? ⟨q, 0, none⟩ = some (.int .u64 (u.1 : Int)) ∧ w.cell? ⟨q, 1, none⟩ = some (.int .u64 (u.2 : Int)) :=
  ⟨h.a.x.hi, h.a.x.lo, h.o.hi, h.o.lo, h.u.hi, h.u.lo⟩
theorem Fi.facts (h : Fi W w p q x o u g) : w.cell? ⟨W.heap.size, 0, none⟩ = some (.int .u64 (x.1 : Int)) ∧ w.cell? ⟨W.heap.size, 1, none⟩ = some (.int .u64 (x.2 : Int)) ∧ w.cell? ⟨p, 0, none⟩ = some (.int .u64 (o.1 : Int)) ∧ w.cell? ⟨p, 1, none⟩ = some (.int .u64 (o.2 : Int)) ∧ w.cell? ⟨q, 0, none⟩ = some (.int .u64 (u.1 : Int)) ∧ w.cell? ⟨q, 1, none⟩ = some (.int .u64 (u.2 : Int)) ∧ w.frozen? ⟨p, 0, none⟩ = false ∧ w.frozen? ⟨p, 1, none⟩ = false ∧ w.frozen? ⟨q, 0, none⟩ = false ∧ w.frozen? ⟨q, 1, none⟩ = false :=
  ⟨h.a.x.hi, h.a.x.lo, h.o.hi, h.o.lo, h.u.hi, h.u.lo, h.o.fhi, h.o.flo, h.u.fhi, h.u.flo⟩
end
theorem Fi.start {W w : World} {x : Nat × Nat} {g : Nat → Nat × Nat} (h : Fo W w x g) : Fi W ((w.alloc (Obj.cells #[.int .u64 0, .int .u64 1] 24)).alloc (Obj.cells #[.int .u64 0, .int .u64 1] 24)) w.heap.size (w.heap.size + 1) x (0, 1) (0, 1) g := by
  have hb : Below w.heap.size w ((w.alloc (Obj.cells #[.int .u64 0, .int .u64 1] 24)).alloc (Obj.cells #[.int .u64 0, .int .u64 1] 24)) := by go_grown
  have e1 : Ew (w.alloc (Obj.cells #[.int .u64 0, .int .u64 1] 24)) w.heap.size 0 1 := ⟨⟨by simp [go_sem], by simp [go_sem]⟩, by simp [go_sem], by simp [go_sem]⟩
  have hl := h.f.lt
  exact ⟨h.below hb, e1.alloc _, ⟨⟨by simp [go_sem], by simp [go_sem]⟩, by simp [go_sem], by simp [go_sem]⟩, hl, by omega, by omega⟩
theorem ladd (a b : Nat × Nat) (ha : lt2 a) (hb : lt2 b) : Ret 27 #[.agg #[.int .u64 (a.1 : Int), .int .u64 (a.2 : Int)], .agg #[.int .u64 (b.1 : Int), .int .u64 (b.2 : Int)]] (.agg #[.int .u64 ((xa a b).1 : Int), .int .u64 ((xa a b).2 : Int)]) := fun w => add_any _ _ _ _ ha.1 ha.2 hb.1 hb.2 w
theorem lmul (k : Nat) (a b : Nat × Nat) (ha : lt2 a) (hb : lt2 b) (oa : ofE k a) (ob : ofE k b) : Ret 83 #[.int .i64 (k : Int), .agg #[.int .u64 (a.1 : Int), .int .u64 (a.2 : Int)], .agg #[.int .u64 (b.1 : Int), .int .u64 (b.2 : Int)]] (.agg #[.int .u64 ((pm a b).1 : Int), .int .u64 ((pm a b).2 : Int)]) := by
  have := mul_any (k : Int) a b ha.1 ha.2 hb.1 hb.2
  rw [mulv_of oa ob] at this
  exact this
theorem ldiv (k : Nat) (hk : k < 8) (a b : Nat × Nat) (ha : lt2 a) (hb : lt2 b) (oa : ofE k a) (ob : ofE k b) : Ret 99 #[.int .i64 (k : Int), .agg #[.int .u64 (a.1 : Int), .int .u64 (a.2 : Int)], .agg #[.int .u64 (b.1 : Int), .int .u64 (b.2 : Int)]] (.agg #[.int .u64 ((pm a (Ln.iv b)).1 : Int), .int .u64 ((pm a (Ln.iv b)).2 : Int)]) := by
  have h1 := inv_any (k : Int) b hb.1 hb.2
  rw [show invv (k : Int) b = Ln.iv b by unfold invv; rw [if_pos (show ofB (k : Int) (b.1 : Int) (b.2 : Int) = true from ob)]; rfl] at h1
  exact div_ok (k : Int) _ _ _ _ _ _ _ _ h1 (lmul k a (Ln.iv b) ha (Ln.lt_iv b) oa (lof_iv hk ob))
set_option maxHeartbeats 40000000 in
set_option maxRecDepth 100000 in
theorem factors_ok (k : Nat) (hk : k < 8) (n : Nat) (hn : n ≤ 9) (x : Nat × Nat) (hx : lt2 x) (ox : ofE k x) (hp : plk k n) (W : World) :
    Calls Try.prog 74 #[.int .i64 (k : Int), .int .i64 (n : Int), .agg #[.int .u64 (x.1 : Int), .int .u64 (x.2 : Int)]] W fun e w' => ∃ g : Nat → Nat × Nat, (∀ i, i < n → g i = fcv n i x) ∧ e = .returned (.agg (ar g).toArray) ∧ Below W.heap.size W w' := by
  have HO : Hid (Ret 98 #[] (.agg #[.int .u64 0, .int .u64 1])) := one_any
  have HP : Hid (plk k n) := hp
  have HX : Hid (lt2 x ∧ ofE k x) := ⟨hx, ox⟩
  clear hp hx ox
  go_enter Try.func74, Try.ntmps74
  go_wp2_with fail
  have K0 : Hid (Fo W _ x (fun _ => (0, 0))) := Fo.start W x
  go_loopw [13] (fun u wr => ∃ (i : Nat) (g : Nat → Nat × Nat), i ≤ n ∧ u = .int .i64 i ∧ Hid (∀ j, j < i → g j = fcv n j x) ∧ Fo W wr x g) (fun u _ => n - (intOf u).toNat)
  case atStart => exact ⟨0, fun _ => (0, 0), Nat.zero_le _, rfl, (fun j hj => by omega), K0.out⟩
  case round =>
    obtain ⟨i, g, hi, rfl, HG, K⟩ := hrel
    clear K0
    by_cases hlt : i < n
    · have KH : Hid (Fo W wr x g) := K
      clear K
      go_wp2_with (go_at_call 98; first | (refine (HO.out.go _).mono ?_; rintro e w1 ⟨rfl, hb1⟩; have K1 : Hid (Fo W w1 x g) := KH.out.below hb1; clear hb1 KH) | (refine (HO.out.go _).mono ?_; rintro e w2 ⟨rfl, hb2⟩; have K2 : Hid (Fo W w2 x g) := K1.out.below hb2; clear hb2 K1))
      have I0 : Hid (Fi W _ _ _ x (0, 1) (0, 1) g) := Fi.start K2.out
      go_loopw [19] (fun u wr => ∃ j : Nat, j ≤ n ∧ u = .int .i64 j ∧ Fi W wr w2.heap.size (w2.heap.size + 1) x (ov i x j) (un i j) g) (fun u _ => n - (intOf u).toNat)
      case atStart => exact ⟨0, Nat.zero_le _, rfl, I0.out⟩
      case round =>
        obtain ⟨j, hj, rfl, K⟩ := hrel
        clear I0 K2
        generalize w2.heap.size + 1 = q at *
        generalize w2.heap.size = p at *
        by_cases hj2 : j < n
        · by_cases hij : j = i
          · subst hij
            have e1 : ov j x (j + 1) = ov j x j := by rw [ov, psv, if_pos rfl]; rfl
            have e2 : un j (j + 1) = un j j := by rw [un, psv, if_pos rfl]; rfl
            have KI : Hid (Fi W wr p q x (ov j x (j + 1)) (un j (j + 1)) g) := by show Fi _ _ _ _ _ _ _ _; rw [e1, e2]; exact K
            clear K e1 e2
            go_wp2
            exact ⟨⟨j + 1, hj2, by simp, KI.out⟩, by simp [intOf]; omega⟩
          · have e1 : ov i x (j + 1) = pm (ov i x j) (xa x (pl j)) := by rw [ov, psv, if_neg hij]; rfl
            have e2 : un i (j + 1) = pm (un i j) (xa (pl i) (pl j)) := by rw [un, psv, if_neg hij]; rfl
            have hne : ((j : Int) == (i : Int)) = false := by rw [beq_eq_false_iff_ne]; omega
            have P1 := lplace j (by omega)
            have P2 := lplace i (by omega)
            have A1 := ladd x (pl j) HX.out.1 (lt_pl (by omega))
            have A2 := ladd (pl i) (pl j) (lt_pl (by omega)) (lt_pl (by omega))
            have M1 := lmul k (ov i x j) (xa x (pl j)) (lt_psv _ _ _) (lt_xa HX.out.1 (lt_pl (by omega))) (of_ov hk HP.out HX.out.2 hj) (of_xor hk HX.out.2 (HP.out j hj2))
            have M2 := lmul k (un i j) (xa (pl i) (pl j)) (lt_psv _ _ _) (lt_xa (lt_pl (by omega)) (lt_pl (by omega))) (of_un hk HP.out hlt hj) (of_xor hk (HP.out i hlt) (HP.out j hj2))
            rw [← e1] at M1
            rw [← e2] at M2
            clear e1 e2
            generalize ov i x j = o at *
            generalize un i j = u at *
            obtain ⟨o', ho'⟩ : ∃ o', o' = ov i x (j + 1) := ⟨_, rfl⟩
            obtain ⟨u', hu'⟩ : ∃ u', u' = un i (j + 1) := ⟨_, rfl⟩
            rw [← ho'] at M1
            rw [← hu'] at M2
            have HE : Hid (o' = ov i x (j + 1) ∧ u' = un i (j + 1)) := ⟨ho', hu'⟩
            clear ho' hu'
            go_upto_region 10 with fail
            refine wp_region_noPanic ?_
            refine wp_region_peel (S := fun w => w.cell? ⟨W.heap.size, 0, none⟩ = some (.int .u64 (x.1 : Int)) ∧ w.cell? ⟨W.heap.size, 1, none⟩ = some (.int .u64 (x.2 : Int)) ∧ w.cell? ⟨p, 0, none⟩ = some (.int .u64 (o.1 : Int)) ∧ w.cell? ⟨p, 1, none⟩ = some (.int .u64 (o.2 : Int)) ∧ w.cell? ⟨q, 0, none⟩ = some (.int .u64 (u.1 : Int)) ∧ w.cell? ⟨q, 1, none⟩ = some (.int .u64 (u.2 : Int))) 7 (by kernel_rfl) rfl (by kernel_rfl) ?_ (fun hHeld => ?_)
            · exact K.some6
            refine wpAnyH_take (i := 0) (oi := _) (v := ?_) rfl (by kernel_rfl) (by kernel_rfl) (by kernel_rfl) (fun _ _ _ h => h) (Or.inl ⟨by rfl, ?_⟩) (by assumption) ?_
            rotate_left
            · ((intro w hSw; (try dsimp only at hSw); go_simp) <;> (try with_reducible rfl))
            try simp only [Act.put]
            refine wpAnyH_take (i := 1) (oi := _) (v := ?_) rfl (by kernel_rfl) (by kernel_rfl) (by kernel_rfl) (fun _ _ _ h => h) (Or.inl ⟨by rfl, ?_⟩) (by assumption) ?_
            rotate_left
            · ((intro w hSw; (try dsimp only at hSw); go_simp) <;> (try with_reducible rfl))
            try simp only [Act.put]
            refine wpAnyH_take (i := 2) (oi := _) (v := ?_) rfl (by kernel_rfl) (by kernel_rfl) (by kernel_rfl) (fun _ _ _ h => h) (Or.inl ⟨by rfl, ?_⟩) (by assumption) ?_
            rotate_left
            · ((intro w hSw; (try dsimp only at hSw); go_simp) <;> (try with_reducible rfl))
            try simp only [Act.put]
            refine wpAnyH_take (i := 3) (oi := _) (v := ?_) rfl (by kernel_rfl) (by kernel_rfl) (by kernel_rfl) (fun _ _ _ h => h) (Or.inl ⟨by rfl, ?_⟩) (by assumption) ?_
            rotate_left
            · ((intro w hSw; (try dsimp only at hSw); go_simp) <;> (try with_reducible rfl))
            try simp only [Act.put]
            refine wpAnyH_ready (rs := [4]) (by kernel_rfl) (by simp) ?_
            refine AllReadyH.cons (o := _) rfl (fun KK hKK => ?_) AllReadyH.nil
            go_simp
            (go_at_call 84; refine (P1.go _).mono ?_; rintro e w' ⟨rfl, hb'⟩)
            have K'' := Fi.below (w' := w') (by first | exact K | exact K.drew) hb'
            clear K hb'
            have K := K''
            clear K''
            (try simp only [World.size_drew] at K)
            refine hKK.out _ _ ?_ (fun hHeld => ?_)
            · exact K.some6
            clear hKK KK
            try simp only [Act.put]
            refine wpAnyH_ready (rs := [5]) (by kernel_rfl) (by simp) ?_
            refine AllReadyH.cons (o := _) rfl (fun KK hKK => ?_) AllReadyH.nil
            go_simp
            (go_at_call 27; refine (A1.go _).mono ?_; rintro e w' ⟨rfl, hb'⟩)
            have K'' := Fi.below (w' := w') (by first | exact K | exact K.drew) hb'
            clear K hb'
            have K := K''
            clear K''
            (try simp only [World.size_drew] at K)
            refine hKK.out _ _ ?_ (fun hHeld => ?_)
            · exact K.some6
            clear hKK KK
            try simp only [Act.put]
            refine wpAnyH_ready (rs := [6]) (by kernel_rfl) (by simp) ?_
            refine AllReadyH.cons (o := _) rfl (fun KK hKK => ?_) AllReadyH.nil
            go_simp
            (go_at_call 83; refine (M1.go _).mono ?_; rintro e w' ⟨rfl, hb'⟩)
            have K'' := Fi.below (w' := w') (by first | exact K | exact K.drew) hb'
            clear K hb'
            have K := K''
            clear K''
            (try simp only [World.size_drew] at K)
            refine hKK.out _ _ ?_ (fun hHeld => ?_)
            · exact K.some6
            clear hKK KK
            try simp only [Act.put]
            refine wpAnyH_done (by kernel_rfl) ?_ _
            refine peel_last rfl (fun KK hKK => ?_)
            clear hHeld
            obtain ⟨x1, x0, o1, o0, u1, u0, f1, f0, v1, v0⟩ := K.facts
            go_simp
            refine hKK _ _ ?_
            refine NoPanic.normal ?_
            clear hKK KK
            clear x1 x0 o1 o0 u1 u0 f1 f0 v1 v0
            have K2 := K.putO o'
            clear K
            have K := K2
            clear K2
            generalize ((w'.setCell ⟨p, 0, none⟩ (.int .u64 (o'.1 : Int))).setCell ⟨p, 1, none⟩ (.int .u64 (o'.2 : Int))) = w5 at *
            go_upto_region 11 with fail
            refine wp_region_noPanic ?_
            refine wp_region_peel (S := fun w => w.cell? ⟨W.heap.size, 0, none⟩ = some (.int .u64 (x.1 : Int)) ∧ w.cell? ⟨W.heap.size, 1, none⟩ = some (.int .u64 (x.2 : Int)) ∧ w.cell? ⟨p, 0, none⟩ = some (.int .u64 (o'.1 : Int)) ∧ w.cell? ⟨p, 1, none⟩ = some (.int .u64 (o'.2 : Int)) ∧ w.cell? ⟨q, 0, none⟩ = some (.int .u64 (u.1 : Int)) ∧ w.cell? ⟨q, 1, none⟩ = some (.int .u64 (u.2 : Int))) 8 (by kernel_rfl) rfl (by kernel_rfl) ?_ (fun hHeld => ?_)
            · exact K.some6
            refine wpAnyH_take (i := 0) (oi := _) (v := ?_) rfl (by kernel_rfl) (by kernel_rfl) (by kernel_rfl) (fun _ _ _ h => h) (Or.inl ⟨by rfl, ?_⟩) (by assumption) ?_
            rotate_left
            · ((intro w hSw; (try dsimp only at hSw); go_simp) <;> (try with_reducible rfl))
            try simp only [Act.put]
            refine wpAnyH_take (i := 1) (oi := _) (v := ?_) rfl (by kernel_rfl) (by kernel_rfl) (by kernel_rfl) (fun _ _ _ h => h) (Or.inl ⟨by rfl, ?_⟩) (by assumption) ?_
            rotate_left
            · ((intro w hSw; (try dsimp only at hSw); go_simp) <;> (try with_reducible rfl))
            try simp only [Act.put]
            refine wpAnyH_take (i := 2) (oi := _) (v := ?_) rfl (by kernel_rfl) (by kernel_rfl) (by kernel_rfl) (fun _ _ _ h => h) (Or.inl ⟨by rfl, ?_⟩) (by assumption) ?_
            rotate_left
            · ((intro w hSw; (try dsimp only at hSw); go_simp) <;> (try with_reducible rfl))
            try simp only [Act.put]
            refine wpAnyH_take (i := 4) (oi := _) (v := ?_) rfl (by kernel_rfl) (by kernel_rfl) (by kernel_rfl) (fun _ _ _ h => h) (Or.inl ⟨by rfl, ?_⟩) (by assumption) ?_
            rotate_left
            · ((intro w hSw; (try dsimp only at hSw); go_simp) <;> (try with_reducible rfl))
            try simp only [Act.put]
            refine wpAnyH_ready (rs := [3]) (by kernel_rfl) (by simp) ?_
            refine AllReadyH.cons (o := _) rfl (fun KK hKK => ?_) AllReadyH.nil
            go_simp
            (go_at_call 84; refine (P2.go _).mono ?_; rintro e w' ⟨rfl, hb'⟩)
            have K'' := Fi.below (w' := w') (by first | exact K | exact K.drew) hb'
            clear K hb'
            have K := K''
            clear K''
            (try simp only [World.size_drew] at K)
            refine hKK.out _ _ ?_ (fun hHeld => ?_)
            · exact K.some6
            clear hKK KK
            try simp only [Act.put]
            refine wpAnyH_ready (rs := [5]) (by kernel_rfl) (by simp) ?_
            refine AllReadyH.cons (o := _) rfl (fun KK hKK => ?_) AllReadyH.nil
            go_simp
            (go_at_call 84; refine (P1.go _).mono ?_; rintro e w' ⟨rfl, hb'⟩)
            have K'' := Fi.below (w' := w') (by first | exact K | exact K.drew) hb'
            clear K hb'
            have K := K''
            clear K''
            (try simp only [World.size_drew] at K)
            refine hKK.out _ _ ?_ (fun hHeld => ?_)
            · exact K.some6
            clear hKK KK
            try simp only [Act.put]
            refine wpAnyH_ready (rs := [6]) (by kernel_rfl) (by simp) ?_
            refine AllReadyH.cons (o := _) rfl (fun KK hKK => ?_) AllReadyH.nil
            go_simp
            (go_at_call 27; refine (A2.go _).mono ?_; rintro e w' ⟨rfl, hb'⟩)
            have K'' := Fi.below (w' := w') (by first | exact K | exact K.drew) hb'
            clear K hb'
            have K := K''
            clear K''
            (try simp only [World.size_drew] at K)
            refine hKK.out _ _ ?_ (fun hHeld => ?_)
            · exact K.some6
            clear hKK KK
            try simp only [Act.put]
            refine wpAnyH_ready (rs := [7]) (by kernel_rfl) (by simp) ?_
            refine AllReadyH.cons (o := _) rfl (fun KK hKK => ?_) AllReadyH.nil
            go_simp
            (go_at_call 83; refine (M2.go _).mono ?_; rintro e w' ⟨rfl, hb'⟩)
            have K'' := Fi.below (w' := w') (by first | exact K | exact K.drew) hb'
            clear K hb'
            have K := K''
            clear K''
            (try simp only [World.size_drew] at K)
            refine hKK.out _ _ ?_ (fun hHeld => ?_)
            · exact K.some6
            clear hKK KK
            try simp only [Act.put]
            refine wpAnyH_done (by kernel_rfl) ?_ _
            refine peel_last rfl (fun KK hKK => ?_)
            clear hHeld
            obtain ⟨x1, x0, o1, o0, u1, u0, f1, f0, v1, v0⟩ := K.facts
            go_simp
            refine hKK _ _ ?_
            refine NoPanic.normal ?_
            clear hKK KK
            clear x1 x0 o1 o0 u1 u0 f1 f0 v1 v0
            have K2 := K.putU u'
            have KI : Hid (Fi W ((w'.setCell ⟨q, 0, none⟩ (.int .u64 (u'.1 : Int))).setCell ⟨q, 1, none⟩ (.int .u64 (u'.2 : Int))) p q x (ov i x (j + 1)) (un i (j + 1)) g) := by show Fi _ _ _ _ _ _ _ _; rw [← HE.out.1, ← HE.out.2]; exact K2
            clear K K2
            go_wp2
            exact ⟨⟨j + 1, hj2, by simp, KI.out⟩, by simp [intOf]; omega⟩
        · obtain rfl : j = n := by omega
          have D1 := ldiv k hk (ov i x j) (un i j) (lt_psv _ _ _) (lt_psv _ _ _) (of_ov hk HP.out HX.out.2 (Nat.le_refl _)) (of_un hk HP.out hlt (Nat.le_refl _))
          have HF : Hid (pm (ov i x j) (Ln.iv (un i j)) = fcv j i x) := rfl
          generalize pm (ov i x j) (Ln.iv (un i j)) = y at *
          generalize ov i x j = o at *
          generalize un i j = u at *
          have hi9 : i < 9 := by omega
          obtain ⟨x1, x0, o1, o0, u1, u0, f1, f0, v1, v0⟩ := K.facts
          have c1 := K.a.f.cell (i := i * 2) (by omega)
          have c0 := K.a.f.cell (i := i * 2 + 1) (by omega)
          have z1 := K.a.f.frozen (i * 2)
          have z0 := K.a.f.frozen (i * 2 + 1)
          have KH : Hid (Fi W wr p q x o u g) := K
          clear K x1 x0 f1 f0 v1 v0
          go_wp2_with (go_at_call 99; refine (D1.go _).mono ?_; rintro e w' ⟨rfl, hb'⟩; have K3 : Hid (Fo W w' x g) := KH.out.a.below hb'; clear KH hb' c1 c0 z1 z0 o1 o0 u1 u0; have c1 := K3.out.f.cell (i := i * 2) (by omega); have c0 := K3.out.f.cell (i := i * 2 + 1) (by omega); have z1 := K3.out.f.frozen (i * 2); have z0 := K3.out.f.frozen (i * 2 + 1))
          refine ⟨⟨i + 1, _, hlt, by simp, fun l hl => ?_, K3.out.fill i y⟩, by simp [intOf]; omega⟩
          show (if l = i then y else g l) = fcv j l x
          by_cases e : l = i
          · rw [if_pos e, e]; exact HF.out
          · rw [if_neg e]; exact HG.out l (by omega)
    · obtain rfl : i = n := by omega
      have HR : Hid (wr.rangeAt (W.heap.size + 1 + 1) 0 (ar g)) := row_range K.f
      have HH : Hid (wr.there (W.heap.size + 1) 0 (ar g).toArray.size) := by show World.there _ _ _ _; rw [show (ar g).toArray.size = 18 by rw [List.size_toArray, ar_len]]; exact row_there K.r
      have HI1 : Hid ((Try.prog.info? 123).map (·.size) = some (ar g).length) := info_ar g
      have HI2 : Hid ((Try.prog.info? 123).map (·.size) = some (ar g).toArray.size) := info_ar2 g
      have HI3 : Hid ((ar g).toArray.all (·.oneCell') = true) := one_ar g
      have HC : Hid (ar g = ar g) := rfl
      have KH : Hid (Fo W wr x g) := K
      clear K
      generalize hcs2 : ar g = cs2 at *
      replace HC : Hid (ar g = cs2) := hcs2
      clear hcs2
      go_wp2_with (first | (refine wpList_load_mid rfl 123 _ rfl (W.heap.size + 1 + 1) 0 rfl cs2 _ HR.out Try.underlying123 rfl HI1.out ?_) | (refine wpList_store_mid rfl 123 _ _ rfl (W.heap.size + 1) 0 cs2.toArray rfl rfl HH.out HI2.out HI3.out ?_))
      have HX : Hid ((wr.setCells (W.heap.size + 1) 0 cs2).rowIs (W.heap.size + 1) 123 18 (acell g)) := by show World.rowIs _ _ _ _ _; rw [← HC.out]; exact row_setAll KH.out.r g
      have hld : (loadVar 123 ⟨W.heap.size + 1, 0, none⟩).run Try.prog (wr.setCells (W.heap.size + 1) 0 cs2) = .ok (.agg (ar g).toArray) (wr.setCells (W.heap.size + 1) 0 cs2) :=
        run_loadVar_mid _ (W.heap.size + 1) 0 123 (ar g) _ (row_range HX.out) Try.underlying123 rfl (info_ar g)
      refine bodyPost_ret (v := .agg (ar g).toArray) ?_ rfl ⟨g, fun l hl => HG.out l hl, rfl, ?_⟩
      · exact results_cellA Try.results74 rfl hld
      · exact below_setCells (by omega) _ _ _ KH.out.d
end Go.Proofs.Ytfhojakhoobnhaa
