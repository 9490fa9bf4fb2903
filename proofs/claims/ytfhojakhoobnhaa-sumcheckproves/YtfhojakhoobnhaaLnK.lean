/- The document's polynomial by lines between polynomials of one value less: the contract of steepleref17.At over the seat's translation. -/
import Derived.Test.YtfhojakhoobnhaaPScB
import Derived.Deep.AppendLies
namespace Go.Proofs.Ytfhojakhoobnhaa
open Go.RowKit
open Cb Ln
open Tw (pm)

theorem nup {w w' : World} {B b o : Nat} {v : Value} (hb : Below B w w') (h : w.cell? ⟨b, o, none⟩ = some v) (hl : b < B) : w'.cell? ⟨b, o, none⟩ = some v := by
  rw [hb.cell (p := ⟨b, o, none⟩) hl]; exact h
theorem Hid.mkN {p : Prop} (h : p) : Hid p := h
theorem Ew.roomN (w : World) (T : TypeId) : Ew (w.alloc (Obj.cells #[.int .u64 0, .int .u64 0] T)) w.heap.size 0 0 := ⟨⟨by simp [go_sem], by simp [go_sem]⟩, by simp [go_sem], by simp [go_sem]⟩
theorem Ew.newN (w : World) (v : Nat × Nat) (T : TypeId) : Ew (w.alloc (Obj.cells #[.int .u64 (v.1 : Int), .int .u64 (v.2 : Int)] T)) w.heap.size v.1 v.2 := ⟨⟨by simp [go_sem], by simp [go_sem]⟩, by simp [go_sem], by simp [go_sem]⟩
theorem Ew.farN {w w' : World} {q h l : Nat} {ob : Option Nat} (hg : w.grownBy w' ob) (e : Ew w q h l) (hne : ob ≠ some q) : Ew w' q h l := by
  have hq : q < w.heap.size := e.toEl.lt
  have hn : some q ≠ ob := fun h => hne h.symm
  exact ⟨⟨by rw [hg.cell_far ⟨q, 0, none⟩ hq hn]; exact e.hi, by rw [hg.cell_far ⟨q, 1, none⟩ hq hn]; exact e.lo⟩, by rw [hg.frozen_far ⟨q, 0, none⟩ hq hn]; exact e.fhi, by rw [hg.frozen_far ⟨q, 1, none⟩ hq hn]; exact e.flo⟩
/-- A box for the sum, laid ahead of a call or behind all. -/
theorem nend1 {R w : World} {q : Nat} (D : Below R.heap.size R w) (b : Ew w q 0 0) (hq : R.heap.size ≤ q) (y : Nat × Nat) :
    Ew ((w.setCell ⟨q, 0, none⟩ (.int .u64 (y.1 : Int))).setCell ⟨q, 1, none⟩ (.int .u64 (y.2 : Int))) q y.1 y.2 ∧ Below R.heap.size R ((w.setCell ⟨q, 0, none⟩ (.int .u64 (y.1 : Int))).setCell ⟨q, 1, none⟩ (.int .u64 (y.2 : Int))) :=
  ⟨b.set y.1 y.2, (D.setCell hq _).setCell hq _⟩
theorem nend2 {R w : World} (D : Below R.heap.size R w) (y : Nat × Nat) (T : TypeId) :
    Ew (w.alloc (Obj.cells #[.int .u64 (y.1 : Int), .int .u64 (y.2 : Int)] T)) w.heap.size y.1 y.2 ∧ Below R.heap.size R (w.alloc (Obj.cells #[.int .u64 (y.1 : Int), .int .u64 (y.2 : Int)] T)) := ⟨Ew.newN w y T, D.alloc D.size _⟩
/-- The row of the step m. -/
def nrow (t : List (Nat × Nat)) (x : Nat × Nat) (m : Nat) : List (Nat × Nat) := (List.range (t.length - m)).map fun i => nvv t x m i
theorem nrow_len (t : List (Nat × Nat)) (x : Nat × Nat) (m : Nat) : (nrow t x m).length = t.length - m := by simp [nrow]
theorem nrow_el {t : List (Nat × Nat)} {x : Nat × Nat} {m i : Nat} (h : i < t.length - m) : el (nrow t x m) i = nvv t x m i := by simp [el, nrow, List.getD, h]
theorem nrow_zero (t : List (Nat × Nat)) (x : Nat × Nat) : nrow t x 0 = t := by
  refine list_ext (by rw [nrow_len]; rfl) fun i hi => ?_
  rw [nrow_len] at hi
  rw [nrow_el hi]; rfl
theorem nrow_take {t : List (Nat × Nat)} {x : Nat × Nat} {m j : Nat} (h : j < t.length - m) : (nrow t x m).take (j + 1) = (nrow t x m).take j ++ [nvv t x m j] := by
  rw [take_sn _ j (by rw [nrow_len]; exact h)]
  congr 2
  exact nrow_el h
theorem of_nvv {k : Nat} (hk : k < 8) {t : List (Nat × Nat)} {x : Nat × Nat} (ot : ofT k t) (ox : ofE k x) (hp : plk k t.length) : ∀ m i, i + m < t.length → ofE k (nvv t x m i)
  | 0, i, _ => ot.el hk i
  | m + 1, i, h => by
    rw [nvv]
    exact of_pm hk (of_xor hk (of_pm hk (of_xor hk ox (hp _ h)) (of_nvv hk ot ox hp m i (by omega))) (of_pm hk (of_xor hk ox (hp i (by omega))) (of_nvv hk ot ox hp m (i + 1) (by omega)))) (lof_iv hk (of_xor hk (hp i (by omega)) (hp _ h)))
theorem lrmul (a b : Nat × Nat) (ha : lt2 a) (hb : lt2 b) : Ret 35 #[.agg #[.int .u64 (a.1 : Int), .int .u64 (a.2 : Int)], .agg #[.int .u64 (b.1 : Int), .int .u64 (b.2 : Int)]] (.agg #[.int .u64 ((pm a b).1 : Int), .int .u64 ((pm a b).2 : Int)]) := rproduct_any _ _ _ _ ha.1 ha.2 hb.1 hb.2
theorem lradd (a b : Nat × Nat) (ha : lt2 a) (hb : lt2 b) : Ret 42 #[.agg #[.int .u64 (a.1 : Int), .int .u64 (a.2 : Int)], .agg #[.int .u64 (b.1 : Int), .int .u64 (b.2 : Int)]] (.agg #[.int .u64 ((xa a b).1 : Int), .int .u64 ((xa a b).2 : Int)]) := radd _ _ _ _ ha.1 ha.2 hb.1 hb.2
theorem lrinv (k : Nat) (b : Nat × Nat) (hb : lt2 b) (ob : ofE k b) : Ret 76 #[.int .i64 (k : Int), .agg #[.int .u64 (b.1 : Int), .int .u64 (b.2 : Int)]] (.agg #[.int .u64 ((Ln.iv b).1 : Int), .int .u64 ((Ln.iv b).2 : Int)]) := by
  have h1 := rinv_any (k : Int) b hb.1 hb.2
  rw [show invv (k : Int) b = Ln.iv b by unfold invv; rw [if_pos (show ofB (k : Int) (b.1 : Int) (b.2 : Int) = true from ob)]; rfl] at h1
  exact h1
/-- The cells that a step reads, in the world at its start. -/
def Rd (w : World) (p qa qb b o1 o2 : Nat) (x A C u v : Nat × Nat) : Prop := w.cell? ⟨p, 0, none⟩ = some (.int .u64 (x.1 : Int)) ∧ w.cell? ⟨p, 1, none⟩ = some (.int .u64 (x.2 : Int)) ∧ w.cell? ⟨qa, 0, none⟩ = some (.int .u64 (A.1 : Int)) ∧ w.cell? ⟨qa, 1, none⟩ = some (.int .u64 (A.2 : Int)) ∧ w.cell? ⟨qb, 0, none⟩ = some (.int .u64 (C.1 : Int)) ∧ w.cell? ⟨qb, 1, none⟩ = some (.int .u64 (C.2 : Int)) ∧ w.cell? ⟨b, o1, none⟩ = some (.int .u64 (u.1 : Int)) ∧ w.cell? ⟨b, o1 + 1, none⟩ = some (.int .u64 (u.2 : Int)) ∧ w.cell? ⟨b, o2, none⟩ = some (.int .u64 (v.1 : Int)) ∧ w.cell? ⟨b, o2 + 1, none⟩ = some (.int .u64 (v.2 : Int))
theorem Rd.below {w w' : World} {p qa qb b o1 o2 : Nat} {x A C u v : Nat × Nat} (h : Rd w p qa qb b o1 o2 x A C u v) (hb : Below w.heap.size w w') : Rd w' p qa qb b o1 o2 x A C u v := by
  obtain ⟨h1, h2, h3, h4, h5, h6, h7, h8, h9, h10⟩ := h
  exact ⟨keepc hb h1, keepc hb h2, keepc hb h3, keepc hb h4, keepc hb h5, keepc hb h6, keepc hb h7, keepc hb h8, keepc hb h9, keepc hb h10⟩
/-- Between two steps: what is made of the next row, and the boxes of this step. -/
structure Nb (R w : World) (B : Nat) (s : Value) (j : Nat) (xs : List Value) (qa qb qu : Nat) (A C U : Nat × Nat) : Prop where
  own : w.ownsRow B 34 2 s j xs
  a : Ew w qa A.1 A.2
  b : Ew w qb C.1 C.2
  u : Ew w qu U.1 U.2
  d : Below B R w
  hB : B ≤ w.heap.size
  na : s.ownBlock ≠ some qa
  nb : s.ownBlock ≠ some qb
  nu : s.ownBlock ≠ some qu
section
variable {R w w' : World} {B : Nat} {s : Value} {j : Nat} {xs : List Value} {qa qb qu : Nat} {A C U : Nat × Nat}
theorem Nb.below (h : Nb R w B s j xs qa qb qu A C U) (hb : Below w.heap.size w w') : Nb R w' B s j xs qa qb qu A C U := ⟨own_below h.own hb, h.a.below hb, h.b.below hb, h.u.below hb, h.d.trans (hb.mono h.hB), Nat.le_trans h.hB hb.size, h.na, h.nb, h.nu⟩
theorem Nb.drew (h : Nb R w B s j xs qa qb qu A C U) : Nb R w.drew B s j xs qa qb qu A C U := h.below (Below.refl _ _).drew
theorem Nb.facts (h : Nb R w B s j xs qa qb qu A C U) : w.cell? ⟨qu, 0, none⟩ = some (.int .u64 (U.1 : Int)) ∧ w.cell? ⟨qu, 1, none⟩ = some (.int .u64 (U.2 : Int)) ∧ w.cell? ⟨qa, 0, none⟩ = some (.int .u64 (A.1 : Int)) ∧ w.cell? ⟨qa, 1, none⟩ = some (.int .u64 (A.2 : Int)) ∧ w.cell? ⟨qb, 0, none⟩ = some (.int .u64 (C.1 : Int)) ∧ w.cell? ⟨qb, 1, none⟩ = some (.int .u64 (C.2 : Int)) := ⟨h.u.hi, h.u.lo, h.a.hi, h.a.lo, h.b.hi, h.b.lo⟩
end
set_option maxHeartbeats 40000000 in
set_option maxRecDepth 100000 in
theorem rat_ok (k : Nat) (hk : k < 8) (a : Option Addr) (cap : Nat) (t : List (Nat × Nat)) (x : Nat × Nat) (ht : ltE t) (hx : lt2 x) (h0 : 0 < t.length) (h9 : t.length ≤ 9) (hp : plk k t.length) (W : World) (ha : ERow W a t) :
    Calls Try.prog 43 #[.int .i64 (k : Int), .slice a t.length cap, .agg #[.int .u64 (x.1 : Int), .int .u64 (x.2 : Int)]] W fun e w' => e = .returned (.agg #[.int .u64 ((nvv t x (t.length - 1) 0).1 : Int), .int .u64 ((nvv t x (t.length - 1) 0).2 : Int)]) ∧ Below W.heap.size W w' := by
  obtain ⟨i0, hi, hz0, hz1, hz2⟩ := info_relem
  have HI : Hid (Try.prog.info? 34 = some i0 ∧ i0.zero = some (.agg #[.int .u64 0, .int .u64 0]) ∧ i0.size = 2 ∧ i0.bytes = 16) := ⟨hi, hz0, hz1, hz2⟩
  have HT : Hid (ltE t ∧ lt2 x ∧ 0 < t.length ∧ t.length ≤ 9 ∧ plk k t.length) := ⟨ht, hx, h0, h9, hp⟩
  have K0 : Hid (Ra W ((W.alloc (Obj.cells #[.int .u64 (x.1 : Int), .int .u64 (x.2 : Int)] 34)).alloc (Obj.cells #[.int .u64 0, .int .u64 0] 34)) x) := by
    have e1 : Ew (W.alloc (Obj.cells #[.int .u64 (x.1 : Int), .int .u64 (x.2 : Int)] 34)) W.heap.size x.1 x.2 := Ew.newN W x 34
    exact ⟨e1.alloc _, ⟨⟨by simp [go_sem], by simp [go_sem]⟩, by simp [go_sem], by simp [go_sem]⟩, by go_grown⟩
  have R0 : Hid (ERow ((W.alloc (Obj.cells #[.int .u64 (x.1 : Int), .int .u64 (x.2 : Int)] 34)).alloc (Obj.cells #[.int .u64 0, .int .u64 0] 34)) a (nrow t x 0)) := by show ERow _ _ _; rw [nrow_zero]; exact ha.below (by go_grown)
  have h9' : (t.length : Int) ≤ 9 := by omega
  clear hi hz0 hz1 hz2 ha ht hx hp
  go_enter Try.func43, Try.ntmps43
  go_wp2_with fail
  generalize ((W.alloc (Obj.cells #[.int .u64 (x.1 : Int), .int .u64 (x.2 : Int)] 34)).alloc (Obj.cells #[.int .u64 0, .int .u64 0] 34)) = w0 at *
  go_loopw [7, 8] (fun v u wr => ∃ (m : Nat) (a' : Option Addr) (cap' : Nat), m < t.length ∧ u = .int .i64 ((m + 1 : Nat) : Int) ∧ v = .slice a' (t.length - m) cap' ∧ Hid (ERow wr a' (nrow t x m) ∧ Ra W wr x)) (fun _ u _ => t.length + 1 - (intOf u).toNat)
  case atStart => exact ⟨0, a, cap, h0, rfl, rfl, ⟨R0.out, K0.out⟩⟩
  case round =>
    obtain ⟨m, a', cap', hm, rfl, rfl, HR⟩ := hrel
    clear K0 R0
    obtain ⟨L, hL⟩ : ∃ L, L = t.length - m := ⟨_, rfl⟩
    rw [← hL]
    by_cases hlt : m + 1 < t.length
    · have hLI : (((m + 1 : Nat) : Int)) < (t.length : Int) := by omega
      obtain ⟨m1, hm1⟩ : ∃ m1, m1 = m + 1 := ⟨_, rfl⟩
      have HM : Hid (m1 = m + 1 ∧ L = t.length - m ∧ m1 < t.length ∧ L ≤ 9) := ⟨hm1, hL, by omega, by omega⟩
      rw [← hm1] at hLI ⊢
      have hL9 : L ≤ 9 := by omega
      have hm9 : m1 ≤ 9 := by omega
      clear hm hL hm1 hlt
      go_wp2_with fail
      obtain ⟨R, rfl⟩ : ∃ R, R = wr := ⟨_, rfl⟩
      obtain ⟨B, hB⟩ : ∃ B, B = R.heap.size := ⟨_, rfl⟩
      have HB : Hid (B = R.heap.size ∧ W.heap.size + 1 < B) := ⟨hB, by rw [hB]; exact HR.out.2.r.toEl.lt⟩
      go_loopw [9, 10] (fun v u wq => ∃ j : Nat, j + 1 ≤ L ∧ u = .int .i64 j ∧ Hid (wq.ownsRow B 34 2 v j (flat ((nrow t x m1).take j)) ∧ Below B R wq ∧ B ≤ wq.heap.size)) (fun _ u _ => L - (intOf u).toNat)
      case atStart => exact ⟨0, by have := HM.out; omega, rfl, ⟨⟨by simp [flat], .inl ⟨rfl, rfl⟩⟩, Below.refl _ _, by rw [hB]; exact Nat.le_refl _⟩⟩
      case round =>
        obtain ⟨j, hj, rfl, HW⟩ := hrel
        clear hB
        by_cases hjl : j + 1 < L
        · have e1 : IntKind.i64.wrap ((j : Int) + 1) = ((j + 1 : Nat) : Int) := by rw [IntKind.wrap_i64]; omega
          have hj1 : ((j + 1 : Nat) : Int) < (L : Int) := by omega
          obtain ⟨bl, ol, rfl, hbl, c1, c0⟩ := HR.out.1.cells j (by rw [nrow_len, ← HM.out.2.1]; omega)
          obtain ⟨bl2, ol2, eb, _, d1, d0⟩ := HR.out.1.cells (j + 1) (by rw [nrow_len, ← HM.out.2.1]; omega)
          injection eb with eb
          injection eb with eb1 eb2
          subst eb1 eb2
          have HN : Hid ((nrow t x m1).take (j + 1) = (nrow t x m1).take j ++ [nvv t x m1 j]) := nrow_take (by have := HM.out; omega)
          have hlj : j < t.length - m := by have := HM.out; omega
          have hlj2 : j + 1 < t.length - m := by have := HM.out; omega
          have eu : el (nrow t x m) j = nvv t x m j := nrow_el hlj
          have ev : el (nrow t x m) (j + 1) = nvv t x m (j + 1) := nrow_el hlj2
          have hu : lt2 (nvv t x m j) := lt_nvv HT.out.1 x m j
          have hv : lt2 (nvv t x m (j + 1)) := lt_nvv HT.out.1 x m (j + 1)
          have hz : nvv t x m1 j = pm (xa (pm (xa x (pl (j + m1))) (nvv t x m j)) (pm (xa x (pl j)) (nvv t x m (j + 1)))) (Ln.iv (xa (pl j) (pl (j + m1)))) := by rw [HM.out.1]; rfl
          have hA : lt2 (pl j) := lt_pl (by omega)
          have hC : lt2 (pl (j + m1)) := lt_pl (by omega)
          have hD : ofE k (xa (pl j) (pl (j + m1))) := of_xor hk (HT.out.2.2.2.2 j (by have := HM.out; omega)) (HT.out.2.2.2.2 (j + m1) (by have := HM.out; omega))
          have e2 : IntKind.i64.wrap ((j : Int) + (m1 : Int)) = ((j + m1 : Nat) : Int) := by rw [IntKind.wrap_i64]; omega
          have HQ : Hid ((pl j).1 = 0 ∧ (pl j).2 = j ∧ (pl (j + m1)).1 = 0 ∧ (pl (j + m1)).2 = j + m1) := ⟨rfl, rfl, rfl, rfl⟩
          have hc1 : R.cell? ⟨bl, ol + j * 2, none⟩ = some (.int .u64 ((nvv t x m j).1 : Int)) := by rw [← eu]; exact c1
          have hc0 : R.cell? ⟨bl, ol + j * 2 + 1, none⟩ = some (.int .u64 ((nvv t x m j).2 : Int)) := by rw [← eu]; exact c0
          have hd1 : R.cell? ⟨bl, ol + (j + 1) * 2, none⟩ = some (.int .u64 ((nvv t x m (j + 1)).1 : Int)) := by rw [← ev]; exact d1
          have hd0 : R.cell? ⟨bl, ol + (j + 1) * 2 + 1, none⟩ = some (.int .u64 ((nvv t x m (j + 1)).2 : Int)) := by rw [← ev]; exact d0
          have HC : Hid (R.cell? ⟨bl, ol + j * 2, none⟩ = some (.int .u64 ((nvv t x m j).1 : Int)) ∧ R.cell? ⟨bl, ol + j * 2 + 1, none⟩ = some (.int .u64 ((nvv t x m j).2 : Int)) ∧ R.cell? ⟨bl, ol + (j + 1) * 2, none⟩ = some (.int .u64 ((nvv t x m (j + 1)).1 : Int)) ∧ R.cell? ⟨bl, ol + (j + 1) * 2 + 1, none⟩ = some (.int .u64 ((nvv t x m (j + 1)).2 : Int))) := ⟨hc1, hc0, hd1, hd0⟩
          clear c1 c0 d1 d0 hc1 hc0 hd1 hd0 eu ev hbl hlj hlj2
          have HZ : Hid (nvv t x m1 j = pm (xa (pm (xa x (pl (j + m1))) (nvv t x m j)) (pm (xa x (pl j)) (nvv t x m (j + 1)))) (Ln.iv (xa (pl j) (pl (j + m1))))) := hz
          clear hz
          generalize nvv t x m j = u at *
          generalize nvv t x m (j + 1) = v at *
          have H1 := Hid.mkN (lradd x (pl (j + m1)) HT.out.2.1 hC)
          have H2 := Hid.mkN (lrmul (xa x (pl (j + m1))) u (lt_xa HT.out.2.1 hC) hu)
          have H3 := Hid.mkN (lradd x (pl j) HT.out.2.1 hA)
          have H4 := Hid.mkN (lrmul (xa x (pl j)) v (lt_xa HT.out.2.1 hA) hv)
          have H5 := Hid.mkN (lradd (pm (xa x (pl (j + m1))) u) (pm (xa x (pl j)) v) (lt_pm _ _) (lt_pm _ _))
          have H6 := Hid.mkN (lradd (pl j) (pl (j + m1)) hA hC)
          have H7 := Hid.mkN (lrinv k (xa (pl j) (pl (j + m1))) (lt_xa hA hC) hD)
          have H8 := Hid.mkN (lrmul (xa (pm (xa x (pl (j + m1))) u) (pm (xa x (pl j)) v)) (Ln.iv (xa (pl j) (pl (j + m1)))) (lt_xa (lt_pm _ _) (lt_pm _ _)) (lt_iv _))
          clear hA hC hD hu hv
          generalize pm (xa (pm (xa x (pl (j + m1))) u) (pm (xa x (pl j)) v)) (Ln.iv (xa (pl j) (pl (j + m1)))) = z at *
          generalize Ln.iv (xa (pl j) (pl (j + m1))) = y7 at *
          generalize xa (pm (xa x (pl (j + m1))) u) (pm (xa x (pl j)) v) = U at *
          generalize pm (xa x (pl (j + m1))) u = y2 at *
          generalize pm (xa x (pl j)) v = y4 at *
          generalize xa x (pl (j + m1)) = y1 at *
          generalize xa x (pl j) = y3 at *
          generalize xa (pl j) (pl (j + m1)) = y6 at *
          go_upto_region 11 with fail
          rw [show Obj.cells #[.int .u64 0, .int .u64 ((j : Int) + (m1 : Int))] 34 = (Obj.cells #[.int .u64 ((pl (j + m1)).1 : Int), .int .u64 ((pl (j + m1)).2 : Int)] 34) by simp [pl], show Obj.cells #[.int .u64 0, .int .u64 (j : Int)] 34 = (Obj.cells #[.int .u64 ((pl j).1 : Int), .int .u64 ((pl j).2 : Int)] 34) by simp [pl]]
          have EA : Hid (Ew ((wr.alloc (Obj.cells #[.int .u64 ((pl j).1 : Int), .int .u64 ((pl j).2 : Int)] 34)).alloc (Obj.cells #[.int .u64 ((pl (j + m1)).1 : Int), .int .u64 ((pl (j + m1)).2 : Int)] 34)) wr.heap.size (pl j).1 (pl j).2) := (Ew.newN wr (pl j) 34).alloc _
          have EC : Hid (Ew ((wr.alloc (Obj.cells #[.int .u64 ((pl j).1 : Int), .int .u64 ((pl j).2 : Int)] 34)).alloc (Obj.cells #[.int .u64 ((pl (j + m1)).1 : Int), .int .u64 ((pl (j + m1)).2 : Int)] 34)) (wr.heap.size + 1) (pl (j + m1)).1 (pl (j + m1)).2) := ⟨⟨by simp [go_sem], by simp [go_sem]⟩, by simp [go_sem], by simp [go_sem]⟩
          have DW : Hid (Below B R ((wr.alloc (Obj.cells #[.int .u64 ((pl j).1 : Int), .int .u64 ((pl j).2 : Int)] 34)).alloc (Obj.cells #[.int .u64 ((pl (j + m1)).1 : Int), .int .u64 ((pl (j + m1)).2 : Int)] 34)) ∧ B ≤ ((wr.alloc (Obj.cells #[.int .u64 ((pl j).1 : Int), .int .u64 ((pl j).2 : Int)] 34)).alloc (Obj.cells #[.int .u64 ((pl (j + m1)).1 : Int), .int .u64 ((pl (j + m1)).2 : Int)] 34)).heap.size ∧ ((wr.alloc (Obj.cells #[.int .u64 ((pl j).1 : Int), .int .u64 ((pl j).2 : Int)] 34)).alloc (Obj.cells #[.int .u64 ((pl (j + m1)).1 : Int), .int .u64 ((pl (j + m1)).2 : Int)] 34)).ownsRow B 34 2 u9 j (flat ((nrow t x m1).take j)) ∧ (u9.ownBlock ≠ some wr.heap.size ∧ u9.ownBlock ≠ some (wr.heap.size + 1))) := by
            have hs := HW.out.2.2
            have d1 := HW.out.2.1.alloc hs (Obj.cells #[.int .u64 ((pl j).1 : Int), .int .u64 ((pl j).2 : Int)] 34)
            refine ⟨d1.alloc (by simp; omega) _, by simp; omega, (HW.out.1.alloc _).alloc _, fun h => ?_, fun h => ?_⟩
            · have := (HW.out.1.lt _ h).2; omega
            · have := (HW.out.1.lt _ h).2; omega
          clear HW
          generalize ((wr.alloc (Obj.cells #[.int .u64 ((pl j).1 : Int), .int .u64 ((pl j).2 : Int)] 34)).alloc (Obj.cells #[.int .u64 ((pl (j + m1)).1 : Int), .int .u64 ((pl (j + m1)).2 : Int)] 34)) = w3 at *
          generalize wr.heap.size + 1 = qb at *
          generalize wr.heap.size = qa at *
          generalize pl j = A at *
          generalize pl (j + m1) = C at *
          have hWB : W.heap.size + 1 < B := HB.out.2
          have FX : Hid (Rd w3 W.heap.size qa qb bl (ol + j * 2) (ol + (j + 1) * 2) x A C u v) := by
            have hlt : ∀ o w, R.cell? ⟨bl, o, none⟩ = some w → w3.cell? ⟨bl, o, none⟩ = some w := fun o w h => nup DW.out.1 h (by rw [HB.out.1]; exact cell_lt h)
            exact ⟨nup DW.out.1 HR.out.2.x.hi (by omega), nup DW.out.1 HR.out.2.x.lo (by omega), EA.out.hi, EA.out.lo, EC.out.hi, EC.out.lo, hlt _ _ HC.out.1, hlt _ _ HC.out.2.1, hlt _ _ HC.out.2.2.1, hlt _ _ HC.out.2.2.2⟩
          have F := FX.out
          unfold Rd at F
          have b1 : (0 : Int) ≤ (j : Int) := by omega
          have b2 : (j : Int) < (L : Int) := by omega
          have b3 : (0 : Int) ≤ (j : Int) + 1 := by omega
          have b4 : (j : Int) + 1 < (L : Int) := by omega
          clear HQ e2
          go_region_held3 (fun w => w.cell? ⟨W.heap.size, 0, none⟩ = some (.int .u64 (x.1 : Int)) ∧ w.cell? ⟨W.heap.size, 1, none⟩ = some (.int .u64 (x.2 : Int)) ∧ w.cell? ⟨qa, 0, none⟩ = some (.int .u64 (A.1 : Int)) ∧ w.cell? ⟨qa, 1, none⟩ = some (.int .u64 (A.2 : Int)) ∧ w.cell? ⟨qb, 0, none⟩ = some (.int .u64 (C.1 : Int)) ∧ w.cell? ⟨qb, 1, none⟩ = some (.int .u64 (C.2 : Int)) ∧ w.cell? ⟨bl, ol + j * 2, none⟩ = some (.int .u64 (u.1 : Int)) ∧ w.cell? ⟨bl, ol + j * 2 + 1, none⟩ = some (.int .u64 (u.2 : Int)) ∧ w.cell? ⟨bl, ol + (j + 1) * 2, none⟩ = some (.int .u64 (v.1 : Int)) ∧ w.cell? ⟨bl, ol + (j + 1) * 2 + 1, none⟩ = some (.int .u64 (v.2 : Int))) (first | (go_keep; done) | exact f1 | exact f2 | exact f3 | exact f4 | exact f5 | exact FX.out.below (nend1 D5.out X5.out.1 X5.out.2 _).2 | exact FX.out.below (nend2 D5.out _ _).2) (first | (go_at_call_of 42 (#[.agg #[.int .u64 (x.1 : Int), .int .u64 (x.2 : Int)], .agg #[.int .u64 (C.1 : Int), .int .u64 (C.2 : Int)]] : Array Value); refine (H1.out.go _).mono ?_; rintro e v1 ⟨rfl, hb⟩; have D1 : Hid (Below w3.heap.size w3 v1) := (by first | exact (Below.refl _ _).drew.trans hb | exact ((Below.refl _ _).alloc (Nat.le_refl _) _).trans (hb.mono (by simp)) | exact (((Below.refl _ _).alloc (Nat.le_refl _) _).drew).trans (hb.mono (by simp)) | exact ((Below.refl _ _).drew.alloc (Nat.le_refl _) _).trans (hb.mono (by simp)) | exact hb); have f1 := FX.out.below D1.out; (try unfold Rd at f1); (first | (have X1 := Hid.mkN (And.intro ((Ew.roomN w3 34).drew.below hb) (Nat.le_refl w3.heap.size))) | (have X1 := Hid.mkN (And.intro ((Ew.roomN w3.drew 34).below hb) (Nat.le_refl w3.heap.size))) | (have X1 := Hid.mkN (And.intro ((Ew.roomN w3 34).below hb) (Nat.le_refl w3.heap.size))) | skip); clear hb) | (go_at_call_of 35 (#[.agg #[.int .u64 (y1.1 : Int), .int .u64 (y1.2 : Int)], .agg #[.int .u64 (u.1 : Int), .int .u64 (u.2 : Int)]] : Array Value); refine (H2.out.go _).mono ?_; rintro e v2 ⟨rfl, hb⟩; have D2 : Hid (Below w3.heap.size w3 v2) := (by first | exact D1.out.trans (hb.mono D1.out.size) | exact (D1.out.alloc D1.out.size _).trans (hb.mono (D1.out.alloc D1.out.size _).size)); have f2 := FX.out.below D2.out; (try unfold Rd at f2); (first | (have X2 := Hid.mkN (And.intro (X1.out.1.below hb) X1.out.2)) | (have X2 := Hid.mkN (And.intro ((Ew.roomN v1 34).below hb) D1.out.size)) | skip); clear hb) | (go_at_call_of 42 (#[.agg #[.int .u64 (x.1 : Int), .int .u64 (x.2 : Int)], .agg #[.int .u64 (A.1 : Int), .int .u64 (A.2 : Int)]] : Array Value); refine (H3.out.go _).mono ?_; rintro e v3 ⟨rfl, hb⟩; have D3 : Hid (Below w3.heap.size w3 v3) := (by first | exact D2.out.trans (hb.mono D2.out.size) | exact (D2.out.alloc D2.out.size _).trans (hb.mono (D2.out.alloc D2.out.size _).size)); have f3 := FX.out.below D3.out; (try unfold Rd at f3); (first | (have X3 := Hid.mkN (And.intro (X2.out.1.below hb) X2.out.2)) | (have X3 := Hid.mkN (And.intro ((Ew.roomN v2 34).below hb) D2.out.size)) | skip); clear hb) | (go_at_call_of 35 (#[.agg #[.int .u64 (y3.1 : Int), .int .u64 (y3.2 : Int)], .agg #[.int .u64 (v.1 : Int), .int .u64 (v.2 : Int)]] : Array Value); refine (H4.out.go _).mono ?_; rintro e v4 ⟨rfl, hb⟩; have D4 : Hid (Below w3.heap.size w3 v4) := (by first | exact D3.out.trans (hb.mono D3.out.size) | exact (D3.out.alloc D3.out.size _).trans (hb.mono (D3.out.alloc D3.out.size _).size)); have f4 := FX.out.below D4.out; (try unfold Rd at f4); (first | (have X4 := Hid.mkN (And.intro (X3.out.1.below hb) X3.out.2)) | (have X4 := Hid.mkN (And.intro ((Ew.roomN v3 34).below hb) D3.out.size)) | skip); clear hb) | (go_at_call_of 42 (#[.agg #[.int .u64 (y2.1 : Int), .int .u64 (y2.2 : Int)], .agg #[.int .u64 (y4.1 : Int), .int .u64 (y4.2 : Int)]] : Array Value); refine (H5.out.go _).mono ?_; rintro e v5 ⟨rfl, hb⟩; have D5 : Hid (Below w3.heap.size w3 v5) := (by first | exact D4.out.trans (hb.mono D4.out.size) | exact (D4.out.alloc D4.out.size _).trans (hb.mono (D4.out.alloc D4.out.size _).size)); have f5 := FX.out.below D5.out; (try unfold Rd at f5); (first | (have X5 := Hid.mkN (And.intro (X4.out.1.below hb) X4.out.2)) | (have X5 := Hid.mkN (And.intro ((Ew.roomN v4 34).below hb) D4.out.size)) | skip); clear hb; (first | (obtain ⟨⟨r1, r0⟩, t1, t0⟩ := X5.out.1) | skip)))
          all_goals
            (first
              | (obtain ⟨qu, hqu, bqu⟩ : ∃ q', q' = _ ∧ Ew v5 q' 0 0 := ⟨_, rfl, X5.out.1⟩
                 have hge : w3.heap.size ≤ qu := by rw [hqu]; exact X5.out.2
                 rw [← hqu]
                 have KV := Hid.mkN (And.intro (nend1 D5.out bqu hge U) hge)
                 clear bqu hge hqu X5 r1 r0 t1 t0
                 generalize ((v5.setCell ⟨qu, 0, none⟩ (.int .u64 (U.1 : Int))).setCell ⟨qu, 1, none⟩ (.int .u64 (U.2 : Int))) = w6 at *)
              | (obtain ⟨qu, hqu⟩ : ∃ q', q' = v5.heap.size := ⟨_, rfl⟩
                 have hge : w3.heap.size ≤ qu := by rw [hqu]; exact D5.out.size
                 have KV := Hid.mkN (And.intro (nend2 D5.out U 34) hge)
                 rw [← hqu] at KV ⊢
                 clear hqu hge
                 generalize (v5.alloc (Obj.cells #[.int .u64 (U.1 : Int), .int .u64 (U.2 : Int)] 34)) = w6 at *))
            have O : Hid (Nb R w6 B u9 j (flat ((nrow t x m1).take j)) qa qb qu A C U) := ⟨own_below DW.out.2.2.1 KV.out.1.2, EA.out.below KV.out.1.2, EC.out.below KV.out.1.2, KV.out.1.1, DW.out.1.trans (KV.out.1.2.mono DW.out.2.1), Nat.le_trans DW.out.2.1 KV.out.1.2.size, DW.out.2.2.2.1, DW.out.2.2.2.2, fun h => by have h1 := (DW.out.2.2.1.lt _ h).2; have h2 := KV.out.2; omega⟩
            clear KV F f1 f2 f3 f4 f5 D1 D2 D4 D5 FX EA EC DW D3
            go_wp2_with fail
            have F := O.out.facts
            have lB := O.out.hB
            go_region_held3 (fun w => w.cell? ⟨qu, 0, none⟩ = some (.int .u64 (U.1 : Int)) ∧ w.cell? ⟨qu, 1, none⟩ = some (.int .u64 (U.2 : Int)) ∧ w.cell? ⟨qa, 0, none⟩ = some (.int .u64 (A.1 : Int)) ∧ w.cell? ⟨qa, 1, none⟩ = some (.int .u64 (A.2 : Int)) ∧ w.cell? ⟨qb, 0, none⟩ = some (.int .u64 (C.1 : Int)) ∧ w.cell? ⟨qb, 1, none⟩ = some (.int .u64 (C.2 : Int))) (first | (go_keep; done) | exact F | exact O.out.facts) (first | (go_at_call 42; refine (H6.out.go _).mono ?_; rintro e w' ⟨rfl, hb'⟩; have O' := Hid.mkN (Nb.below (w' := w') (by first | exact O.out | exact O.out.drew) hb'); clear F O hb' lB; have O := O'; clear O'; have F := O.out.facts; have lB := O.out.hB) | (go_at_call 76; refine (H7.out.go _).mono ?_; rintro e w' ⟨rfl, hb'⟩; have O' := Hid.mkN (Nb.below (w' := w') (by first | exact O.out | exact O.out.drew) hb'); clear F O hb' lB; have O := O'; clear O'; have F := O.out.facts; have lB := O.out.hB) | (go_at_call 35; refine (H8.out.go _).mono ?_; rintro e w' ⟨rfl, hb'⟩; have O' := Hid.mkN (Nb.below (w' := w') (by first | exact O.out | exact O.out.drew) hb'); clear F O hb' lB; have O := O'; clear O'; have F := O.out.facts; have lB := O.out.hB) | (refine step_append_lies _ (by rfl) _ _ _ (by rfl) B 34 i0 _ 2 16 Try.underlying40 HI.out.1 HI.out.2.1 HI.out.2.2.1 HI.out.2.2.2 rfl (by omega) u9 j _ (by rfl) (O.out.own.alloc _) ⟨w'.heap.size, 0, none⟩ 1 1 [.int .u64 (z.1 : Int), .int .u64 (z.2 : Int)] (by rfl) (by rfl) (World.news_of_block (cs := #[.int .u64 (z.1 : Int), .int .u64 (z.2 : Int)]) (t := 34) (fr := (0, 0)) (heap_alloc_new w' _)) (by simp [Value.oneCell']) (by omega) (by simp only [maxLen]; omega) (by omega) (by simp; omega) (w'.heap.size + 1) (by simp) ?_; intro gg cap w5 hown5 hgrow hat hlt5; have O' : Hid ((w5.ownsRow B 34 2 (.slice (some ⟨gg, 0, none⟩) (j + 1) cap) (j + 1) (flat ((nrow t x m1).take j) ++ [.int .u64 (z.1 : Int), .int .u64 (z.2 : Int)]) ∧ Below B R w5 ∧ B ≤ w5.heap.size) ∧ Ew w5 qa A.1 A.2 ∧ Ew w5 qb C.1 C.2 ∧ Ew w5 qu U.1 U.2) := ⟨⟨hown5, (O.out.d.alloc lB _).grown hgrow (by simp; omega) (fun g hg => (O.out.own.lt g hg).1), (by have := hgrow.size; simp at this; omega)⟩, Ew.farN hgrow (O.out.a.alloc _) O.out.na, Ew.farN hgrow (O.out.b.alloc _) O.out.nb, Ew.farN hgrow (O.out.u.alloc _) O.out.nu⟩; clear O hown5 hgrow hat hlt5; have O := O'; clear O'; have F : _ ∧ _ ∧ _ ∧ _ ∧ _ ∧ _ := ⟨O.out.2.2.2.hi, O.out.2.2.2.lo, O.out.2.1.hi, O.out.2.1.lo, O.out.2.2.1.hi, O.out.2.2.1.lo⟩))
            go_wp2
            refine ⟨⟨j + 1, by omega, by simp, ⟨?_, O.out.1.2.1, O.out.1.2.2⟩⟩, by simp [intOf]; omega⟩
            rw [HN.out, flat_snoc, HZ.out]
            exact O.out.1.1
        · have hjn : ¬ (j : Int) + 1 < (L : Int) := by omega
          have hje : j = t.length - m1 := by have := HM.out; omega
          have hown' : wr.ownsRow B 34 2 u9 (nrow t x m1).length (flat (nrow t x m1)) := by
            have := HW.out.1
            rw [List.take_of_length_le (by rw [nrow_len, hje]; exact Nat.le_refl _)] at this
            rw [nrow_len, ← hje]; exact this
          obtain ⟨a2, cap2, hv', hEr⟩ := own_row hown'
          rw [nrow_len] at hv'
          have HRN : Hid (ERow wr a2 (nrow t x m1) ∧ Ra W wr x) := ⟨hEr, HR.out.2.below (by rw [← HB.out.1]; exact HW.out.2.1)⟩
          subst hv'
          have HJ : Hid (m1 < t.length) := HM.out.2.2.1
          clear hown' hEr HW HR HB HM hje
          go_wp2
          exact ⟨⟨m1, a2, cap2, HJ.out, by simp, rfl, HRN.out⟩, by have := HJ.out; simp [intOf]; omega⟩
    · have hmn : ¬ (((m + 1 : Nat) : Int)) < (t.length : Int) := by omega
      obtain rfl : L = 1 := by omega
      have hme : m = t.length - 1 := by omega
      obtain ⟨bl, ol, rfl, hbl, c1, c0⟩ := HR.out.1.cells 0 (by rw [nrow_len]; omega)
      rw [show (nrow t x m).getD 0 (0, 0) = nvv t x (t.length - 1) 0 by rw [← hme]; exact nrow_el (by omega)] at c1 c0
      rw [Nat.zero_mul, Nat.add_zero] at c1 c0
      obtain ⟨y, hy⟩ : ∃ y, y = nvv t x (t.length - 1) 0 := ⟨_, rfl⟩
      rw [← hy] at c1 c0
      have HY : Hid (y = nvv t x (t.length - 1) 0) := hy
      clear hy
      obtain ⟨⟨r1, r0⟩, t1, t0⟩ := HR.out.2.r
      obtain ⟨m1, hm1⟩ : ∃ m1, m1 = m + 1 := ⟨_, rfl⟩
      rw [← hm1] at hmn ⊢
      clear hm hL hme hlt hm1 hbl
      go_wp2
      refine bodyPost_ret (v := .agg #[.int .u64 (y.1 : Int), .int .u64 (y.2 : Int)]) (by simp [results, Try.results43, go_sem, *]) rfl ⟨by rw [HY.out], ?_⟩
      exact below2 (p := W.heap.size + 1) HR.out.2.d (by omega) _ _
end Go.Proofs.Ytfhojakhoobnhaa
