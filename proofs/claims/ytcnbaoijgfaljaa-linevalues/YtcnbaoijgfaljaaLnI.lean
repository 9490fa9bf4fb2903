/- The walk of LineSums over the seat's translation. -/
import Derived.Test.YtcnbaoijgfaljaaLnF
import Derived.Deep.AppendLies
namespace Go.Proofs.Ytcnbaoijgfaljaa
open Go.RowKit
open Cb Ln
open Tw (pm)

theorem lup {w w' : World} {B b o : Nat} {v : Value} (hb : Below B w w') (h : w.cell? ⟨b, o, none⟩ = some v) (hl : b < B) : w'.cell? ⟨b, o, none⟩ = some v := by
  rw [hb.cell (p := ⟨b, o, none⟩) hl]; exact h
/-- Both lists and both elements in their boxes. -/
structure Sv (W w : World) (s0 s1 : Value) (r p : Nat × Nat) : Prop where
  t0 : w.cell? ⟨W.heap.size, 0, none⟩ = some s0
  t1 : w.cell? ⟨W.heap.size, 1, none⟩ = some s1
  r1 : w.cell? ⟨W.heap.size + 1, 0, none⟩ = some (.int .u64 (r.1 : Int))
  r0 : w.cell? ⟨W.heap.size + 1, 1, none⟩ = some (.int .u64 (r.2 : Int))
  p1 : w.cell? ⟨W.heap.size + 1, 2, none⟩ = some (.int .u64 (p.1 : Int))
  p0 : w.cell? ⟨W.heap.size + 1, 3, none⟩ = some (.int .u64 (p.2 : Int))
  d : Below W.heap.size W w
theorem Sv.upto {W w w' : World} {B : Nat} {s0 s1 : Value} {r p : Nat × Nat} (h : Sv W w s0 s1 r p) (hb : Below B w w') (hB : W.heap.size + 1 < B) : Sv W w' s0 s1 r p :=
  ⟨lup hb h.t0 (by omega), lup hb h.t1 (by omega), lup hb h.r1 (by omega), lup hb h.r0 (by omega), lup hb h.p1 (by omega), lup hb h.p0 (by omega), h.d.trans (hb.mono (by omega))⟩
theorem Sv.below {W w w' : World} {s0 s1 : Value} {r p : Nat × Nat} (h : Sv W w s0 s1 r p) (hb : Below w.heap.size w w') : Sv W w' s0 s1 r p := h.upto hb (cell_lt h.r1)
theorem Sv.alloc {W w : World} {s0 s1 : Value} {r p : Nat × Nat} (h : Sv W w s0 s1 r p) (o : Obj) : Sv W (w.alloc o) s0 s1 r p := h.below ((Below.refl _ _).alloc (Nat.le_refl _) o)
theorem Sv.start (W : World) (a0 a1 : Option Addr) (n0 n1 c0 c1 : Nat) (r p : Nat × Nat) : Sv W ((W.alloc (Obj.cells #[.slice a0 n0 c0, .slice a1 n1 c1] 51)).alloc (Obj.cells #[.int .u64 (r.1 : Int), .int .u64 (r.2 : Int), .int .u64 (p.1 : Int), .int .u64 (p.2 : Int)] 52)) (.slice a0 n0 c0) (.slice a1 n1 c1) r p :=
  ⟨by simp [go_sem], by simp [go_sem], by simp [go_sem], by simp [go_sem], by simp [go_sem], by simp [go_sem], by go_grown⟩
structure Sl (W w : World) (B : Nat) (s0 s1 : Value) (r p : Nat × Nat) : Prop where
  sv : Sv W w s0 s1 r p
  hB : W.heap.size + 1 < B ∧ B ≤ w.heap.size
theorem Sl.upto {W w w' : World} {B : Nat} {s0 s1 : Value} {r p : Nat × Nat} (h : Sl W w B s0 s1 r p) (hb : Below B w w') : Sl W w' B s0 s1 r p := ⟨h.sv.upto hb h.hB.1, h.hB.1, by have := h.hB; have := hb.size; omega⟩
theorem Sl.below {W w w' : World} {B : Nat} {s0 s1 : Value} {r p : Nat × Nat} (h : Sl W w B s0 s1 r p) (hb : Below w.heap.size w w') : Sl W w' B s0 s1 r p := h.upto (hb.mono h.hB.2)
theorem Sl.drew {W w : World} {B : Nat} {s0 s1 : Value} {r p : Nat × Nat} (h : Sl W w B s0 s1 r p) : Sl W w.drew B s0 s1 r p := h.below (Below.refl _ _).drew
/-- An element that lies below W. -/
def At7 (W : World) (b o : Nat) (x : Nat × Nat) : Prop := b < W.heap.size ∧ W.cell? ⟨b, o, none⟩ = some (.int .u64 (x.1 : Int)) ∧ W.cell? ⟨b, o + 1, none⟩ = some (.int .u64 (x.2 : Int))
theorem At7.up {W w : World} {b o : Nat} {x : Nat × Nat} (h : At7 W b o x) (d : Below W.heap.size W w) : w.cell? ⟨b, o, none⟩ = some (.int .u64 (x.1 : Int)) ∧ w.cell? ⟨b, o + 1, none⟩ = some (.int .u64 (x.2 : Int)) := ⟨lup d h.2.1 h.1, lup d h.2.2 h.1⟩
theorem erow_at7 {W : World} {a : Option Addr} {es : List (Nat × Nat)} (h : ERow W a es) {j : Nat} (hj : j < es.length) : ∃ b off : Nat, a = some ⟨b, off, none⟩ ∧ At7 W b (off + j * 2) (el es j) := by
  obtain ⟨b, off, e, h1, h2, h3⟩ := h.cells j hj
  exact ⟨b, off, e, h1, h2, h3⟩
theorem Sl.facts {W w : World} {B : Nat} {s0 s1 : Value} {r p x y : Nat × Nat} {bx ofx byy ofy : Nat} (h : Sl W w B s0 s1 r p) (X : At7 W bx ofx x) (Y : At7 W byy ofy y) :
    w.cell? ⟨W.heap.size, 0, none⟩ = some s0 ∧ w.cell? ⟨W.heap.size, 1, none⟩ = some s1 ∧ w.cell? ⟨W.heap.size + 1, 0, none⟩ = some (.int .u64 (r.1 : Int)) ∧ w.cell? ⟨W.heap.size + 1, 1, none⟩ = some (.int .u64 (r.2 : Int)) ∧ w.cell? ⟨bx, ofx, none⟩ = some (.int .u64 (x.1 : Int)) ∧ w.cell? ⟨bx, ofx + 1, none⟩ = some (.int .u64 (x.2 : Int)) ∧ w.cell? ⟨byy, ofy, none⟩ = some (.int .u64 (y.1 : Int)) ∧ w.cell? ⟨byy, ofy + 1, none⟩ = some (.int .u64 (y.2 : Int)) :=
  ⟨h.sv.t0, h.sv.t1, h.sv.r1, h.sv.r0, (X.up h.sv.d).1, (X.up h.sv.d).2, (Y.up h.sv.d).1, (Y.up h.sv.d).2⟩
theorem comb_take (r : Nat × Nat) (t s : List (Nat × Nat)) (j : Nat) (h : j < t.length) : (comb r t s).take (j + 1) = (comb r t s).take j ++ [xa (el t j) (pm r (el s j))] := by
  rw [take_sn _ j (by rw [comb_len]; exact h)]
  congr 2
  exact comb_el h
/-- The factor, and three values in their boxes. -/
structure Se (W w : World) (r : Nat × Nat) (qa qb qc : Nat) (va vb z : Nat × Nat) : Prop where
  r1 : w.cell? ⟨W.heap.size + 1, 0, none⟩ = some (.int .u64 (r.1 : Int))
  r0 : w.cell? ⟨W.heap.size + 1, 1, none⟩ = some (.int .u64 (r.2 : Int))
  a : El w qa va.1 va.2
  b : El w qb vb.1 vb.2
  c : El w qc z.1 z.2
  d : Below W.heap.size W w
theorem Se.below {W w w' : World} {r : Nat × Nat} {qa qb qc : Nat} {va vb z : Nat × Nat} (h : Se W w r qa qb qc va vb z) (hb : Below w.heap.size w w') : Se W w' r qa qb qc va vb z := ⟨keepc hb h.r1, keepc hb h.r0, h.a.below hb, h.b.below hb, h.c.below hb, h.d.trans (hb.mono h.d.size)⟩
theorem Se.drew {W w : World} {r : Nat × Nat} {qa qb qc : Nat} {va vb z : Nat × Nat} (h : Se W w r qa qb qc va vb z) : Se W w.drew r qa qb qc va vb z := h.below (Below.refl _ _).drew
theorem Se.facts {W w : World} {r : Nat × Nat} {qa qb qc : Nat} {va vb z : Nat × Nat} (h : Se W w r qa qb qc va vb z) : w.cell? ⟨W.heap.size + 1, 0, none⟩ = some (.int .u64 (r.1 : Int)) ∧ w.cell? ⟨W.heap.size + 1, 1, none⟩ = some (.int .u64 (r.2 : Int)) ∧ w.cell? ⟨qa, 0, none⟩ = some (.int .u64 (va.1 : Int)) ∧ w.cell? ⟨qa, 1, none⟩ = some (.int .u64 (va.2 : Int)) ∧ w.cell? ⟨qb, 0, none⟩ = some (.int .u64 (vb.1 : Int)) ∧ w.cell? ⟨qb, 1, none⟩ = some (.int .u64 (vb.2 : Int)) ∧ w.cell? ⟨qc, 0, none⟩ = some (.int .u64 (z.1 : Int)) ∧ w.cell? ⟨qc, 1, none⟩ = some (.int .u64 (z.2 : Int)) :=
  ⟨h.r1, h.r0, h.a.hi, h.a.lo, h.b.hi, h.b.lo, h.c.hi, h.c.lo⟩
theorem lel_new (w : World) (v : Nat × Nat) (T : TypeId) : El (w.alloc (Obj.cells #[.int .u64 (v.1 : Int), .int .u64 (v.2 : Int)] T)) w.heap.size v.1 v.2 := ⟨by simp [go_sem], by simp [go_sem]⟩
set_option maxHeartbeats 20000000 in
set_option maxRecDepth 100000 in
theorem ls_ok (k : Nat) (hk : k < 8) (a0 a1 : Option Addr) (c0 c1 : Nat) (ts ss : List (Nat × Nat)) (r p : Nat × Nat) (hr : lt2 r) (or : ofE k r) (hp : lt2 p) (op : ofE k p) (lt1 : ltE ts) (lt2' : ltE ss) (h0 : 0 < ts.length) (h9 : ts.length ≤ 9) (hl : ss.length = ts.length) (hE : lmy (k : Int) ts = 0) (hE2 : lmy (k : Int) ss = 0) (W : World) (hT : ERow W a0 ts) (hS : ERow W a1 ss) :
    Calls Try.prog 7 #[.int .i64 (k : Int), .agg #[.slice a0 ts.length c0, .slice a1 ts.length c1], .agg #[.int .u64 (r.1 : Int), .int .u64 (r.2 : Int), .int .u64 (p.1 : Int), .int .u64 (p.2 : Int)]] W fun e w' => e = .returned (.bool true) ∧ Below W.heap.size W w' := by
  have AW : Hid (Ret 9 #[] (.bool true)) := awake17
  obtain ⟨_, _, e1, _, _, hpl, ot, hf⟩ := lmy_zero hE
  obtain rfl := Int.ofNat_inj.1 e1
  obtain ⟨_, _, e2, _, _, _, os, hf2⟩ := lmy_zero hE2
  obtain rfl := Int.ofNat_inj.1 e2
  have HM : Hid (∀ w, Below W.heap.size W w → Calls Try.prog 11 #[.int .i64 (k : Int), .slice a0 ts.length c0] w fun e w' => e = .returned (.int .i64 0) ∧ Below w.heap.size w w') := fun w hb => by
    have := lmay (k : Int) a0 c0 ts lt1 (by omega) w (hT.below hb)
    rw [hE] at this; exact this
  have HM2 : Hid (∀ w, Below W.heap.size W w → Calls Try.prog 11 #[.int .i64 (k : Int), .slice a1 ts.length c1] w fun e w' => e = .returned (.int .i64 0) ∧ Below w.heap.size w w') := fun w hb => by
    have := lmay (k : Int) a1 c1 ss lt2' (by omega) w (hS.below hb)
    rw [hE2, hl] at this; exact this
  have HO1 : Hid (Ret 12 #[.int .i64 (k : Int), .agg #[.int .u64 (r.1 : Int), .int .u64 (r.2 : Int)]] (.bool true)) := by
    have := rof_any (k : Int) r.1 r.2 hr.1 hr.2
    rw [show ofB (k : Int) (r.1 : Int) (r.2 : Int) = true from or] at this; exact this
  have HO2 : Hid (Ret 12 #[.int .i64 (k : Int), .agg #[.int .u64 (p.1 : Int), .int .u64 (p.2 : Int)]] (.bool true)) := by
    have := rof_any (k : Int) p.1 p.2 hp.1 hp.2
    rw [show ofB (k : Int) (p.1 : Int) (p.2 : Int) = true from op] at this; exact this
  have HA : Hid (∀ w, Below W.heap.size W w → Calls Try.prog 10 #[.int .i64 (k : Int), .slice a0 ts.length c0, .agg #[.int .u64 (p.1 : Int), .int .u64 (p.2 : Int)]] w fun e w' => e = .returned (.tuple #[.agg #[.int .u64 ((atv ts p).1 : Int), .int .u64 ((atv ts p).2 : Int)], .int .i64 0]) ∧ Below w.heap.size w w') := fun w hb => lat_ok k hk a0 c0 ts p lt1 hp h0 h9 hf ot op w (hT.below hb)
  have HB : Hid (∀ w, Below W.heap.size W w → Calls Try.prog 10 #[.int .i64 (k : Int), .slice a1 ts.length c1, .agg #[.int .u64 (p.1 : Int), .int .u64 (p.2 : Int)]] w fun e w' => e = .returned (.tuple #[.agg #[.int .u64 ((atv ss p).1 : Int), .int .u64 ((atv ss p).2 : Int)], .int .i64 0]) ∧ Below w.heap.size w w') := fun w hb => by
    have := lat_ok k hk a1 c1 ss p lt2' hp (by omega) (by omega) hf2 os op w (hS.below hb)
    rw [hl] at this; exact this
  have lc : ltE (comb r ts ss) := by
    intro e he
    simp only [comb, List.mem_map, List.mem_range] at he
    obtain ⟨i, _, rfl⟩ := he
    exact lt_xa (lt1.at i) (lt_pm _ _)
  have oc : ofT k (comb r ts ss) := by
    intro e he
    simp only [comb, List.mem_map, List.mem_range] at he
    obtain ⟨i, _, rfl⟩ := he
    exact of_xor hk (ot.el hk i) (of_pm hk or (os.el hk i))
  have HC : Hid (∀ (w : World) (a : Option Addr) (cap : Nat), ERow w a (comb r ts ss) → Calls Try.prog 10 #[.int .i64 (k : Int), .slice a ts.length cap, .agg #[.int .u64 (p.1 : Int), .int .u64 (p.2 : Int)]] w fun e w' => e = .returned (.tuple #[.agg #[.int .u64 ((xa (atv ts p) (pm r (atv ss p))).1 : Int), .int .u64 ((xa (atv ts p) (pm r (atv ss p))).2 : Int)], .int .i64 0]) ∧ Below w.heap.size w w') := fun w a cap hw => by
    have := lat_ok k hk a cap (comb r ts ss) p lc hp (by rw [comb_len]; exact h0) (by rw [comb_len]; exact h9) (by rw [comb_len]; exact hf) oc op w hw
    rw [comb_len, atv_comb p hl] at this; exact this
  have hva : lt2 (atv ts p) := lt_atv _ _
  have hvb : lt2 (atv ss p) := lt_atv _ _
  have ovb : ofE k (atv ss p) := of_atv hk os op (by rw [hl]; exact hpl)
  generalize atv ts p = va at *
  generalize atv ss p = vb at *
  obtain ⟨i0, hi, hz0, hz1, hz2⟩ := info_elem
  have HI : Hid (Try.prog.info? 25 = some i0 ∧ i0.zero = some (.agg #[.int .u64 0, .int .u64 0]) ∧ i0.size = 2 ∧ i0.bytes = 16) := ⟨hi, hz0, hz1, hz2⟩
  have K0 : Hid (Sv W _ _ _ _ _) := Sv.start W a0 a1 ts.length ts.length c0 c1 r p
  have HT : Hid (ERow W a0 ts) := hT
  have HS : Hid (ERow W a1 ss) := hS
  have HL : Hid (ts.length ≤ 9 ∧ ss.length = ts.length) := ⟨h9, hl⟩
  have HE : Hid (∀ j, lt2 (el ts j) ∧ lt2 (el ss j) ∧ ofE k (el ss j)) := fun j => ⟨ltE_el lt1 j, ltE_el lt2' j, os.el hk j⟩
  have HV : Hid (lt2 va ∧ lt2 vb ∧ ofE k vb ∧ lt2 r ∧ ofE k r) := ⟨hva, hvb, ovb, hr, or⟩
  have g9 : ¬ (9 : Int) < (ts.length : Int) := by omega
  clear hi hz0 hz1 hz2 hT hS lt1 lt2' os ot oc lc hvb hva ovb hr or hp op hl h9 h0 hE hE2 hf hf2 e1 e2 hpl
  obtain ⟨t0, t1, r1, r0, p1, p0, _⟩ := K0.out
  go_enter Try.func7, Try.ntmps7
  go_wp2_with (first | (go_at_call_of 11 (#[.int .i64 (k : Int), .slice a0 ts.length c0] : Array Value); refine (HM.out _ K0.out.d).mono ?_; rintro e w1 ⟨rfl, hb1⟩; have K1 : Hid (Sv W w1 (.slice a0 ts.length c0) (.slice a1 ts.length c1) r p) := K0.out.below hb1; clear hb1 HM K0 t0 t1 r1 r0 p1 p0; obtain ⟨t0, t1, r1, r0, p1, p0, _⟩ := K1.out) | (go_at_call 11; refine (HM2.out _ K1.out.d).mono ?_; rintro e w2 ⟨rfl, hb2⟩; have K2 : Hid (Sv W w2 (.slice a0 ts.length c0) (.slice a1 ts.length c1) r p) := K1.out.below hb2; clear hb2 HM2 K1 t0 t1 r1 r0 p1 p0; obtain ⟨t0, t1, r1, r0, p1, p0, _⟩ := K2.out) | (go_at_call_of 12 (#[.int .i64 (k : Int), .agg #[.int .u64 (r.1 : Int), .int .u64 (r.2 : Int)]] : Array Value); refine (HO1.out.go _).mono ?_; rintro e w3 ⟨rfl, hb3⟩; have K3 : Hid (Sv W w3 (.slice a0 ts.length c0) (.slice a1 ts.length c1) r p) := K2.out.below hb3; clear hb3 HO1 K2 t0 t1 r1 r0 p1 p0; obtain ⟨t0, t1, r1, r0, p1, p0, _⟩ := K3.out) | (go_at_call 12; refine (HO2.out.go _).mono ?_; rintro e w4 ⟨rfl, hb4⟩; have K4 : Hid (Sv W w4 (.slice a0 ts.length c0) (.slice a1 ts.length c1) r p) := K3.out.below hb4; clear hb4 HO2 K3 t0 t1 r1 r0 p1 p0; obtain ⟨t0, t1, r1, r0, p1, p0, _⟩ := K4.out))
  have KL : Sl W w4 w4.heap.size (.slice a0 ts.length c0) (.slice a1 ts.length c1) r p := ⟨K4.out, cell_lt K4.out.r1, Nat.le_refl _⟩
  clear K4 t0 t1 r1 r0 p1 p0
  obtain ⟨B, hB⟩ : ∃ B, B = w4.heap.size := ⟨_, rfl⟩
  rw [← hB] at KL
  clear hB
  go_loopw [7, 8] (fun v u wr => ∃ j : Nat, j ≤ ts.length ∧ u = .int .i64 j ∧ wr.ownsRow B 25 2 v j (flat ((comb r ts ss).take j)) ∧ Sl W wr B (.slice a0 ts.length c0) (.slice a1 ts.length c1) r p) (fun _ u _ => ts.length - (intOf u).toNat)
  case atStart => exact ⟨0, Nat.zero_le _, rfl, ⟨by simp [flat], .inl ⟨rfl, rfl⟩⟩, KL⟩
  case round =>
    obtain ⟨j, hj, rfl, hown, K1⟩ := hrel
    clear KL
    by_cases hlt : j < ts.length
    · obtain ⟨b0, o0, rfl, X⟩ := erow_at7 HT.out hlt
      obtain ⟨b1, o1, rfl, Y⟩ := erow_at7 HS.out (show j < ss.length by rw [HL.out.2]; exact hlt)
      have HX : Hid (At7 W b0 (o0 + j * 2) (el ts j)) := X
      have HY : Hid (At7 W b1 (o1 + j * 2) (el ss j)) := Y
      have hx := (HE.out j).1
      have hy := (HE.out j).2
      have HN : Hid ((comb r ts ss).take (j + 1) = (comb r ts ss).take j ++ [xa (el ts j) (pm r (el ss j))]) := comb_take r ts ss j hlt
      clear X Y HT HS HE HC HA HB AW
      generalize el ts j = x at *
      generalize el ss j = y at *
      have H1 : Hid (Ret 25 #[.int .i64 (k : Int), .agg #[.int .u64 (r.1 : Int), .int .u64 (r.2 : Int)], .agg #[.int .u64 (y.1 : Int), .int .u64 (y.2 : Int)]] (.agg #[.int .u64 ((pm r y).1 : Int), .int .u64 ((pm r y).2 : Int)])) := lmul k r y HV.out.2.2.2.1 hy.1 HV.out.2.2.2.2 hy.2
      have H2 : Hid (Ret 24 #[.agg #[.int .u64 (x.1 : Int), .int .u64 (x.2 : Int)], .agg #[.int .u64 ((pm r y).1 : Int), .int .u64 ((pm r y).2 : Int)]] (.agg #[.int .u64 ((xa x (pm r y)).1 : Int), .int .u64 ((xa x (pm r y)).2 : Int)])) := ladd x (pm r y) hx (lt_pm _ _)
      clear hx hy
      generalize xa x (pm r y) = z at *
      generalize pm r y = z2 at *
      have AG : Hid (∀ g, g < B → u7.ownBlock ≠ some g) := fun g hg h => by have := (hown.lt g h).1; omega
      have l1 : b0 < B := by have := HX.out.1; have := K1.hB; omega
      have l2 : b1 < B := by have := HY.out.1; have := K1.hB; omega
      have l4 : W.heap.size + 1 < B := K1.hB.1
      have hj0 : (0 : Int) ≤ (j : Int) := by omega
      have hj1 : (j : Int) < (ts.length : Int) := by omega
      have t0 := K1.sv.t0
      go_wp2_with fail
      clear t0
      obtain ⟨O, hO⟩ : ∃ O : Hid (wr.ownsRow B 25 2 u7 j (flat ((comb r ts ss).take j)) ∧ Sl W wr B (.slice (some ⟨b0, o0, none⟩) ts.length c0) (.slice (some ⟨b1, o1, none⟩) ts.length c1) r p), True := ⟨⟨hown, K1⟩, trivial⟩
      clear hO
      have F := K1.facts HX.out HY.out
      clear hown K1
      have lB : B ≤ wr.heap.size := O.out.2.hB.2
      go_region_held3 (fun w => w.cell? ⟨W.heap.size, 0, none⟩ = some (.slice (some ⟨b0, o0, none⟩) ts.length c0) ∧ w.cell? ⟨W.heap.size, 1, none⟩ = some (.slice (some ⟨b1, o1, none⟩) ts.length c1) ∧ w.cell? ⟨W.heap.size + 1, 0, none⟩ = some (.int .u64 (r.1 : Int)) ∧ w.cell? ⟨W.heap.size + 1, 1, none⟩ = some (.int .u64 (r.2 : Int)) ∧ w.cell? ⟨b0, o0 + j * 2, none⟩ = some (.int .u64 (x.1 : Int)) ∧ w.cell? ⟨b0, o0 + j * 2 + 1, none⟩ = some (.int .u64 (x.2 : Int)) ∧ w.cell? ⟨b1, o1 + j * 2, none⟩ = some (.int .u64 (y.1 : Int)) ∧ w.cell? ⟨b1, o1 + j * 2 + 1, none⟩ = some (.int .u64 (y.2 : Int))) (first | (go_keep; done) | exact (O.out.2.facts HX.out HY.out)) (first | (go_at_call 25; refine (H1.out.go _).mono ?_; rintro e w' ⟨rfl, hb'⟩; have O' : Hid (w'.ownsRow B 25 2 u7 j (flat ((comb r ts ss).take j)) ∧ Sl W w' B (.slice (some ⟨b0, o0, none⟩) ts.length c0) (.slice (some ⟨b1, o1, none⟩) ts.length c1) r p) := (by first | exact ⟨own_below O.out.1 hb', O.out.2.below hb'⟩ | exact ⟨own_below O.out.1.drew hb', O.out.2.drew.below hb'⟩); clear F O hb' lB; have O := O'; clear O'; have lB := O.out.2.hB.2; have F := O.out.2.facts HX.out HY.out) | (go_at_call 24; refine (H2.out.go _).mono ?_; rintro e w' ⟨rfl, hb'⟩; have O' : Hid (w'.ownsRow B 25 2 u7 j (flat ((comb r ts ss).take j)) ∧ Sl W w' B (.slice (some ⟨b0, o0, none⟩) ts.length c0) (.slice (some ⟨b1, o1, none⟩) ts.length c1) r p) := (by first | exact ⟨own_below O.out.1 hb', O.out.2.below hb'⟩ | exact ⟨own_below O.out.1.drew hb', O.out.2.drew.below hb'⟩); clear F O hb' lB; have O := O'; clear O'; have lB := O.out.2.hB.2; have F := O.out.2.facts HX.out HY.out) | (refine step_append_lies _ (by rfl) _ _ _ (by rfl) B 25 i0 _ 2 16 Try.underlying22 HI.out.1 HI.out.2.1 HI.out.2.2.1 HI.out.2.2.2 rfl (by omega) u7 j _ (by rfl) (O.out.1.alloc _) ⟨w'.heap.size, 0, none⟩ 1 1 [.int .u64 (z.1 : Int), .int .u64 (z.2 : Int)] (by rfl) (by rfl) (World.news_of_block (cs := #[.int .u64 (z.1 : Int), .int .u64 (z.2 : Int)]) (t := 25) (fr := (0, 0)) (heap_alloc_new w' _)) (by simp [Value.oneCell']) (by omega) (by simp only [maxLen]; have := HL.out.1; omega) (by have := HL.out.1; omega) (by simp; omega) (w'.heap.size + 1) (by simp) ?_; intro gg cap w5 hown5 hgrow hat hlt5; have O' : Hid (w5.ownsRow B 25 2 (.slice (some ⟨gg, 0, none⟩) (j + 1) cap) (j + 1) (flat ((comb r ts ss).take j) ++ [.int .u64 (z.1 : Int), .int .u64 (z.2 : Int)]) ∧ Sl W w5 B (.slice (some ⟨b0, o0, none⟩) ts.length c0) (.slice (some ⟨b1, o1, none⟩) ts.length c1) r p) := ⟨hown5, (O.out.2.upto ((Below.refl _ _).alloc lB _)).upto ((Below.refl _ _).grown hgrow (by simp; omega) (fun g hg => (O.out.1.lt g hg).1))⟩; clear O hown5 hgrow hat hlt5; have O := O'; clear O'))
      go_wp2
      refine ⟨⟨j + 1, hlt, by simp, ?_, O.out.2⟩, by simp [intOf]; omega⟩
      rw [HN.out, flat_snoc]
      exact O.out.1
    · obtain rfl : j = ts.length := by omega
      have hle : (comb r ts ss).length = ts.length := comb_len r ts ss
      have hown' : wr.ownsRow B 25 2 u7 (comb r ts ss).length (flat (comb r ts ss)) := by
        have := hown
        rw [List.take_of_length_le (by rw [hle]; exact Nat.le_refl _)] at this
        rw [hle]; exact this
      obtain ⟨a', cap', hv', hEr⟩ := own_row hown'
      rw [hle] at hv'
      subst hv'
      have HEr : Hid (ERow wr a' (comb r ts ss)) := hEr
      have HK : Hid (Sv W wr (.slice a0 ts.length c0) (.slice a1 ts.length c1) r p) := K1.sv
      have H1 : Hid (Ret 25 #[.int .i64 (k : Int), .agg #[.int .u64 (r.1 : Int), .int .u64 (r.2 : Int)], .agg #[.int .u64 (vb.1 : Int), .int .u64 (vb.2 : Int)]] (.agg #[.int .u64 ((pm r vb).1 : Int), .int .u64 ((pm r vb).2 : Int)])) := lmul k r vb HV.out.2.2.2.1 HV.out.2.1 HV.out.2.2.2.2 HV.out.2.2.1
      have H2 : Hid (Ret 24 #[.agg #[.int .u64 (va.1 : Int), .int .u64 (va.2 : Int)], .agg #[.int .u64 ((pm r vb).1 : Int), .int .u64 ((pm r vb).2 : Int)]] (.agg #[.int .u64 ((xa va (pm r vb)).1 : Int), .int .u64 ((xa va (pm r vb)).2 : Int)])) := ladd va (pm r vb) HV.out.1 (lt_pm _ _)
      clear hown hown' hEr K1 HT HS HE HV hle HI
      generalize xa va (pm r vb) = z at *
      generalize pm r vb = z2 at *
      obtain ⟨t0, t1, r1, r0, p1, p0, _⟩ := HK.out
      go_upto_region 11 with (first | (go_at_call_of 10 (#[.int .i64 (k : Int), .slice a0 ts.length c0, .agg #[.int .u64 (p.1 : Int), .int .u64 (p.2 : Int)]] : Array Value); refine (HA.out _ HK.out.d).mono ?_; rintro e w5 ⟨rfl, hb5⟩; have K5 : Hid ((Sv W (w5.alloc (Obj.cells #[.int .u64 (va.1 : Int), .int .u64 (va.2 : Int)] 25)) (.slice a0 ts.length c0) (.slice a1 ts.length c1) r p ∧ ERow (w5.alloc (Obj.cells #[.int .u64 (va.1 : Int), .int .u64 (va.2 : Int)] 25)) a' (comb r ts ss)) ∧ El (w5.alloc (Obj.cells #[.int .u64 (va.1 : Int), .int .u64 (va.2 : Int)] 25)) w5.heap.size va.1 va.2) := ⟨⟨(HK.out.below hb5).alloc _, (HEr.out.below hb5).below ((Below.refl _ _).alloc (Nat.le_refl _) _)⟩, lel_new w5 va _⟩; clear hb5 HA t0 t1 r1 r0 p1 p0; obtain ⟨t0, t1, r1, r0, p1, p0, _⟩ := K5.out.1.1) | (go_at_call_of 10 (#[.int .i64 (k : Int), .slice a1 ts.length c1, .agg #[.int .u64 (p.1 : Int), .int .u64 (p.2 : Int)]] : Array Value); refine (HB.out _ K5.out.1.1.d).mono ?_; rintro e w6 ⟨rfl, hb6⟩; have K6 : Hid ((Sv W (w6.alloc (Obj.cells #[.int .u64 (vb.1 : Int), .int .u64 (vb.2 : Int)] 25)) (.slice a0 ts.length c0) (.slice a1 ts.length c1) r p ∧ ERow (w6.alloc (Obj.cells #[.int .u64 (vb.1 : Int), .int .u64 (vb.2 : Int)] 25)) a' (comb r ts ss)) ∧ El (w6.alloc (Obj.cells #[.int .u64 (vb.1 : Int), .int .u64 (vb.2 : Int)] 25)) w5.heap.size va.1 va.2 ∧ El (w6.alloc (Obj.cells #[.int .u64 (vb.1 : Int), .int .u64 (vb.2 : Int)] 25)) w6.heap.size vb.1 vb.2) := ⟨⟨(K5.out.1.1.below hb6).alloc _, (K5.out.1.2.below hb6).below ((Below.refl _ _).alloc (Nat.le_refl _) _)⟩, (K5.out.2.below hb6).alloc _, lel_new w6 vb _⟩; clear hb6 HB t0 t1 r1 r0 p1 p0; obtain ⟨t0, t1, r1, r0, p1, p0, _⟩ := K6.out.1.1) | (go_at_call 10; refine (HC.out _ a' cap' K6.out.1.2).mono ?_; rintro e w7 ⟨rfl, hb7⟩; have K7 : Hid (Se W (w7.alloc (Obj.cells #[.int .u64 (z.1 : Int), .int .u64 (z.2 : Int)] 25)) r w5.heap.size w6.heap.size w7.heap.size va vb z) := ⟨((K6.out.1.1.below hb7).alloc _).r1, ((K6.out.1.1.below hb7).alloc _).r0, (K6.out.2.1.below hb7).alloc _, (K6.out.2.2.below hb7).alloc _, lel_new w7 z _, ((K6.out.1.1.below hb7).alloc _).d⟩; clear hb7 HC t0 t1 r1 r0 p1 p0))
      have KE : Se W (w7.alloc (Obj.cells #[.int .u64 (z.1 : Int), .int .u64 (z.2 : Int)] 25)) r w5.heap.size w6.heap.size w7.heap.size va vb z := K7.out
      clear K5 K6 K7 HK HEr
      generalize (w7.alloc (Obj.cells #[.int .u64 (z.1 : Int), .int .u64 (z.2 : Int)] 25)) = w8 at *
      generalize w7.heap.size = qc at *
      generalize w6.heap.size = qb at *
      generalize w5.heap.size = qa at *
      have F := KE.facts
      go_region_held3 (fun w => w.cell? ⟨W.heap.size + 1, 0, none⟩ = some (.int .u64 (r.1 : Int)) ∧ w.cell? ⟨W.heap.size + 1, 1, none⟩ = some (.int .u64 (r.2 : Int)) ∧ w.cell? ⟨qa, 0, none⟩ = some (.int .u64 (va.1 : Int)) ∧ w.cell? ⟨qa, 1, none⟩ = some (.int .u64 (va.2 : Int)) ∧ w.cell? ⟨qb, 0, none⟩ = some (.int .u64 (vb.1 : Int)) ∧ w.cell? ⟨qb, 1, none⟩ = some (.int .u64 (vb.2 : Int)) ∧ w.cell? ⟨qc, 0, none⟩ = some (.int .u64 (z.1 : Int)) ∧ w.cell? ⟨qc, 1, none⟩ = some (.int .u64 (z.2 : Int))) (first | (go_keep; done) | exact KE.facts | exact KE.drew.facts) (first | (go_at_call 9; refine (AW.out.go _).mono ?_; rintro e w' ⟨rfl, hb'⟩; have K' := Se.below (w' := w') (by first | exact KE | exact KE.drew) hb'; clear F KE hb'; have KE := K'; clear K'; have F := KE.facts) | (go_at_call 25; refine (H1.out.go _).mono ?_; rintro e w' ⟨rfl, hb'⟩; have K' := Se.below (w' := w') (by first | exact KE | exact KE.drew) hb'; clear F KE hb'; have KE := K'; clear K'; have F := KE.facts) | (go_at_call 24; refine (H2.out.go _).mono ?_; rintro e w' ⟨rfl, hb'⟩; have K' := Se.below (w' := w') (by first | exact KE | exact KE.drew) hb'; clear F KE hb'; have KE := K'; clear K'; have F := KE.facts))
      go_wp2
      go_ret
      exact ⟨rfl, KE.d⟩
end Go.Proofs.Ytcnbaoijgfaljaa
