/- The walk of CubeSums over the seat's translation: where both tables have values. -/
import Derived.Test.YtkjgbkjhdmipoabCbK
import Derived.Deep.AppendLies
namespace Go.Proofs.Ytkjgbkjhdmipoab
open Go.RowKit
open Cb
open Tw (pm)

/-- The boxes, two values, and a bound below which all of them lie. -/
structure Sst (W w : World) (B : Nat) (s0 s1 s2 s3 : Value) (qa qb : Nat) (va vb : Nat × Nat) : Prop where
  sb : Sb W w s0 s1 s2 s3
  a : El w qa va.1 va.2
  b : El w qb vb.1 vb.2
  hB : W.heap.size + 1 < B ∧ qa < B ∧ qb < B ∧ B ≤ w.heap.size
theorem upc {w w' : World} {B b o : Nat} {v : Value} (hb : Below B w w') (h : w.cell? ⟨b, o, none⟩ = some v) (hl : b < B) : w'.cell? ⟨b, o, none⟩ = some v := by
  rw [hb.cell (p := ⟨b, o, none⟩) hl]; exact h
theorem Sst.upto {W w w' : World} {B : Nat} {s0 s1 s2 s3 : Value} {qa qb : Nat} {va vb : Nat × Nat} (h : Sst W w B s0 s1 s2 s3 qa qb va vb) (hb : Below B w w') : Sst W w' B s0 s1 s2 s3 qa qb va vb :=
  ⟨⟨upc hb h.sb.t0 (by have := h.hB; omega), upc hb h.sb.t1 (by have := h.hB; omega), upc hb h.sb.x0 (by have := h.hB; omega), upc hb h.sb.x1 (by have := h.hB; omega), h.sb.d.trans (hb.mono (by have := h.hB; omega))⟩, ⟨upc hb h.a.hi (by have := h.hB; omega), upc hb h.a.lo (by have := h.hB; omega)⟩, ⟨upc hb h.b.hi (by have := h.hB; omega), upc hb h.b.lo (by have := h.hB; omega)⟩, by have := h.hB; have := hb.size; omega⟩
theorem Sst.below {W w w' : World} {B : Nat} {s0 s1 s2 s3 : Value} {qa qb : Nat} {va vb : Nat × Nat} (h : Sst W w B s0 s1 s2 s3 qa qb va vb) (hb : Below w.heap.size w w') : Sst W w' B s0 s1 s2 s3 qa qb va vb := h.upto (hb.mono h.hB.2.2.2)
theorem Sst.drew {W w : World} {B : Nat} {s0 s1 s2 s3 : Value} {qa qb : Nat} {va vb : Nat × Nat} (h : Sst W w B s0 s1 s2 s3 qa qb va vb) : Sst W w.drew B s0 s1 s2 s3 qa qb va vb := h.below (Below.refl _ _).drew
/-- An element that lies below W. -/
def At2 (W : World) (b o : Nat) (x : Nat × Nat) : Prop := b < W.heap.size ∧ W.cell? ⟨b, o, none⟩ = some (.int .u64 (x.1 : Int)) ∧ W.cell? ⟨b, o + 1, none⟩ = some (.int .u64 (x.2 : Int))
theorem At2.up {W w : World} {b o : Nat} {x : Nat × Nat} (h : At2 W b o x) (d : Below W.heap.size W w) : w.cell? ⟨b, o, none⟩ = some (.int .u64 (x.1 : Int)) ∧ w.cell? ⟨b, o + 1, none⟩ = some (.int .u64 (x.2 : Int)) := ⟨upc d h.2.1 h.1, upc d h.2.2 h.1⟩
theorem Sst.facts {W w : World} {B : Nat} {s0 s1 s2 s3 : Value} {qa qb : Nat} {va vb r x y : Nat × Nat} {br ofr bx ofx byy ofy : Nat} (h : Sst W w B s0 s1 s2 s3 qa qb va vb) (R : At2 W br ofr r) (X : At2 W bx ofx x) (Y : At2 W byy ofy y) :
    w.cell? ⟨W.heap.size, 0, none⟩ = some s0 ∧ w.cell? ⟨W.heap.size, 1, none⟩ = some s1 ∧ w.cell? ⟨W.heap.size + 1, 0, none⟩ = some s2 ∧ w.cell? ⟨br, ofr, none⟩ = some (.int .u64 (r.1 : Int)) ∧ w.cell? ⟨br, ofr + 1, none⟩ = some (.int .u64 (r.2 : Int)) ∧ w.cell? ⟨bx, ofx, none⟩ = some (.int .u64 (x.1 : Int)) ∧ w.cell? ⟨bx, ofx + 1, none⟩ = some (.int .u64 (x.2 : Int)) ∧ w.cell? ⟨byy, ofy, none⟩ = some (.int .u64 (y.1 : Int)) ∧ w.cell? ⟨byy, ofy + 1, none⟩ = some (.int .u64 (y.2 : Int)) :=
  ⟨h.sb.t0, h.sb.t1, h.sb.x0, (R.up h.sb.d).1, (R.up h.sb.d).2, (X.up h.sb.d).1, (X.up h.sb.d).2, (Y.up h.sb.d).1, (Y.up h.sb.d).2⟩
theorem Sst.ends {W w : World} {B : Nat} {s0 s1 s2 s3 : Value} {qa qb qc : Nat} {va vb r z : Nat × Nat} {br ofr : Nat} (h : Sst W w B s0 s1 s2 s3 qa qb va vb) (R : At2 W br ofr r) (C : El w qc z.1 z.2) :
    w.cell? ⟨W.heap.size + 1, 0, none⟩ = some s2 ∧ w.cell? ⟨br, ofr, none⟩ = some (.int .u64 (r.1 : Int)) ∧ w.cell? ⟨br, ofr + 1, none⟩ = some (.int .u64 (r.2 : Int)) ∧ w.cell? ⟨qa, 0, none⟩ = some (.int .u64 (va.1 : Int)) ∧ w.cell? ⟨qa, 1, none⟩ = some (.int .u64 (va.2 : Int)) ∧ w.cell? ⟨qb, 0, none⟩ = some (.int .u64 (vb.1 : Int)) ∧ w.cell? ⟨qb, 1, none⟩ = some (.int .u64 (vb.2 : Int)) ∧ w.cell? ⟨qc, 0, none⟩ = some (.int .u64 (z.1 : Int)) ∧ w.cell? ⟨qc, 1, none⟩ = some (.int .u64 (z.2 : Int)) :=
  ⟨h.sb.x0, (R.up h.sb.d).1, (R.up h.sb.d).2, h.a.hi, h.a.lo, h.b.hi, h.b.lo, C.hi, C.lo⟩
theorem erow_at {W : World} {a : Option Addr} {es : List (Nat × Nat)} (h : ERow W a es) {j : Nat} (hj : j < es.length) : ∃ b off : Nat, a = some ⟨b, off, none⟩ ∧ At2 W b (off + j * 2) (el es j) := by
  obtain ⟨b, off, e, h1, h2, h3⟩ := h.cells j hj
  exact ⟨b, off, e, h1, h2, h3⟩
theorem lc_take (r : Nat × Nat) (t s : List (Nat × Nat)) (j : Nat) (h : j < t.length) : (lc r t s).take (j + 1) = (lc r t s).take j ++ [xa (el t j) (pm r (el s j))] := by
  rw [take_sn _ j (by rw [lc_len]; exact h)]
  congr 2
  exact lc_at r t s h
set_option maxHeartbeats 6000000 in
set_option maxRecDepth 100000 in
theorem cs_ok (k : Nat) (hk : k < 8) (a0 a1 ap : Option Addr) (br ofr np c0 c1 cr cp : Nat) (ts ss : List (Nat × Nat)) (r va vb : Nat × Nat) (h2 : ts.length ≤ 64) (hl : ss.length = ts.length) (hr : lt2 r) (or : ofE k r) (lt1 : ltE ts) (lt2' : ltE ss) (os : ofT k ss) (hvb : lt2 vb ∧ ofE k vb) (hva : lt2 va) (W : World) (R : At2 W br ofr r) (hT : ERow W a0 ts) (hS : ERow W a1 ss)
    (HA : Hid (∀ w, Below W.heap.size W w → Calls Try.prog 7 #[.int .i64 (k : Int), .slice a0 ts.length c0, .slice ap np cp] w fun e w' => e = .returned (.tuple #[.agg #[.int .u64 (va.1 : Int), .int .u64 (va.2 : Int)], .int .i64 0]) ∧ Below w.heap.size w w'))
    (HB : Hid (∀ w, Below W.heap.size W w → Calls Try.prog 7 #[.int .i64 (k : Int), .slice a1 ts.length c1, .slice ap np cp] w fun e w' => e = .returned (.tuple #[.agg #[.int .u64 (vb.1 : Int), .int .u64 (vb.2 : Int)], .int .i64 0]) ∧ Below w.heap.size w w'))
    (HC : Hid (∀ (w : World) (a : Option Addr) (cap : Nat), Below W.heap.size W w → ERow w a (lc r ts ss) → Calls Try.prog 7 #[.int .i64 (k : Int), .slice a ts.length cap, .slice ap np cp] w fun e w' => e = .returned (.tuple #[.agg #[.int .u64 ((xa va (pm r vb)).1 : Int), .int .u64 ((xa va (pm r vb)).2 : Int)], .int .i64 0]) ∧ Below w.heap.size w w')) :
    Calls Try.prog 5 #[.int .i64 (k : Int), .agg #[.slice a0 ts.length c0, .slice a1 ts.length c1], .agg #[.slice (some ⟨br, ofr, none⟩) 1 cr, .slice ap np cp]] W fun e w' => e = .returned (.bool true) ∧ Below W.heap.size W w' := by
  have AW := awake15
  have HO := rof_any (k : Int) r.1 r.2 hr.1 hr.2
  rw [show ofB (k : Int) (r.1 : Int) (r.2 : Int) = true from or] at HO
  have h' : ¬ (64 : Int) < (ts.length : Int) := by omega
  obtain ⟨i0, hi, hz0, hz1, hz2⟩ := info_elem
  have HI : Hid (Try.prog.info? 26 = some i0 ∧ i0.zero = some (.agg #[.int .u64 0, .int .u64 0]) ∧ i0.size = 2 ∧ i0.bytes = 16) := ⟨hi, hz0, hz1, hz2⟩
  have K0 : Hid (Sb W _ _ _ _ _) := Sb.start W a0 a1 (some ⟨br, ofr, none⟩) ap ts.length ts.length 1 np c0 c1 cr cp
  obtain ⟨d1, d0⟩ := R.up K0.out.d
  have HR : Hid (At2 W br ofr r) := R
  have HT : Hid (ERow W a0 ts) := hT
  have HS : Hid (ERow W a1 ss) := hS
  have HL : Hid (ts.length ≤ 64 ∧ ss.length = ts.length) := ⟨h2, hl⟩
  have HE : Hid (∀ j, lt2 (el ts j) ∧ lt2 (el ss j) ∧ ofE k (el ss j)) := fun j => ⟨ltE_el lt1 j, ltE_el lt2' j, os.el hk j⟩
  have HV : Hid (lt2 va ∧ lt2 vb ∧ ofE k vb ∧ lt2 r ∧ ofE k r) := ⟨hva, hvb.1, hvb.2, hr, or⟩
  clear hi hz0 hz1 hz2 R hT hS lt1 lt2' os hvb hva hr or hl h2
  go_enter Try.func5, Try.ntmps5
  go_wp2_with (first | (go_at_call 17; refine (HO.go _).mono ?_; rintro e w1 ⟨rfl, hb1⟩; have K1 := K0.out.below hb1; obtain ⟨t0, t1, x0, x1, _⟩ := K1; clear d1 d0) | (go_at_call_of 7 (#[.int .i64 (k : Int), .slice a0 ts.length c0, .slice ap np cp] : Array Value); refine (HA.out _ (K0.out.below hb1).d).mono ?_; rintro e w2 ⟨rfl, hb2⟩; have K2 : Hid (Sb W (w2.alloc (Obj.cells #[.int .u64 (va.1 : Int), .int .u64 (va.2 : Int)] 26)) _ _ _ _) := ((K0.out.below hb1).below hb2).alloc _; have K2s : W.heap.size + 1 < w2.heap.size := cell_lt ((K0.out.below hb1).below hb2).x0; clear hb2 hb1 t0 t1 x0 x1 HA; obtain ⟨t0, t1, x0, x1, _⟩ := K2.out) | (go_at_call 7; refine (HB.out _ K2.out.d).mono ?_; rintro e w3 ⟨rfl, hb3⟩; have K3 : Hid (Sb W (w3.alloc (Obj.cells #[.int .u64 (vb.1 : Int), .int .u64 (vb.2 : Int)] 26)) _ _ _ _) := (K2.out.below hb3).alloc _; have K3a : Hid (El (w3.alloc (Obj.cells #[.int .u64 (vb.1 : Int), .int .u64 (vb.2 : Int)] 26)) w2.heap.size va.1 va.2) := ((El.new w2 va _).below hb3).alloc _; have K3s : w2.heap.size < w3.heap.size := (by have := hb3.size; simp at this; omega); clear hb3 t0 t1 x0 x1; obtain ⟨t0, t1, x0, x1, _⟩ := K3.out))
  have K : Sst W (w3.alloc (Obj.cells #[.int .u64 (vb.1 : Int), .int .u64 (vb.2 : Int)] 26)) (w3.heap.size + 1) _ _ _ _ w2.heap.size w3.heap.size va vb := ⟨K3.out, K3a.out, El.new w3 vb _, by simp; omega⟩
  clear K0 K2 K3 K3a HB t0 t1 x0 x1
  generalize (w3.alloc (Obj.cells #[.int .u64 (vb.1 : Int), .int .u64 (vb.2 : Int)] 26)) = w4 at *
  generalize w3.heap.size = qb at *
  generalize w2.heap.size = qa at *
  generalize hB : qb + 1 = B at *
  clear hB K2s K3s
  go_loopw [11, 12] (fun v u wr => ∃ j : Nat, j ≤ ts.length ∧ u = .int .i64 j ∧ wr.ownsRow B 26 2 v j (flat ((lc r ts ss).take j)) ∧ Sst W wr B (.slice a0 ts.length c0) (.slice a1 ts.length c1) (.slice (some ⟨br, ofr, none⟩) 1 cr) (.slice ap np cp) qa qb va vb) (fun _ u _ => ts.length - (intOf u).toNat)
  case atStart => exact ⟨0, Nat.zero_le _, rfl, ⟨by simp [flat], .inl ⟨rfl, rfl⟩⟩, K⟩
  case round =>
    obtain ⟨j, hj, rfl, hown, K1⟩ := hrel
    clear K
    by_cases hlt : j < ts.length
    · obtain ⟨b0, o0, rfl, X⟩ := erow_at HT.out hlt
      obtain ⟨b1, o1, rfl, Y⟩ := erow_at HS.out (show j < ss.length by rw [HL.out.2]; exact hlt)
      have HX : Hid (At2 W b0 (o0 + j * 2) (el ts j)) := X
      have HY : Hid (At2 W b1 (o1 + j * 2) (el ss j)) := Y
      have hx := (HE.out j).1
      have hy := (HE.out j).2
      have HN : Hid ((lc r ts ss).take (j + 1) = (lc r ts ss).take j ++ [xa (el ts j) (pm r (el ss j))]) := lc_take r ts ss j hlt
      clear X Y HT HS HE HC AW HO
      generalize el ts j = x at *
      generalize el ss j = y at *
      have H1 : Hid (Ret 19 #[.int .i64 (k : Int), .agg #[.int .u64 (r.1 : Int), .int .u64 (r.2 : Int)], .agg #[.int .u64 (y.1 : Int), .int .u64 (y.2 : Int)]] (.agg #[.int .u64 ((pm r y).1 : Int), .int .u64 ((pm r y).2 : Int)])) := by
        have := mul_any (k : Int) r y HV.out.2.2.2.1.1 HV.out.2.2.2.1.2 hy.1.1 hy.1.2
        rw [mulv_of HV.out.2.2.2.2 hy.2] at this
        exact this
      have H2 : Hid (Ret 18 #[.agg #[.int .u64 (x.1 : Int), .int .u64 (x.2 : Int)], .agg #[.int .u64 ((pm r y).1 : Int), .int .u64 ((pm r y).2 : Int)]] (.agg #[.int .u64 ((xa x (pm r y)).1 : Int), .int .u64 ((xa x (pm r y)).2 : Int)])) := fun w => add_any _ _ _ _ hx.1 hx.2 (lt_pm _ _).1 (lt_pm _ _).2 w
      clear hx hy
      generalize xa x (pm r y) = z at *
      generalize pm r y = z2 at *
      have AG : Hid (∀ g, g < B → u11.ownBlock ≠ some g) := fun g hg h => by have := (hown.lt g h).1; omega
      have l1 : b0 < B := by have := HX.out.1; have := K1.hB; omega
      have l2 : b1 < B := by have := HY.out.1; have := K1.hB; omega
      have l3 : br < B := by have := HR.out.1; have := K1.hB; omega
      have l4 : W.heap.size + 1 < B := K1.hB.1
      have hj0 : (0 : Int) ≤ (j : Int) := by omega
      have hj1 : (j : Int) < (ts.length : Int) := by omega
      have t0 := K1.sb.t0
      go_wp2_with fail
      clear t0
      obtain ⟨O, hO⟩ : ∃ O : Hid (wr.ownsRow B 26 2 u11 j (flat ((lc r ts ss).take j)) ∧ Sst W wr B (.slice (some ⟨b0, o0, none⟩) ts.length c0) (.slice (some ⟨b1, o1, none⟩) ts.length c1) (.slice (some ⟨br, ofr, none⟩) 1 cr) (.slice ap np cp) qa qb va vb), True := ⟨⟨hown, K1⟩, trivial⟩
      clear hO
      have F := K1.facts HR.out HX.out HY.out
      clear hown K1
      have lB : B ≤ wr.heap.size := O.out.2.hB.2.2.2
      go_region_held3 (fun w => w.cell? ⟨W.heap.size, 0, none⟩ = some (.slice (some ⟨b0, o0, none⟩) ts.length c0) ∧ w.cell? ⟨W.heap.size, 1, none⟩ = some (.slice (some ⟨b1, o1, none⟩) ts.length c1) ∧ w.cell? ⟨W.heap.size + 1, 0, none⟩ = some (.slice (some ⟨br, ofr, none⟩) 1 cr) ∧ w.cell? ⟨br, ofr, none⟩ = some (.int .u64 (r.1 : Int)) ∧ w.cell? ⟨br, ofr + 1, none⟩ = some (.int .u64 (r.2 : Int)) ∧ w.cell? ⟨b0, o0 + j * 2, none⟩ = some (.int .u64 (x.1 : Int)) ∧ w.cell? ⟨b0, o0 + j * 2 + 1, none⟩ = some (.int .u64 (x.2 : Int)) ∧ w.cell? ⟨b1, o1 + j * 2, none⟩ = some (.int .u64 (y.1 : Int)) ∧ w.cell? ⟨b1, o1 + j * 2 + 1, none⟩ = some (.int .u64 (y.2 : Int)))
        (first | (go_keep; done) | exact (O.out.2.facts HR.out HX.out HY.out))
        (first | (go_at_call 19; refine (H1.out.go _).mono ?_; rintro e w' ⟨rfl, hb'⟩; have O' : Hid (w'.ownsRow B 26 2 u11 j (flat ((lc r ts ss).take j)) ∧ Sst W w' B (.slice (some ⟨b0, o0, none⟩) ts.length c0) (.slice (some ⟨b1, o1, none⟩) ts.length c1) (.slice (some ⟨br, ofr, none⟩) 1 cr) (.slice ap np cp) qa qb va vb) := (by first | exact ⟨own_below O.out.1 hb', O.out.2.below hb'⟩ | exact ⟨own_below O.out.1.drew hb', O.out.2.drew.below hb'⟩); clear F O hb' lB; have O := O'; clear O'; have lB := O.out.2.hB.2.2.2; have F := O.out.2.facts HR.out HX.out HY.out) | (go_at_call 18; refine (H2.out.go _).mono ?_; rintro e w' ⟨rfl, hb'⟩; have O' : Hid (w'.ownsRow B 26 2 u11 j (flat ((lc r ts ss).take j)) ∧ Sst W w' B (.slice (some ⟨b0, o0, none⟩) ts.length c0) (.slice (some ⟨b1, o1, none⟩) ts.length c1) (.slice (some ⟨br, ofr, none⟩) 1 cr) (.slice ap np cp) qa qb va vb) := (by first | exact ⟨own_below O.out.1 hb', O.out.2.below hb'⟩ | exact ⟨own_below O.out.1.drew hb', O.out.2.drew.below hb'⟩); clear F O hb' lB; have O := O'; clear O'; have lB := O.out.2.hB.2.2.2; have F := O.out.2.facts HR.out HX.out HY.out) | (refine step_append_lies _ (by rfl) _ _ _ (by rfl) B 26 i0 _ 2 16 Try.underlying22 HI.out.1 HI.out.2.1 HI.out.2.2.1 HI.out.2.2.2 rfl (by omega) u11 j _ (by rfl) (O.out.1.alloc _) ⟨w'.heap.size, 0, none⟩ 1 1 [.int .u64 (z.1 : Int), .int .u64 (z.2 : Int)] (by rfl) (by rfl) (World.news_of_block (cs := #[.int .u64 (z.1 : Int), .int .u64 (z.2 : Int)]) (t := 26) (fr := (0, 0)) (heap_alloc_new w' _)) (by simp [Value.oneCell']) (by omega) (by simp only [maxLen]; have := HL.out.1; omega) (by have := HL.out.1; omega) (by simp; omega) (w'.heap.size + 1) (by simp) ?_; intro gg cap w5 hown5 hgrow hat hlt5; have O' : Hid (w5.ownsRow B 26 2 (.slice (some ⟨gg, 0, none⟩) (j + 1) cap) (j + 1) (flat ((lc r ts ss).take j) ++ [.int .u64 (z.1 : Int), .int .u64 (z.2 : Int)]) ∧ Sst W w5 B (.slice (some ⟨b0, o0, none⟩) ts.length c0) (.slice (some ⟨b1, o1, none⟩) ts.length c1) (.slice (some ⟨br, ofr, none⟩) 1 cr) (.slice ap np cp) qa qb va vb) := ⟨hown5, (O.out.2.upto ((Below.refl _ _).alloc lB _)).upto ((Below.refl _ _).grown hgrow (by simp; omega) (fun g hg => (O.out.1.lt g hg).1))⟩; clear O hown5 hgrow hat hlt5; have O := O'; clear O'))
      go_wp2
      refine ⟨⟨j + 1, hlt, by simp, ?_, O.out.2⟩, by simp [intOf]; omega⟩
      rw [HN.out, flat_snoc]
      exact O.out.1
    · obtain rfl : j = ts.length := by omega
      have hle : (lc r ts ss).length = ts.length := lc_len r ts ss
      have hown' : wr.ownsRow B 26 2 u11 (lc r ts ss).length (flat (lc r ts ss)) := by
        have := hown
        rw [List.take_of_length_le (by rw [hle]; exact Nat.le_refl _)] at this
        rw [hle]; exact this
      obtain ⟨a', cap', hv', hE⟩ := own_row hown'
      rw [hle] at hv'
      subst hv'
      have HEr : Hid (ERow wr a' (lc r ts ss)) := hE
      have HK : Hid (Sst W wr B (.slice a0 ts.length c0) (.slice a1 ts.length c1) (.slice (some ⟨br, ofr, none⟩) 1 cr) (.slice ap np cp) qa qb va vb) := K1
      have t0 := K1.sb.t0
      have x1 := K1.sb.x1
      have H1 : Hid (Ret 19 #[.int .i64 (k : Int), .agg #[.int .u64 (r.1 : Int), .int .u64 (r.2 : Int)], .agg #[.int .u64 (vb.1 : Int), .int .u64 (vb.2 : Int)]] (.agg #[.int .u64 ((pm r vb).1 : Int), .int .u64 ((pm r vb).2 : Int)])) := by
        have := mul_any (k : Int) r vb HV.out.2.2.2.1.1 HV.out.2.2.2.1.2 HV.out.2.1.1 HV.out.2.1.2
        rw [mulv_of HV.out.2.2.2.2 HV.out.2.2.1] at this
        exact this
      have H2 : Hid (Ret 18 #[.agg #[.int .u64 (va.1 : Int), .int .u64 (va.2 : Int)], .agg #[.int .u64 ((pm r vb).1 : Int), .int .u64 ((pm r vb).2 : Int)]] (.agg #[.int .u64 ((xa va (pm r vb)).1 : Int), .int .u64 ((xa va (pm r vb)).2 : Int)])) := fun w => add_any _ _ _ _ HV.out.1.1 HV.out.1.2 (lt_pm _ _).1 (lt_pm _ _).2 w
      clear hown hown' hE K1 HT HS HE HV hle HI
      generalize xa va (pm r vb) = z at *
      generalize pm r vb = z2 at *
      go_wp2_with (go_at_call 7; refine (HC.out _ a' cap' HK.out.sb.d HEr.out).mono ?_; rintro e w5 ⟨rfl, hb5⟩; have K5 : Hid (Sst W (w5.alloc (Obj.cells #[.int .u64 (z.1 : Int), .int .u64 (z.2 : Int)] 26)) B (.slice a0 ts.length c0) (.slice a1 ts.length c1) (.slice (some ⟨br, ofr, none⟩) 1 cr) (.slice ap np cp) qa qb va vb) := (HK.out.below hb5).below ((Below.refl _ _).alloc (Nat.le_refl _) _); clear hb5 t0 x1)
      obtain ⟨O, hO⟩ : ∃ O : Hid (Sst W (w5.alloc (Obj.cells #[.int .u64 (z.1 : Int), .int .u64 (z.2 : Int)] 26)) B (.slice a0 ts.length c0) (.slice a1 ts.length c1) (.slice (some ⟨br, ofr, none⟩) 1 cr) (.slice ap np cp) qa qb va vb ∧ El (w5.alloc (Obj.cells #[.int .u64 (z.1 : Int), .int .u64 (z.2 : Int)] 26)) w5.heap.size z.1 z.2), True := ⟨⟨K5.out, El.new w5 z _⟩, trivial⟩
      clear hO K5 HK HEr HC
      generalize (w5.alloc (Obj.cells #[.int .u64 (z.1 : Int), .int .u64 (z.2 : Int)] 26)) = w6 at *
      generalize w5.heap.size = qc at *
      have F := O.out.1.ends HR.out O.out.2
      go_region_held3 (fun w => w.cell? ⟨W.heap.size + 1, 0, none⟩ = some (.slice (some ⟨br, ofr, none⟩) 1 cr) ∧ w.cell? ⟨br, ofr, none⟩ = some (.int .u64 (r.1 : Int)) ∧ w.cell? ⟨br, ofr + 1, none⟩ = some (.int .u64 (r.2 : Int)) ∧ w.cell? ⟨qa, 0, none⟩ = some (.int .u64 (va.1 : Int)) ∧ w.cell? ⟨qa, 1, none⟩ = some (.int .u64 (va.2 : Int)) ∧ w.cell? ⟨qb, 0, none⟩ = some (.int .u64 (vb.1 : Int)) ∧ w.cell? ⟨qb, 1, none⟩ = some (.int .u64 (vb.2 : Int)) ∧ w.cell? ⟨qc, 0, none⟩ = some (.int .u64 (z.1 : Int)) ∧ w.cell? ⟨qc, 1, none⟩ = some (.int .u64 (z.2 : Int)))
        (first | (go_keep; done) | exact (O.out.1.ends HR.out O.out.2))
        (first | (go_at_call 6; refine (AW.go _).mono ?_; rintro e w' ⟨rfl, hb'⟩; have O' : Hid (Sst W w' B (.slice a0 ts.length c0) (.slice a1 ts.length c1) (.slice (some ⟨br, ofr, none⟩) 1 cr) (.slice ap np cp) qa qb va vb ∧ El w' qc z.1 z.2) := (by first | exact ⟨O.out.1.below hb', O.out.2.below hb'⟩ | exact ⟨O.out.1.drew.below hb', O.out.2.drew.below hb'⟩); clear F O hb'; have O := O'; clear O'; have F := O.out.1.ends HR.out O.out.2) | (go_at_call 19; refine (H1.out.go _).mono ?_; rintro e w' ⟨rfl, hb'⟩; have O' : Hid (Sst W w' B (.slice a0 ts.length c0) (.slice a1 ts.length c1) (.slice (some ⟨br, ofr, none⟩) 1 cr) (.slice ap np cp) qa qb va vb ∧ El w' qc z.1 z.2) := (by first | exact ⟨O.out.1.below hb', O.out.2.below hb'⟩ | exact ⟨O.out.1.drew.below hb', O.out.2.drew.below hb'⟩); clear F O hb'; have O := O'; clear O'; have F := O.out.1.ends HR.out O.out.2) | (go_at_call 18; refine (H2.out.go _).mono ?_; rintro e w' ⟨rfl, hb'⟩; have O' : Hid (Sst W w' B (.slice a0 ts.length c0) (.slice a1 ts.length c1) (.slice (some ⟨br, ofr, none⟩) 1 cr) (.slice ap np cp) qa qb va vb ∧ El w' qc z.1 z.2) := (by first | exact ⟨O.out.1.below hb', O.out.2.below hb'⟩ | exact ⟨O.out.1.drew.below hb', O.out.2.drew.below hb'⟩); clear F O hb'; have O := O'; clear O'; have F := O.out.1.ends HR.out O.out.2))
      go_wp2
      go_ret
      exact ⟨rfl, O.out.1.sb.d⟩
theorem hind_no (l : Int) (a c : Option Addr) (cap cap2 n m : Nat) (E : Int) (hE : E = if 0 ≤ l ∧ l ≤ 7 then 6 else 1) : Ret 21 #[.int .i64 l, .bool false, .slice a n cap, .slice c m cap2] (.int .i64 E) := by
  intro W
  by_cases hl : 0 ≤ l ∧ l ≤ 7
  · have HL := clevel_yes l hl
    rw [if_pos hl] at hE
    subst hE
    go_enter Try.func21, Try.ntmps21
    go_wp2_with (go_at_call 33; refine (HL.go _).mono ?_; rintro e w1 ⟨rfl, hb1⟩)
    go_ret
    exact ⟨rfl, hb1⟩
  · have HL := clevel_no l hl
    rw [if_neg hl] at hE
    subst hE
    go_enter Try.func21, Try.ntmps21
    go_wp2_with (go_at_call 33; refine (HL.go _).mono ?_; rintro e w1 ⟨rfl, hb1⟩)
    go_ret
    exact ⟨rfl, hb1⟩
set_option maxHeartbeats 1000000 in
/-- At, of a point that is too long. -/
theorem at_long (l : Int) (a c : Option Addr) (cap cap2 n m : Nat) (hn : n < 2 ^ 40) (hm : 16 < m) : ∃ E : Int, ¬ E = 0 ∧ Ret 7 #[.int .i64 l, .slice a n cap, .slice c m cap2] (.tuple #[.agg #[.int .u64 0, .int .u64 0], .int .i64 E]) := by
  obtain ⟨E, hE⟩ : ∃ E : Int, E = if 0 ≤ l ∧ l ≤ 7 then 6 else 1 := ⟨_, rfl⟩
  have h0 : ¬ E = 0 := by rw [hE]; split <;> decide
  refine ⟨E, h0, fun W => ?_⟩
  have HL : Hid (Ret 20 #[.int .i64 (n : Int)] (.int .i64 (lgz n))) := clog_any n hn
  have HH : Hid (Ret 21 #[.int .i64 l, .bool false, .slice a n cap, .slice c m cap2] (.int .i64 E)) := hind_no l a c cap cap2 n m E hE
  have hg : ¬ (m : Int) = lgz n := by rcases lgz_or n with e | ⟨k, hk, _, e⟩ <;> omega
  have hg' : ((m : Int) == lgz n) = false := by simp [hg]
  clear hE hg hm hn
  generalize lgz n = g at *
  go_enter Try.func7, Try.ntmps7
  go_wp2_with (first | (go_at_call 20; refine (HL.out.go _).mono ?_; rintro e w1 ⟨rfl, hb1⟩; have R1 : Hid (Rm W w1) := (Rm.start W).below hb1; clear hb1) | (go_at_call 21; refine (HH.out.go _).mono ?_; rintro e w2 ⟨rfl, hb2⟩; have R2 : Hid (Rm W w2) := R1.out.below hb2; clear hb2; obtain ⟨⟨r1, r0⟩, t1, t0⟩ := R2.out.room))
  refine bodyPost_ret (v := .tuple #[.agg #[.int .u64 0, .int .u64 0], .int .i64 E]) (by simp [results, Try.results7, go_sem, *]) rfl ⟨rfl, ?_⟩
  exact below2 (p := W.heap.size) R2.out.d (Nat.le_refl _) _ _
theorem lc_lt (r : Nat × Nat) {t s : List (Nat × Nat)} (ht : ltE t) : ltE (lc r t s) := ltE_of fun i hi => by
  rw [lc_len] at hi
  rw [lc_at r t s hi]
  exact lt_xa (ltE_el ht _) (lt_pm _ _)
theorem lc_of {k : Nat} (hk : k < 8) {r : Nat × Nat} {t s : List (Nat × Nat)} (ot : ofT k t) (os : ofT k s) (or : ofE k r) : ofT k (lc r t s) := ofT_of fun i hi => by
  rw [lc_len] at hi
  rw [lc_at r t s hi]
  exact of_xor hk (ot.el hk _) (of_pm hk or (os.el hk _))
theorem firsts_one' {t p : List (Nat × Nat)} (h : t.length = 2 ^ p.length) : ∃ v, firsts t p = [v] :=
  List.length_eq_one_iff.1 (firsts_len p t 0 (by rw [h, Nat.add_zero]))
theorem cs_any (l : Int) (a0 a1 ar ap : Option Addr) (c0 c1 cr cp : Nat) (ts ss rs ps : List (Nat × Nat)) (ht : ltE ts) (hs : ltE ss) (hr : ltE rs) (hp : ltE ps) (W : World) (hT : ERow W a0 ts) (hS : ERow W a1 ss) (hR : ERow W ar rs) (hP : ERow W ap ps) :
    Calls Try.prog 5 #[.int .i64 l, .agg #[.slice a0 ts.length c0, .slice a1 ss.length c1], .agg #[.slice ar rs.length cr, .slice ap ps.length cp]] W fun e w' => e = .returned (.bool true) ∧ Below W.heap.size W w' := by
  by_cases h1 : ts.length = ss.length
  · rw [← h1]
    by_cases h2 : ts.length ≤ 64
    · by_cases h3 : rs.length = 1
      · obtain ⟨r, rfl⟩ := List.length_eq_one_iff.1 h3
        obtain ⟨br, ofr, rfl, hb, q1, q0⟩ := hR.cells 0 (by simp)
        have hr' : lt2 r := hr r (by simp)
        have Q1 : W.cell? ⟨br, ofr, none⟩ = some (.int .u64 (r.1 : Int)) := by simpa using q1
        have Q0 : W.cell? ⟨br, ofr + 1, none⟩ = some (.int .u64 (r.2 : Int)) := by simpa using q0
        rw [h3]
        rcases ho : ofB l (r.1 : Int) (r.2 : Int) with _ | _
        · exact cs_g4 l a0 a1 ap br ofr _ _ c0 c1 cr cp h2 r hr' ho W Q1 Q0
        · by_cases hp10 : ps.length ≤ 16
          · by_cases e0 : atE l ts ps = 0
            · obtain ⟨k, hk, rfl, _, hl, ot, op⟩ := at_zero e0
              obtain ⟨va, hva⟩ := firsts_one' hl
              have HA : ∀ w, Below W.heap.size W w → Calls Try.prog 7 #[.int .i64 (k : Int), .slice a0 ts.length c0, .slice ap ps.length cp] w fun e w' => e = .returned (.tuple #[.agg #[.int .u64 (va.1 : Int), .int .u64 (va.2 : Int)], .int .i64 0]) ∧ Below w.heap.size w w' := fun w hb => at_ok k hk a0 ap c0 cp ts ps ht hp (by omega) hp10 hl ot op va hva w (hT.below hb) (hP.below hb)
              by_cases e1 : atE (k : Int) ss ps = 0
              · obtain ⟨k', hk', hkk, _, hl', os, _⟩ := at_zero e1
                obtain rfl : k = k' := by omega
                obtain ⟨vb, hvb⟩ := firsts_one' hl'
                have HB : ∀ w, Below W.heap.size W w → Calls Try.prog 7 #[.int .i64 (k : Int), .slice a1 ts.length c1, .slice ap ps.length cp] w fun e w' => e = .returned (.tuple #[.agg #[.int .u64 (vb.1 : Int), .int .u64 (vb.2 : Int)], .int .i64 0]) ∧ Below w.heap.size w w' := fun w hb => by
                  rw [h1]; exact at_ok k hk a1 ap c1 cp ss ps hs hp (by omega) hp10 hl' os op vb hvb w (hS.below hb) (hP.below hb)
                have la : lt2 va := by have := lt_firsts ps ts ht va (by rw [hva]; simp); exact this
                have lb : lt2 vb := by have := lt_firsts ps ss hs vb (by rw [hvb]; simp); exact this
                have ob : ofE k vb := of_firsts hk ps ss os op vb (by rw [hvb]; simp)
                have hvc : firsts (lc r ts ss) ps = [xa va (pm r vb)] := by
                  rw [lc_firsts r ps ts ss h1, hva, hvb]; rfl
                refine cs_ok k hk a0 a1 ap br ofr ps.length c0 c1 cr cp ts ss r va vb h2 h1.symm hr' ho ht hs os ⟨lb, ob⟩ la W ⟨hb, Q1, Q0⟩ hT hS HA HB fun w a cap hd hE => ?_
                have := at_ok k hk a ap cap cp (lc r ts ss) ps (lc_lt r ht) hp (by rw [lc_len]; omega) hp10 (by rw [lc_len]; exact hl) (lc_of hk ot os ho) op _ hvc w hE (hP.below hd)
                rw [lc_len] at this
                exact this
              · refine cs_err (k : Int) a0 a1 ap br ofr _ _ c0 c1 cr cp h2 r va (0, 0) 0 (atE (k : Int) ss ps) (.inr ⟨by decide, by simp [e1]⟩) hr' ho W Q1 Q0 HA fun w hb => ?_
                rw [h1]; exact at_err (k : Int) a1 ap c1 cp ss ps hs hp (by omega) (by omega) _ rfl e1 w (hS.below hb) (hP.below hb)
            · by_cases e1 : atE l ss ps = 0
              · obtain ⟨k, hk, rfl, _, hl', os, op⟩ := at_zero e1
                obtain ⟨vb, hvb⟩ := firsts_one' hl'
                refine cs_err (k : Int) a0 a1 ap br ofr _ _ c0 c1 cr cp h2 r (0, 0) vb (atE (k : Int) ts ps) 0 (.inl (by simp [e0])) hr' ho W Q1 Q0 (fun w hb => ?_) fun w hb => ?_
                · exact at_err (k : Int) a0 ap c0 cp ts ps ht hp (by omega) (by omega) _ rfl e0 w (hT.below hb) (hP.below hb)
                · rw [h1]; exact at_ok k hk a1 ap c1 cp ss ps hs hp (by omega) hp10 hl' os op vb hvb w (hS.below hb) (hP.below hb)
              · refine cs_err l a0 a1 ap br ofr _ _ c0 c1 cr cp h2 r (0, 0) (0, 0) (atE l ts ps) (atE l ss ps) (.inl (by simp [e0])) hr' ho W Q1 Q0 (fun w hb => ?_) fun w hb => ?_
                · exact at_err l a0 ap c0 cp ts ps ht hp (by omega) (by omega) _ rfl e0 w (hT.below hb) (hP.below hb)
                · rw [h1]; exact at_err l a1 ap c1 cp ss ps hs hp (by omega) (by omega) _ rfl e1 w (hS.below hb) (hP.below hb)
          · obtain ⟨E, hE, HA⟩ := at_long l a0 ap c0 cp ts.length ps.length (by omega) (by omega)
            obtain ⟨E1, _, HB⟩ := at_long l a1 ap c1 cp ts.length ps.length (by omega) (by omega)
            exact cs_err l a0 a1 ap br ofr _ _ c0 c1 cr cp h2 r (0, 0) (0, 0) E E1 (.inl (by simp [hE])) hr' ho W Q1 Q0 (fun w _ => HA w) fun w _ => HB w
      · exact cs_g3 l a0 a1 ar ap _ _ _ c0 c1 cr cp h2 h3 W
    · exact cs_g2 l a0 a1 ar ap _ _ _ c0 c1 cr cp (by omega) W
  · exact cs_g1 l a0 a1 ar ap _ _ _ _ c0 c1 cr cp h1 W
end Go.Proofs.Ytkjgbkjhdmipoab
