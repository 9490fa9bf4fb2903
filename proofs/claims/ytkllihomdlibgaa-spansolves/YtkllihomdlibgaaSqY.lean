/- The contract of the document's Solve over the seat's translation. -/
import Derived.Test.YtkllihomdlibgaaSqX
namespace Go.Proofs.Ytkllihomdlibgaa
open Go.RowKit
open Cb Rg Sq

def qs (bs : List Bool) : List Value := bs.map Value.bool
theorem own_q {w : World} {base : Nat} {a : Option Addr} {c : Nat} {bs : List Bool} (h : w.ownsRow base 4 1 (.slice a bs.length c) bs.length (qs bs)) : QRow w a bs := by
  rcases h.2 with ⟨h1, h0⟩ | ⟨g, cap, cur, e, _⟩
  · exact ⟨fun i hi => by omega⟩
  · have e1 : a = some ⟨g, 0, none⟩ := by injection e
    have e2 : c = cap := by injection e
    subst e1 e2
    refine ⟨fun i hi => ?_⟩
    have c0 := (own_cell h i (by omega)).1
    rw [show (qs bs)[i]? = some (.bool (bs.getD i false)) by simp [qs, List.getD, hi]] at c0
    exact ⟨g, 0, rfl, cell_lt c0, by rw [Nat.zero_add]; exact c0⟩
/-- From the last one down to k. -/
def bks (l : List (Nat × Nat)) (x : Nat × Nat) (k : Nat) : List Bool := (((List.range l.length).drop k).reverse).map (wch l (ofv l x))
theorem bks_len (l : List (Nat × Nat)) (x : Nat × Nat) (k : Nat) : (bks l x k).length = l.length - k := by simp [bks]
theorem bks_all (l : List (Nat × Nat)) (x : Nat × Nat) : bks l x l.length = [] := by simp [bks]
theorem bks_succ (l : List (Nat × Nat)) (x : Nat × Nat) {k : Nat} (h : k < l.length) : bks l x k = bks l x (k + 1) ++ [wch l (ofv l x) k] := by
  unfold bks
  rw [List.drop_eq_getElem_cons (by simpa using h), List.reverse_cons, List.map_append]
  simp
theorem bks_at (l : List (Nat × Nat)) (x : Nat × Nat) {j : Nat} (h : j < l.length) : (bks l x 0).getD (l.length - 1 - j) false = (wchs l x).getD j false := by
  rw [wchs_at l x h]
  unfold bks
  rw [List.drop_zero, List.map_reverse]
  simp only [List.getD]
  rw [List.getElem?_reverse (by simp; omega)]
  rw [show ((List.range l.length).map (wch l (ofv l x))).length - 1 - (l.length - 1 - j) = j by simp; omega]
  simp [h]
/-- What the document's Solve holds while it goes down. -/
structure Rs (W w : World) (p : Nat) (y : Nat × Nat) (v6 : Value) (n : Nat) (bs : List Bool) : Prop where
  y : Ew w p y.1 y.2
  d : Below W.heap.size W w
  g : W.heap.size ≤ p
  o : w.ownsRow (p + 1) 4 1 v6 n (qs bs)
theorem Rs.below {W w w' : World} {p : Nat} {y : Nat × Nat} {v6 : Value} {n : Nat} {bs : List Bool} (h : Rs W w p y v6 n bs) (hb : Below w.heap.size w w') : Rs W w' p y v6 n bs := ⟨h.y.below hb, h.d.trans (hb.mono h.d.size), h.g, own_below h.o hb⟩
theorem Rs.drew {W w : World} {p : Nat} {y : Nat × Nat} {v6 : Value} {n : Nat} {bs : List Bool} (h : Rs W w p y v6 n bs) : Rs W w.drew p y v6 n bs := h.below (Below.refl _ _).drew
theorem Rs.put {W w : World} {p : Nat} {y : Nat × Nat} {v6 : Value} {n : Nat} {bs : List Bool} (h : Rs W w p y v6 n bs) (z : Nat × Nat) : Rs W ((w.setCell ⟨p, 0, none⟩ (.int .u64 (z.1 : Int))).setCell ⟨p, 1, none⟩ (.int .u64 (z.2 : Int))) p z v6 n bs :=
  ⟨h.y.set _ _, below2 h.d h.g _ _, h.g, own_keep (own_keep h.o fun g hg => Below.heap_setCell _ _ _ _ (fun e => by have := (h.o.lt g hg).1; simp at e; omega)) fun g hg => Below.heap_setCell _ _ _ _ (fun e => by have := (h.o.lt g hg).1; simp at e; omega)⟩
theorem Rs.facts {W w : World} {p b o n : Nat} {y e : Nat × Nat} {v6 : Value} {bs : List Bool} (h : Rs W w p y v6 n bs) (A : b < W.heap.size ∧ W.cell? ⟨b, o, none⟩ = some (.int .u64 (e.1 : Int)) ∧ W.cell? ⟨b, o + 1, none⟩ = some (.int .u64 (e.2 : Int))) :
    w.cell? ⟨b, o, none⟩ = some (.int .u64 (e.1 : Int)) ∧ w.cell? ⟨b, o + 1, none⟩ = some (.int .u64 (e.2 : Int)) ∧ w.cell? ⟨p, 0, none⟩ = some (.int .u64 (y.1 : Int)) ∧ w.cell? ⟨p, 1, none⟩ = some (.int .u64 (y.2 : Int)) ∧ w.frozen? ⟨p, 0, none⟩ = false ∧ w.frozen? ⟨p, 1, none⟩ = false :=
  ⟨keepc h.d A.2.1, keepc h.d A.2.2, h.y.hi, h.y.lo, h.y.fhi, h.y.flo⟩
theorem Ew.growS {w w' : World} {q h l : Nat} {ob : Option Nat} (hg : w.grownBy w' ob) (e : Ew w q h l) (hne : ob ≠ some q) : Ew w' q h l := by
  have hb : ∀ o, w'.heap[(⟨q, o, none⟩ : Addr).block]? = w.heap[(⟨q, o, none⟩ : Addr).block]? := fun o => hg.block q e.toEl.lt fun k => hne k.symm
  exact ⟨⟨(World.cell?_of_block (hb 0)).trans e.hi, (World.cell?_of_block (hb 1)).trans e.lo⟩, (World.frozen?_of_block (hb 0)).trans e.fhi, (World.frozen?_of_block (hb 1)).trans e.flo⟩
theorem Rs.push {W w w' : World} {p n n' : Nat} {y : Nat × Nat} {v6 v' : Value} {bs bs' : List Bool} (h : Rs W w p y v6 n bs) (hgr : w.grownBy w' v6.ownBlock) (o : w'.ownsRow (p + 1) 4 1 v' n' (qs bs')) : Rs W w' p y v' n' bs' :=
  ⟨h.y.growS hgr fun e => by have := (h.o.lt _ e).1; omega, h.d.grown hgr h.d.size fun k hk => by have := (h.o.lt k hk).1; have := h.g; omega, h.g, o⟩
theorem lt_ofv {l : List (Nat × Nat)} (hl : ltE l) {x : Nat × Nat} (hx : lt2 x) : lt2 (ofv l x) := by
  have h := elm_ei hl l.length (Nat.le_refl _)
  exact (redv_lt (ltR_of h.rr h.of) x hx.1 hx.2 _ (Nat.le_refl _)).2
set_option maxRecDepth 100000 in
set_option maxHeartbeats 4000000 in
theorem rsolve_no (a : Option Addr) (cap : Nat) (l : List (Nat × Nat)) (hl : ltE l) (h128 : l.length ≤ 128) (x : Nat × Nat) (hx : lt2 x) (hin : in? l x = false) (W : World) (hr : ERow W a l) :
    Calls Try.prog 23 #[.slice a l.length cap, .agg #[.int .u64 (x.1 : Int), .int .u64 (x.2 : Int)]] W fun e w' => e = .returned (.tuple #[.slice none 0 0, .bool false]) ∧ Below W.heap.size W w' := by
  have B0 : Below W.heap.size W (W.alloc (Obj.cells #[.int .u64 (x.1 : Int), .int .u64 (x.2 : Int)] 30)) := by go_grown
  have H0 := hidT (rIn04 a cap l hl (by omega) x hx _ (hr.below B0))
  rw [show decide ((rb (l ++ [x])).length = (rb l).length) = false from hin] at H0
  have B0 := hidT B0
  clear hl hr hin hx h128
  generalize l.length = N at *
  go_enter Try.func23, Try.ntmps23
  go_wp2_with (go_at_call 16; refine H0.out.mono ?_; rintro e w1 ⟨rfl, hb1⟩; have K1 := hidT (B0.out.trans (hb1.mono B0.out.size)); clear hb1 H0)
  refine bodyPost_ret (v := .tuple #[.slice none 0 0, .bool false]) (by simp [results, Try.results23, go_sem, *]) rfl ⟨rfl, K1.out⟩
set_option maxRecDepth 100000 in
set_option maxHeartbeats 16000000 in
theorem rsolve_yes (a : Option Addr) (cap : Nat) (l : List (Nat × Nat)) (hl : ltE l) (h128 : l.length ≤ 128) (hcap : l.length ≤ cap) (x : Nat × Nat) (hx : lt2 x) (hin : in? l x = true) (W : World) (hr : ERow W a l) :
    Calls Try.prog 23 #[.slice a l.length cap, .agg #[.int .u64 (x.1 : Int), .int .u64 (x.2 : Int)]] W fun e w' => ∃ a' c', e = .returned (.tuple #[.slice a' l.length c', .bool true]) ∧ QRow w' a' (wchs l x) ∧ Below W.heap.size W w' := by
  have B0 : Below W.heap.size W (W.alloc (Obj.cells #[.int .u64 (x.1 : Int), .int .u64 (x.2 : Int)] 30)) := by go_grown
  have H0 := hidT (rIn04 a cap l hl (by omega) x hx _ (hr.below B0))
  rw [show decide ((rb (l ++ [x])).length = (rb l).length) = true from hin] at H0
  have B0 := hidT B0
  have HR := hidT hr
  have hO := lt_ofv hl hx
  have HIn : Hid (∀ i, i < l.length → ∀ z, lt2 z → ∀ b off, a = some ⟨b, off, none⟩ → ∀ w, Below W.heap.size W w → Calls Try.prog 16 #[.slice (some ⟨b, off, none⟩) i cap, .agg #[.int .u64 (z.1 : Int), .int .u64 (z.2 : Int)]] w fun e w' => e = .returned (.bool (in? (l.take i) z)) ∧ Below w.heap.size w w') := fun i hi z hz b off e w hw => by
    have hlen : (l.take i).length = i := by simp; omega
    have k := rIn04 (some ⟨b, off, none⟩) cap (l.take i) (ltE_take hl i) (by omega) z hz w ⟨fun j hj => by
      rw [hlen] at hj
      obtain ⟨b', off', e', h1, h2, h3⟩ := (hr.below hw).cells j (by omega)
      rw [e] at e'
      have : (l.take i).getD j (0, 0) = l.getD j (0, 0) := by simp [List.getD, hj]
      rw [this]
      exact ⟨b', off', e', h1, h2, h3⟩⟩
    rw [hlen] at k
    exact k
  have HA : Hid (∀ i, Ret 42 #[.agg #[.int .u64 ((ups l (ofv l x) (i + 1)).1 : Int), .int .u64 ((ups l (ofv l x) (i + 1)).2 : Int)], .agg #[.int .u64 ((el l i).1 : Int), .int .u64 ((el l i).2 : Int)]] (.agg #[.int .u64 ((xa (ups l (ofv l x) (i + 1)) (el l i)).1 : Int), .int .u64 ((xa (ups l (ofv l x) (i + 1)) (el l i)).2 : Int)])) := fun i => radd _ _ _ _ (lt_ups hl _ _).1 (lt_ups hl _ _).2 (ltE_el hl i).1 (ltE_el hl i).2
  have HLT : Hid (∀ i, lt2 (ups l (ofv l x) i) ∧ lt2 (el l i)) := fun i => ⟨lt_ups hl _ _, ltE_el hl i⟩
  have HW : Hid (∀ i, i < l.length → wch l (ofv l x) i = (!in? (l.take i) (el l i) && !in? (l.take i) (ups l (ofv l x) (i + 1))) ∧ (wch l (ofv l x) i = true → xa (ups l (ofv l x) (i + 1)) (el l i) = ups l (ofv l x) i) ∧ (wch l (ofv l x) i = false → ups l (ofv l x) (i + 1) = ups l (ofv l x) i)) := fun i hi => ⟨wch_iff hl _ hi, fun h => by
      rw [ups_succ, h]
      show xa (xa _ (el l i)) (el l i) = _
      rw [xa_assoc, xa_self, xa_zero], fun h => by
      rw [ups_succ, h]
      exact xa_zero _⟩
  have HU : Hid (ups l (ofv l x) l.length = x) := ups_all hl h128 hx hin
  obtain ⟨i0, hi0, hz0, hz1, hz2⟩ := info_qbool
  have HI : Hid (Try.prog.info? 4 = some i0 ∧ i0.zero = some (.bool false) ∧ i0.size = 1 ∧ i0.bytes = 1) := ⟨hi0, hz0, hz1, hz2⟩
  have HB : Hid ((∀ k, (bks l x k).length = l.length - k) ∧ bks l x l.length = [] ∧ (∀ k, k < l.length → bks l x k = bks l x (k + 1) ++ [wch l (ofv l x) k]) ∧ (∀ j, j < l.length → (bks l x 0).getD (l.length - 1 - j) false = (wchs l x).getD j false) ∧ (wchs l x).length = l.length) := ⟨bks_len l x, bks_all l x, fun k h => bks_succ l x h, fun j h => bks_at l x h, wchs_len l x⟩
  clear hl hr hin hx hi0 hz0 hz1 hz2 hO
  obtain ⟨N, hN⟩ : ∃ N, N = l.length := ⟨_, rfl⟩
  rw [← hN] at h128 hcap HIn HW HB HU H0 ⊢
  have HNL : Hid (l.length = N) := hN.symm
  clear hN
  go_enter Try.func23, Try.ntmps23
  go_wp2_with (go_at_call 16; refine H0.out.mono ?_; rintro e w1 ⟨rfl, hb1⟩; have K1 : Hid (Below W.heap.size W w1) := B0.out.trans (hb1.mono B0.out.size); have x1 : w1.cell? ⟨W.heap.size, 0, none⟩ = some (.int .u64 (x.1 : Int)) := keepc hb1 (by simp [go_sem]); have x0 : w1.cell? ⟨W.heap.size, 1, none⟩ = some (.int .u64 (x.2 : Int)) := keepc hb1 (by simp [go_sem]); clear hb1 H0 B0)
  have B1 : Below w1.heap.size w1 (w1.alloc (Obj.cells #[.int .u64 (x.1 : Int), .int .u64 (x.2 : Int)] 30)) := by go_grown
  have K2 : Hid (Rs W (w1.alloc (Obj.cells #[.int .u64 (x.1 : Int), .int .u64 (x.2 : Int)] 30)) w1.heap.size (ups l (ofv l x) N) (.slice none 0 0) 0 (bks l x N)) := ⟨by rw [HU.out]; exact ⟨⟨by simp [go_sem], by simp [go_sem]⟩, by simp [go_sem], by simp [go_sem]⟩, K1.out.trans (B1.mono K1.out.size), K1.out.size, by rw [HB.out.2.1]; exact World.ownsRow_nil _ _ _ _⟩
  clear B1 K1 x1 x0 HU
  generalize w1.alloc (Obj.cells #[.int .u64 (x.1 : Int), .int .u64 (x.2 : Int)] 30) = w2 at *
  generalize w1.heap.size = p at *
  generalize ofv l x = o at *
  have hN1 : IntKind.i64.wrap ((N : Int) - 1) = (N : Int) - 1 := by rw [IntKind.wrap_i64]; omega
  go_loopw [6, 8] (fun v u wr => ∃ (k M : Nat) (c : Int), k + M = N ∧ u = .int .i64 c ∧ c = (k : Int) - 1 ∧ Hid (Rs W wr p (ups l o k) v M (bks l x k))) (fun _ u _ => (intOf u + 1).toNat)
  case atStart => exact ⟨N, 0, (N : Int) - 1, by omega, by rfl, rfl, K2⟩
  case round =>
    obtain ⟨k, M, c, hk, rfl, hc, HK⟩ := hrel
    clear K2
    obtain ⟨a6, c6, rfl⟩ := own_slc HK.out.o
    rcases k with _ | k
    · have e2 : ¬ (0 : Int) ≤ c := by omega
      obtain rfl : M = N := by omega
      have HT : Hid (QRow wr a6 (bks l x 0) ∧ Below W.heap.size W wr ∧ (bks l x 0).length = M ∧ (∀ j, j < M → (bks l x 0).getD (M - 1 - j) false = (wchs l x).getD j false) ∧ (wchs l x).length = M) := by
        have e := HB.out.1 0
        rw [Nat.sub_zero] at e
        exact ⟨own_q (base := p + 1) (c := c6) (by rw [e]; exact HK.out.o), HK.out.d, e, HB.out.2.2.2.1, HB.out.2.2.2.2⟩
      clear HK hc hk HIn HLT HW HA HB HR hcap
      generalize bks l x 0 = bs at *
      generalize hws : wchs l x = ws at *
      have HWS := hidT hws
      clear hws
      go_wp2_with fail
      obtain ⟨wb, hwb⟩ : ∃ wb, wb = wr := ⟨_, rfl⟩
      rw [← hwb] at HT
      go_loopw [10, 11] (fun v u wr => ∃ (j : Nat) (c : Int), j ≤ M ∧ u = .int .i64 c ∧ c = (M : Int) - 1 - (j : Int) ∧ wr.ownsRow wb.heap.size 4 1 v j (qs (ws.take j)) ∧ Below wb.heap.size wb wr) (fun _ u _ => (intOf u + 1).toNat)
      case atStart => exact ⟨0, (M : Int) - 1, Nat.zero_le _, by rfl, by omega, World.ownsRow_nil _ _ _ _, by rw [hwb]; exact Below.refl _ _⟩
      case round =>
        obtain ⟨j, c, hj, rfl, hc, hown, hbw⟩ := hrel
        by_cases hlt : j < M
        · obtain ⟨r, hr⟩ : ∃ r, r = M - 1 - j := ⟨_, rfl⟩
          obtain rfl : c = (r : Int) := by omega
          obtain ⟨b, off, rfl, hb, c0⟩ := HT.out.1.cells r (by rw [HT.out.2.2.1]; omega)
          rw [hr, HT.out.2.2.2.1 j hlt, ← hr] at c0
          have t0 := keepc hbw c0
          have HTK : Hid (ws.take (j + 1) = ws.take j ++ [ws.getD j false]) := by
            have hl : j < ws.length := by rw [HT.out.2.2.2.2]; exact hlt
            show _ = _
            rw [List.take_succ_eq_append_getElem hl]; simp [hl]
          have HO : Hid (wr.ownsRow wb.heap.size 4 1 u10 j (qs (ws.take j)) ∧ Below wb.heap.size wb wr) := ⟨hown, hbw⟩
          have r1 : (r : Int) < (M : Int) := by omega
          have r0 : (0 : Int) ≤ (r : Int) := by omega
          have hr2 : r + j + 1 = M := by omega
          clear c0 hown hbw hwb hc hr hb HT
          generalize ws.getD j false = v at *
          go_wp2_with (at_builtin; refine wpList_append_own _ rfl _ _ 43 rfl wb.heap.size 4 i0 (.bool false) 1 1 Try.underlying43 HI.out.1 HI.out.2.1 HI.out.2.2.1 HI.out.2.2.2 rfl (by decide) _ _ _ rfl (own_below HO.out.1 (by go_grown)) ⟨wr.heap.size, 0, none⟩ 1 1 [.bool v] rfl rfl (fun p u hu => by rcases p with _ | p <;> simp at hu <;> subst hu <;> simp [go_sem]) (by intro u hu; simp at hu; subst hu; rfl) (by simp only [maxLen]; omega) (by omega) (by have := HO.out.2.size; simp; omega) ?_; intro v' w' hown' hgr _)
          refine ⟨⟨j + 1, (r : Int) - 1, hlt, by rfl, by omega, ?_, ?_⟩, by simp only [intOf]; omega⟩
          · rw [HTK.out]; simpa [qs] using hown'
          · exact (HO.out.2.alloc HO.out.2.size _).grown hgr (by have := HO.out.2.size; simp; omega) fun k hk => (HO.out.1.lt k hk).1
        · obtain rfl : j = M := by omega
          have hc2 : ¬ (0 : Int) ≤ c := by omega
          have e := HT.out.2.2.2.2
          rw [List.take_of_length_le (by rw [e]; exact Nat.le_refl _)] at hown
          obtain ⟨a', cap', hv⟩ := own_slc hown
          subst hv
          have HE : Hid (QRow wr a' ws ∧ Below W.heap.size W wr) := ⟨own_q (base := wb.heap.size) (c := cap') (by rw [e]; exact hown), HT.out.2.1.trans (hbw.mono HT.out.2.1.size)⟩
          clear hown hbw HT hc hwb e
          go_wp2
          refine bodyPost_ret (v := .tuple #[.slice a' j cap', .bool true]) (by simp [results, Try.results23, go_sem, *]) rfl ⟨a', ⟨cap', rfl⟩, by rw [HWS.out]; exact HE.out⟩
    · obtain rfl : c = (k : Int) := by omega
      have hkN : k < N := by omega
      obtain ⟨b, off, ha, hb, d1, d0⟩ := HR.out.cells k (by rw [HNL.out]; exact hkN)
      have I1 := hidT (HIn.out k hkN (el l k) (HLT.out k).2 b off ha)
      have I2 := hidT (HIn.out k hkN (ups l o (k + 1)) (HLT.out (k + 1)).1 b off ha)
      subst ha
      have HC : Hid (b < W.heap.size ∧ W.cell? ⟨b, off + k * 2, none⟩ = some (.int .u64 ((el l k).1 : Int)) ∧ W.cell? ⟨b, off + k * 2 + 1, none⟩ = some (.int .u64 ((el l k).2 : Int))) := ⟨hb, d1, d0⟩
      obtain ⟨W1, W2, W3⟩ := HW.out k hkN
      replace W1 := hidT W1
      replace W2 := hidT W2
      replace W3 := hidT W3
      have HA1 := hidT (HA.out k)
      have HBS := hidT (HB.out.2.2.1 k hkN)
      have k1 : (k : Int) < (N : Int) := by omega
      have k0 : (0 : Int) ≤ (k : Int) := by omega
      have k2 : (k : Int) ≤ (cap : Int) := by omega
      clear hb d1 d0 HIn HLT HW HA HB hc HR
      generalize ups l o (k + 1) = y at *
      generalize hz : ups l o k = z at *
      have HZE := hidT hz
      generalize xa y (el l k) = yz at *
      generalize el l k = q at *
      generalize wch l o k = wc at *
      generalize in? (l.take k) q = in1 at *
      generalize in? (l.take k) y = in2 at *
      generalize hb' : bks l x k = bs' at *
      have HBE := hidT hb'
      clear hz hb'
      generalize bks l x (k + 1) = bs at *
      go_upto_region 8 with fail
      have K := hidT HK.out.drew
      clear HK
      cases in1
      · cases in2
        · have HWC : Hid (wc = true) := W1.out
          have HZ : Hid (yz = z) := W2.out HWC.out
          clear W1 W2 W3
          refine wp_region_noPanic ?_
          refine wp_region_peel (S := fun w => w.cell? ⟨b, off + k * 2, none⟩ = some (.int .u64 (q.1 : Int)) ∧ w.cell? ⟨b, off + k * 2 + 1, none⟩ = some (.int .u64 (q.2 : Int)) ∧ w.cell? ⟨p, 0, none⟩ = some (.int .u64 (y.1 : Int)) ∧ w.cell? ⟨p, 1, none⟩ = some (.int .u64 (y.2 : Int))) 17 (by kernel_rfl) rfl (by kernel_rfl) ?_ (fun hHeld => ?_)
          · exact ⟨(K.out.facts HC.out).1, (K.out.facts HC.out).2.1, (K.out.facts HC.out).2.2.1, (K.out.facts HC.out).2.2.2.1⟩
          refine wpAnyH_take (i := 0) (oi := _) (v := ?_) rfl (by kernel_rfl) (by kernel_rfl) (by kernel_rfl) (fun _ _ _ h => h) (Or.inl ⟨by rfl, ?_⟩) (by assumption) ?_
          rotate_left
          · ((intro w hSw; (try dsimp only at hSw); go_simp) <;> (try with_reducible rfl))
          show wpAnyH _ _ _ _ _ _ _ (Act.put _ (some 24) _) _
          simp only [Act.put, List.setIfInBounds_toArray, List.set_cons_succ, List.set_cons_zero]
          refine wpAnyH_take (i := 1) (oi := _) (v := ?_) rfl (by kernel_rfl) (by kernel_rfl) (by kernel_rfl) (fun _ _ _ h => h) (Or.inl ⟨by rfl, ?_⟩) (by assumption) ?_
          rotate_left
          · ((intro w hSw; (try dsimp only at hSw); go_simp) <;> (try with_reducible rfl))
          show wpAnyH _ _ _ _ _ _ _ (Act.put _ (some 25) _) _
          simp only [Act.put, List.setIfInBounds_toArray, List.set_cons_succ, List.set_cons_zero]
          refine wpAnyH_take (i := 2) (oi := _) (v := ?_) rfl (by kernel_rfl) (by kernel_rfl) (by kernel_rfl) (fun _ _ _ h => h) (Or.inl ⟨by rfl, ?_⟩) (by assumption) ?_
          rotate_left
          · ((intro w hSw; (try dsimp only at hSw); go_simp) <;> (try with_reducible rfl))
          show wpAnyH _ _ _ _ _ _ _ (Act.put _ (some 26) _) _
          simp only [Act.put, List.setIfInBounds_toArray, List.set_cons_succ, List.set_cons_zero]
          refine wpAnyH_take (i := 3) (oi := _) (v := ?_) rfl (by kernel_rfl) (by kernel_rfl) (by kernel_rfl) (fun _ _ _ h => h) (Or.inl ⟨by rfl, ?_⟩) (by assumption) ?_
          rotate_left
          · ((intro w hSw; (try dsimp only at hSw); go_simp) <;> (try with_reducible rfl))
          show wpAnyH _ _ _ _ _ _ _ (Act.put _ (some 27) _) _
          simp only [Act.put, List.setIfInBounds_toArray, List.set_cons_succ, List.set_cons_zero]
          refine wpAnyH_take (i := 4) (oi := _) (v := ?_) rfl (by kernel_rfl) (by kernel_rfl) (by kernel_rfl) (fun _ _ _ h => h) (Or.inl ⟨by rfl, ?_⟩) (by assumption) ?_
          rotate_left
          · ((intro w hSw; (try dsimp only at hSw); go_simp) <;> (try with_reducible rfl))
          show wpAnyH _ _ _ _ _ _ _ (Act.put _ (some 28) _) _
          simp only [Act.put, List.setIfInBounds_toArray, List.set_cons_succ, List.set_cons_zero]
          refine wpAnyH_take (i := 5) (oi := _) (v := ?_) rfl (by kernel_rfl) (by kernel_rfl) (by kernel_rfl) (fun _ _ _ h => h) (Or.inl ⟨by rfl, ?_⟩) (by assumption) ?_
          rotate_left
          · ((intro w hSw; (try dsimp only at hSw); go_simp) <;> (try with_reducible rfl))
          show wpAnyH _ _ _ _ _ _ _ (Act.put _ (some 29) _) _
          simp only [Act.put, List.setIfInBounds_toArray, List.set_cons_succ, List.set_cons_zero]
          refine wpAnyH_take (i := 6) (oi := _) (v := ?_) rfl (by kernel_rfl) (by kernel_rfl) (by kernel_rfl) (fun _ _ _ h => h) (Or.inl ⟨by rfl, ?_⟩) (by assumption) ?_
          rotate_left
          · ((intro w hSw; (try dsimp only at hSw); go_simp) <;> (try with_reducible rfl))
          show wpAnyH _ _ _ _ _ _ _ (Act.put _ (some 30) _) _
          simp only [Act.put, List.setIfInBounds_toArray, List.set_cons_succ, List.set_cons_zero]
          refine wpAnyH_ready (rs := [7]) (by kernel_rfl) (by simp) ?_
          refine AllReadyH.cons (o := _) rfl (fun KK hKK => ?_) AllReadyH.nil
          go_simp
          (refine (I1.out _ K.out.d).mono ?_; rintro e w' ⟨rfl, hb'⟩)
          have K'' := hidT (K.out.below (w' := w') hb'); clear K hb'; have K := K''; clear K''
          refine hKK.out _ _ ?_ (fun hHeld => ?_)
          · exact ⟨(K.out.facts HC.out).1, (K.out.facts HC.out).2.1, (K.out.facts HC.out).2.2.1, (K.out.facts HC.out).2.2.2.1⟩
          clear hKK KK
          try simp only [Act.put]
          refine wpAnyH_take (i := 8) (oi := _) (v := ?_) rfl (by kernel_rfl) (by kernel_rfl) (by kernel_rfl) (fun _ _ _ h => h) (Or.inl ⟨by rfl, ?_⟩) (by assumption) ?_
          rotate_left
          · ((intro w hSw; (try dsimp only at hSw); go_simp) <;> (try with_reducible rfl))
          show wpAnyH _ _ _ _ _ _ _ (Act.put _ (some 32) _) _
          simp only [Act.put, List.setIfInBounds_toArray, List.set_cons_succ, List.set_cons_zero]
          refine wpAnyH_take (i := 9) (oi := _) (v := ?_) rfl (by kernel_rfl) (by kernel_rfl) (by kernel_rfl) (fun _ _ _ h => h) (Or.inl ⟨by rfl, ?_⟩) (by assumption) ?_
          rotate_left
          · ((intro w hSw; (try dsimp only at hSw); go_simp) <;> (try with_reducible rfl))
          show wpAnyH _ _ _ _ _ _ _ (Act.put _ (some 33) _) _
          simp only [Act.put, List.setIfInBounds_toArray, List.set_cons_succ, List.set_cons_zero]
          refine wpAnyH_take (i := 10) (oi := _) (v := ?_) rfl (by kernel_rfl) (by kernel_rfl) (by kernel_rfl) (fun _ _ _ h => h) (Or.inl ⟨by rfl, ?_⟩) (by assumption) ?_
          rotate_left
          · ((intro w hSw; (try dsimp only at hSw); go_simp) <;> (try with_reducible rfl))
          show wpAnyH _ _ _ _ _ _ _ (Act.put _ (some 34) _) _
          simp only [Act.put, List.setIfInBounds_toArray, List.set_cons_succ, List.set_cons_zero]
          refine wpAnyH_take (i := 11) (oi := _) (v := ?_) rfl (by kernel_rfl) (by kernel_rfl) (by kernel_rfl) (fun _ _ _ h => h) (Or.inl ⟨by rfl, ?_⟩) (by assumption) ?_
          rotate_left
          · ((intro w hSw; (try dsimp only at hSw); go_simp) <;> (try with_reducible rfl))
          show wpAnyH _ _ _ _ _ _ _ (Act.put _ (some 35) _) _
          simp only [Act.put, List.setIfInBounds_toArray, List.set_cons_succ, List.set_cons_zero]
          refine wpAnyH_take (i := 12) (oi := _) (v := ?_) rfl (by kernel_rfl) (by kernel_rfl) (by kernel_rfl) (fun _ _ _ h => h) (Or.inl ⟨by rfl, ?_⟩) (by assumption) ?_
          rotate_left
          · ((intro w hSw; (try dsimp only at hSw); go_simp) <;> (try with_reducible rfl))
          show wpAnyH _ _ _ _ _ _ _ (Act.put _ (some 36) _) _
          simp only [Act.put, List.setIfInBounds_toArray, List.set_cons_succ, List.set_cons_zero]
          refine wpAnyH_take (i := 13) (oi := _) (v := ?_) rfl (by kernel_rfl) (by kernel_rfl) (by kernel_rfl) (fun _ _ _ h => h) (Or.inl ⟨by rfl, ?_⟩) (by assumption) ?_
          rotate_left
          · ((intro w hSw; (try dsimp only at hSw); go_simp) <;> (try with_reducible rfl))
          show wpAnyH _ _ _ _ _ _ _ (Act.put _ (some 37) _) _
          simp only [Act.put, List.setIfInBounds_toArray, List.set_cons_succ, List.set_cons_zero]
          refine wpAnyH_ready (rs := [14]) (by kernel_rfl) (by simp) ?_
          refine AllReadyH.cons (o := _) rfl (fun KK hKK => ?_) AllReadyH.nil
          go_simp
          (refine (I2.out _ K.out.d).mono ?_; rintro e w' ⟨rfl, hb'⟩)
          have K'' := hidT (K.out.below (w' := w') hb'); clear K hb'; have K := K''; clear K''
          refine hKK.out _ _ ?_ (fun hHeld => ?_)
          · exact ⟨(K.out.facts HC.out).1, (K.out.facts HC.out).2.1, (K.out.facts HC.out).2.2.1, (K.out.facts HC.out).2.2.2.1⟩
          clear hKK KK
          try simp only [Act.put]
          refine wpAnyH_take (i := 15) (oi := _) (v := ?_) rfl (by kernel_rfl) (by kernel_rfl) (by kernel_rfl) (fun _ _ _ h => h) (Or.inl ⟨by rfl, ?_⟩) (by assumption) ?_
          rotate_left
          · ((intro w hSw; (try dsimp only at hSw); go_simp) <;> (try with_reducible rfl))
          show wpAnyH _ _ _ _ _ _ _ (Act.put _ (some 39) _) _
          simp only [Act.put, List.setIfInBounds_toArray, List.set_cons_succ, List.set_cons_zero]
          refine wpAnyH_take (i := 16) (oi := _) (v := ?_) rfl (by kernel_rfl) (by kernel_rfl) (by kernel_rfl) (fun _ _ _ h => h) (Or.inl ⟨by rfl, ?_⟩) (by assumption) ?_
          rotate_left
          · ((intro w hSw; (try dsimp only at hSw); go_simp) <;> (try with_reducible rfl))
          show wpAnyH _ _ _ _ _ _ _ (Act.put _ (some 40) _) _
          simp only [Act.put, List.setIfInBounds_toArray, List.set_cons_succ, List.set_cons_zero]
          refine wpAnyH_done (by kernel_rfl) ?_ _
          refine peel_last rfl (fun KK hKK => ?_)
          clear hHeld
          go_simp
          refine hKK _ _ ?_
          refine NoPanic.normal ?_
          clear hKK KK
          go_upto_region 10 with fail
          obtain ⟨y1, y0, s1, s0, t1, t0⟩ := K.out.facts HC.out
          go_region_with (go_at_call 42; refine (HA1.out.go _).mono ?_; rintro e w' ⟨rfl, hb'⟩; have K'' := hidT (Rs.below (w' := w') (by first | exact K.out | exact K.out.drew) hb'); clear y1 y0 s1 s0 t1 t0 K hb'; have K := K''; clear K''; obtain ⟨y1, y0, s1, s0, t1, t0⟩ := K.out.facts HC.out)
          all_goals
            have KP := K.out.put yz
            clear y1 y0 s1 s0 t1 t0 K
            generalize (w'.setCell ⟨p, 0, none⟩ (.int .u64 (yz.1 : Int))).setCell ⟨p, 1, none⟩ (.int .u64 (yz.2 : Int)) = w9 at *
            have K := hidT KP
            clear KP
            go_wp2_with (at_builtin; refine wpList_append_own _ rfl _ _ 43 rfl (p + 1) 4 i0 (.bool false) 1 1 Try.underlying43 HI.out.1 HI.out.2.1 HI.out.2.2.1 HI.out.2.2.2 rfl (by decide) _ _ _ rfl (own_below K.out.o (by go_grown)) ⟨w9.heap.size, 0, none⟩ 1 1 [.bool true] rfl rfl (fun p u hu => by rcases p with _ | p <;> simp at hu <;> subst hu <;> simp [go_sem]) (by intro u hu; simp at hu; subst hu; rfl) (by simp only [maxLen]; omega) (by omega) (by have := K.out.y.toEl.lt; simp; omega) ?_; intro v' w' hown' hgr _; have K9 := hidT (Rs.push (bs' := bs') (n' := M + 1) (K.out.below (by go_grown)) hgr (by rw [HBS.out]; simpa [qs, HWC.out] using hown')); clear hown' hgr K)
            refine ⟨⟨k, M + 1, (k : Int) - 1, by omega, by rfl, rfl, by rw [HZE.out, HBE.out, ← HZ.out]; exact K9⟩, by simp only [intOf]; omega⟩
        · have HWC : Hid (wc = false) := W1.out
          have HZ : Hid (y = z) := W3.out HWC.out
          clear W1 W2 W3 HA1
          refine wp_region_noPanic ?_
          refine wp_region_peel (S := fun w => w.cell? ⟨b, off + k * 2, none⟩ = some (.int .u64 (q.1 : Int)) ∧ w.cell? ⟨b, off + k * 2 + 1, none⟩ = some (.int .u64 (q.2 : Int)) ∧ w.cell? ⟨p, 0, none⟩ = some (.int .u64 (y.1 : Int)) ∧ w.cell? ⟨p, 1, none⟩ = some (.int .u64 (y.2 : Int))) 17 (by kernel_rfl) rfl (by kernel_rfl) ?_ (fun hHeld => ?_)
          · exact ⟨(K.out.facts HC.out).1, (K.out.facts HC.out).2.1, (K.out.facts HC.out).2.2.1, (K.out.facts HC.out).2.2.2.1⟩
          refine wpAnyH_take (i := 0) (oi := _) (v := ?_) rfl (by kernel_rfl) (by kernel_rfl) (by kernel_rfl) (fun _ _ _ h => h) (Or.inl ⟨by rfl, ?_⟩) (by assumption) ?_
          rotate_left
          · ((intro w hSw; (try dsimp only at hSw); go_simp) <;> (try with_reducible rfl))
          show wpAnyH _ _ _ _ _ _ _ (Act.put _ (some 24) _) _
          simp only [Act.put, List.setIfInBounds_toArray, List.set_cons_succ, List.set_cons_zero]
          refine wpAnyH_take (i := 1) (oi := _) (v := ?_) rfl (by kernel_rfl) (by kernel_rfl) (by kernel_rfl) (fun _ _ _ h => h) (Or.inl ⟨by rfl, ?_⟩) (by assumption) ?_
          rotate_left
          · ((intro w hSw; (try dsimp only at hSw); go_simp) <;> (try with_reducible rfl))
          show wpAnyH _ _ _ _ _ _ _ (Act.put _ (some 25) _) _
          simp only [Act.put, List.setIfInBounds_toArray, List.set_cons_succ, List.set_cons_zero]
          refine wpAnyH_take (i := 2) (oi := _) (v := ?_) rfl (by kernel_rfl) (by kernel_rfl) (by kernel_rfl) (fun _ _ _ h => h) (Or.inl ⟨by rfl, ?_⟩) (by assumption) ?_
          rotate_left
          · ((intro w hSw; (try dsimp only at hSw); go_simp) <;> (try with_reducible rfl))
          show wpAnyH _ _ _ _ _ _ _ (Act.put _ (some 26) _) _
          simp only [Act.put, List.setIfInBounds_toArray, List.set_cons_succ, List.set_cons_zero]
          refine wpAnyH_take (i := 3) (oi := _) (v := ?_) rfl (by kernel_rfl) (by kernel_rfl) (by kernel_rfl) (fun _ _ _ h => h) (Or.inl ⟨by rfl, ?_⟩) (by assumption) ?_
          rotate_left
          · ((intro w hSw; (try dsimp only at hSw); go_simp) <;> (try with_reducible rfl))
          show wpAnyH _ _ _ _ _ _ _ (Act.put _ (some 27) _) _
          simp only [Act.put, List.setIfInBounds_toArray, List.set_cons_succ, List.set_cons_zero]
          refine wpAnyH_take (i := 4) (oi := _) (v := ?_) rfl (by kernel_rfl) (by kernel_rfl) (by kernel_rfl) (fun _ _ _ h => h) (Or.inl ⟨by rfl, ?_⟩) (by assumption) ?_
          rotate_left
          · ((intro w hSw; (try dsimp only at hSw); go_simp) <;> (try with_reducible rfl))
          show wpAnyH _ _ _ _ _ _ _ (Act.put _ (some 28) _) _
          simp only [Act.put, List.setIfInBounds_toArray, List.set_cons_succ, List.set_cons_zero]
          refine wpAnyH_take (i := 5) (oi := _) (v := ?_) rfl (by kernel_rfl) (by kernel_rfl) (by kernel_rfl) (fun _ _ _ h => h) (Or.inl ⟨by rfl, ?_⟩) (by assumption) ?_
          rotate_left
          · ((intro w hSw; (try dsimp only at hSw); go_simp) <;> (try with_reducible rfl))
          show wpAnyH _ _ _ _ _ _ _ (Act.put _ (some 29) _) _
          simp only [Act.put, List.setIfInBounds_toArray, List.set_cons_succ, List.set_cons_zero]
          refine wpAnyH_take (i := 6) (oi := _) (v := ?_) rfl (by kernel_rfl) (by kernel_rfl) (by kernel_rfl) (fun _ _ _ h => h) (Or.inl ⟨by rfl, ?_⟩) (by assumption) ?_
          rotate_left
          · ((intro w hSw; (try dsimp only at hSw); go_simp) <;> (try with_reducible rfl))
          show wpAnyH _ _ _ _ _ _ _ (Act.put _ (some 30) _) _
          simp only [Act.put, List.setIfInBounds_toArray, List.set_cons_succ, List.set_cons_zero]
          refine wpAnyH_ready (rs := [7]) (by kernel_rfl) (by simp) ?_
          refine AllReadyH.cons (o := _) rfl (fun KK hKK => ?_) AllReadyH.nil
          go_simp
          (refine (I1.out _ K.out.d).mono ?_; rintro e w' ⟨rfl, hb'⟩)
          have K'' := hidT (K.out.below (w' := w') hb'); clear K hb'; have K := K''; clear K''
          refine hKK.out _ _ ?_ (fun hHeld => ?_)
          · exact ⟨(K.out.facts HC.out).1, (K.out.facts HC.out).2.1, (K.out.facts HC.out).2.2.1, (K.out.facts HC.out).2.2.2.1⟩
          clear hKK KK
          try simp only [Act.put]
          refine wpAnyH_take (i := 8) (oi := _) (v := ?_) rfl (by kernel_rfl) (by kernel_rfl) (by kernel_rfl) (fun _ _ _ h => h) (Or.inl ⟨by rfl, ?_⟩) (by assumption) ?_
          rotate_left
          · ((intro w hSw; (try dsimp only at hSw); go_simp) <;> (try with_reducible rfl))
          show wpAnyH _ _ _ _ _ _ _ (Act.put _ (some 32) _) _
          simp only [Act.put, List.setIfInBounds_toArray, List.set_cons_succ, List.set_cons_zero]
          refine wpAnyH_take (i := 9) (oi := _) (v := ?_) rfl (by kernel_rfl) (by kernel_rfl) (by kernel_rfl) (fun _ _ _ h => h) (Or.inl ⟨by rfl, ?_⟩) (by assumption) ?_
          rotate_left
          · ((intro w hSw; (try dsimp only at hSw); go_simp) <;> (try with_reducible rfl))
          show wpAnyH _ _ _ _ _ _ _ (Act.put _ (some 33) _) _
          simp only [Act.put, List.setIfInBounds_toArray, List.set_cons_succ, List.set_cons_zero]
          refine wpAnyH_take (i := 10) (oi := _) (v := ?_) rfl (by kernel_rfl) (by kernel_rfl) (by kernel_rfl) (fun _ _ _ h => h) (Or.inl ⟨by rfl, ?_⟩) (by assumption) ?_
          rotate_left
          · ((intro w hSw; (try dsimp only at hSw); go_simp) <;> (try with_reducible rfl))
          show wpAnyH _ _ _ _ _ _ _ (Act.put _ (some 34) _) _
          simp only [Act.put, List.setIfInBounds_toArray, List.set_cons_succ, List.set_cons_zero]
          refine wpAnyH_take (i := 11) (oi := _) (v := ?_) rfl (by kernel_rfl) (by kernel_rfl) (by kernel_rfl) (fun _ _ _ h => h) (Or.inl ⟨by rfl, ?_⟩) (by assumption) ?_
          rotate_left
          · ((intro w hSw; (try dsimp only at hSw); go_simp) <;> (try with_reducible rfl))
          show wpAnyH _ _ _ _ _ _ _ (Act.put _ (some 35) _) _
          simp only [Act.put, List.setIfInBounds_toArray, List.set_cons_succ, List.set_cons_zero]
          refine wpAnyH_take (i := 12) (oi := _) (v := ?_) rfl (by kernel_rfl) (by kernel_rfl) (by kernel_rfl) (fun _ _ _ h => h) (Or.inl ⟨by rfl, ?_⟩) (by assumption) ?_
          rotate_left
          · ((intro w hSw; (try dsimp only at hSw); go_simp) <;> (try with_reducible rfl))
          show wpAnyH _ _ _ _ _ _ _ (Act.put _ (some 36) _) _
          simp only [Act.put, List.setIfInBounds_toArray, List.set_cons_succ, List.set_cons_zero]
          refine wpAnyH_take (i := 13) (oi := _) (v := ?_) rfl (by kernel_rfl) (by kernel_rfl) (by kernel_rfl) (fun _ _ _ h => h) (Or.inl ⟨by rfl, ?_⟩) (by assumption) ?_
          rotate_left
          · ((intro w hSw; (try dsimp only at hSw); go_simp) <;> (try with_reducible rfl))
          show wpAnyH _ _ _ _ _ _ _ (Act.put _ (some 37) _) _
          simp only [Act.put, List.setIfInBounds_toArray, List.set_cons_succ, List.set_cons_zero]
          refine wpAnyH_ready (rs := [14]) (by kernel_rfl) (by simp) ?_
          refine AllReadyH.cons (o := _) rfl (fun KK hKK => ?_) AllReadyH.nil
          go_simp
          (refine (I2.out _ K.out.d).mono ?_; rintro e w' ⟨rfl, hb'⟩)
          have K'' := hidT (K.out.below (w' := w') hb'); clear K hb'; have K := K''; clear K''
          refine hKK.out _ _ ?_ (fun hHeld => ?_)
          · exact ⟨(K.out.facts HC.out).1, (K.out.facts HC.out).2.1, (K.out.facts HC.out).2.2.1, (K.out.facts HC.out).2.2.2.1⟩
          clear hKK KK
          try simp only [Act.put]
          refine wpAnyH_take (i := 15) (oi := _) (v := ?_) rfl (by kernel_rfl) (by kernel_rfl) (by kernel_rfl) (fun _ _ _ h => h) (Or.inl ⟨by rfl, ?_⟩) (by assumption) ?_
          rotate_left
          · ((intro w hSw; (try dsimp only at hSw); go_simp) <;> (try with_reducible rfl))
          show wpAnyH _ _ _ _ _ _ _ (Act.put _ (some 39) _) _
          simp only [Act.put, List.setIfInBounds_toArray, List.set_cons_succ, List.set_cons_zero]
          refine wpAnyH_take (i := 16) (oi := _) (v := ?_) rfl (by kernel_rfl) (by kernel_rfl) (by kernel_rfl) (fun _ _ _ h => h) (Or.inl ⟨by rfl, ?_⟩) (by assumption) ?_
          rotate_left
          · ((intro w hSw; (try dsimp only at hSw); go_simp) <;> (try with_reducible rfl))
          show wpAnyH _ _ _ _ _ _ _ (Act.put _ (some 40) _) _
          simp only [Act.put, List.setIfInBounds_toArray, List.set_cons_succ, List.set_cons_zero]
          refine wpAnyH_done (by kernel_rfl) ?_ _
          refine peel_last rfl (fun KK hKK => ?_)
          clear hHeld
          go_simp
          refine hKK _ _ ?_
          refine NoPanic.normal ?_
          clear hKK KK
          go_wp2_with (at_builtin; refine wpList_append_own _ rfl _ _ 43 rfl (p + 1) 4 i0 (.bool false) 1 1 Try.underlying43 HI.out.1 HI.out.2.1 HI.out.2.2.1 HI.out.2.2.2 rfl (by decide) _ _ _ rfl (own_below K.out.o (by go_grown)) ⟨w'.heap.size, 0, none⟩ 1 1 [.bool false] rfl rfl (fun p u hu => by rcases p with _ | p <;> simp at hu <;> subst hu <;> simp [go_sem]) (by intro u hu; simp at hu; subst hu; rfl) (by simp only [maxLen]; omega) (by omega) (by have := K.out.y.toEl.lt; simp; omega) ?_; intro v' w' hown' hgr _; have K9 := hidT (Rs.push (bs' := bs') (n' := M + 1) (K.out.below (by go_grown)) hgr (by rw [HBS.out]; simpa [qs, HWC.out] using hown')); clear hown' hgr K)
          refine ⟨⟨k, M + 1, (k : Int) - 1, by omega, by rfl, rfl, by rw [HZE.out, HBE.out, ← HZ.out]; exact K9⟩, by simp only [intOf]; omega⟩
      · have HWC : Hid (wc = false) := W1.out
        have HZ : Hid (y = z) := W3.out HWC.out
        clear W1 W2 W3 HA1 I2
        refine wp_region_noPanic ?_
        refine wp_region_peel (S := fun w => w.cell? ⟨b, off + k * 2, none⟩ = some (.int .u64 (q.1 : Int)) ∧ w.cell? ⟨b, off + k * 2 + 1, none⟩ = some (.int .u64 (q.2 : Int)) ∧ w.cell? ⟨p, 0, none⟩ = some (.int .u64 (y.1 : Int)) ∧ w.cell? ⟨p, 1, none⟩ = some (.int .u64 (y.2 : Int))) 17 (by kernel_rfl) rfl (by kernel_rfl) ?_ (fun hHeld => ?_)
        · exact ⟨(K.out.facts HC.out).1, (K.out.facts HC.out).2.1, (K.out.facts HC.out).2.2.1, (K.out.facts HC.out).2.2.2.1⟩
        refine wpAnyH_take (i := 0) (oi := _) (v := ?_) rfl (by kernel_rfl) (by kernel_rfl) (by kernel_rfl) (fun _ _ _ h => h) (Or.inl ⟨by rfl, ?_⟩) (by assumption) ?_
        rotate_left
        · ((intro w hSw; (try dsimp only at hSw); go_simp) <;> (try with_reducible rfl))
        show wpAnyH _ _ _ _ _ _ _ (Act.put _ (some 24) _) _
        simp only [Act.put, List.setIfInBounds_toArray, List.set_cons_succ, List.set_cons_zero]
        refine wpAnyH_take (i := 1) (oi := _) (v := ?_) rfl (by kernel_rfl) (by kernel_rfl) (by kernel_rfl) (fun _ _ _ h => h) (Or.inl ⟨by rfl, ?_⟩) (by assumption) ?_
        rotate_left
        · ((intro w hSw; (try dsimp only at hSw); go_simp) <;> (try with_reducible rfl))
        show wpAnyH _ _ _ _ _ _ _ (Act.put _ (some 25) _) _
        simp only [Act.put, List.setIfInBounds_toArray, List.set_cons_succ, List.set_cons_zero]
        refine wpAnyH_take (i := 2) (oi := _) (v := ?_) rfl (by kernel_rfl) (by kernel_rfl) (by kernel_rfl) (fun _ _ _ h => h) (Or.inl ⟨by rfl, ?_⟩) (by assumption) ?_
        rotate_left
        · ((intro w hSw; (try dsimp only at hSw); go_simp) <;> (try with_reducible rfl))
        show wpAnyH _ _ _ _ _ _ _ (Act.put _ (some 26) _) _
        simp only [Act.put, List.setIfInBounds_toArray, List.set_cons_succ, List.set_cons_zero]
        refine wpAnyH_take (i := 3) (oi := _) (v := ?_) rfl (by kernel_rfl) (by kernel_rfl) (by kernel_rfl) (fun _ _ _ h => h) (Or.inl ⟨by rfl, ?_⟩) (by assumption) ?_
        rotate_left
        · ((intro w hSw; (try dsimp only at hSw); go_simp) <;> (try with_reducible rfl))
        show wpAnyH _ _ _ _ _ _ _ (Act.put _ (some 27) _) _
        simp only [Act.put, List.setIfInBounds_toArray, List.set_cons_succ, List.set_cons_zero]
        refine wpAnyH_take (i := 4) (oi := _) (v := ?_) rfl (by kernel_rfl) (by kernel_rfl) (by kernel_rfl) (fun _ _ _ h => h) (Or.inl ⟨by rfl, ?_⟩) (by assumption) ?_
        rotate_left
        · ((intro w hSw; (try dsimp only at hSw); go_simp) <;> (try with_reducible rfl))
        show wpAnyH _ _ _ _ _ _ _ (Act.put _ (some 28) _) _
        simp only [Act.put, List.setIfInBounds_toArray, List.set_cons_succ, List.set_cons_zero]
        refine wpAnyH_take (i := 5) (oi := _) (v := ?_) rfl (by kernel_rfl) (by kernel_rfl) (by kernel_rfl) (fun _ _ _ h => h) (Or.inl ⟨by rfl, ?_⟩) (by assumption) ?_
        rotate_left
        · ((intro w hSw; (try dsimp only at hSw); go_simp) <;> (try with_reducible rfl))
        show wpAnyH _ _ _ _ _ _ _ (Act.put _ (some 29) _) _
        simp only [Act.put, List.setIfInBounds_toArray, List.set_cons_succ, List.set_cons_zero]
        refine wpAnyH_take (i := 6) (oi := _) (v := ?_) rfl (by kernel_rfl) (by kernel_rfl) (by kernel_rfl) (fun _ _ _ h => h) (Or.inl ⟨by rfl, ?_⟩) (by assumption) ?_
        rotate_left
        · ((intro w hSw; (try dsimp only at hSw); go_simp) <;> (try with_reducible rfl))
        show wpAnyH _ _ _ _ _ _ _ (Act.put _ (some 30) _) _
        simp only [Act.put, List.setIfInBounds_toArray, List.set_cons_succ, List.set_cons_zero]
        refine wpAnyH_ready (rs := [7]) (by kernel_rfl) (by simp) ?_
        refine AllReadyH.cons (o := _) rfl (fun KK hKK => ?_) AllReadyH.nil
        go_simp
        (refine (I1.out _ K.out.d).mono ?_; rintro e w' ⟨rfl, hb'⟩)
        have K'' := hidT (K.out.below (w' := w') hb'); clear K hb'; have K := K''; clear K''
        refine hKK.out _ _ ?_ (fun hHeld => ?_)
        · exact ⟨(K.out.facts HC.out).1, (K.out.facts HC.out).2.1, (K.out.facts HC.out).2.2.1, (K.out.facts HC.out).2.2.2.1⟩
        clear hKK KK
        try simp only [Act.put]
        refine wpAnyH_take (i := 8) (oi := _) (v := ?_) rfl (by kernel_rfl) (by kernel_rfl) (by kernel_rfl) (fun _ _ _ h => h) (Or.inl ⟨by rfl, ?_⟩) (by assumption) ?_
        rotate_left
        · ((intro w hSw; (try dsimp only at hSw); go_simp) <;> (try with_reducible rfl))
        show wpAnyH _ _ _ _ _ _ _ (Act.put _ (some 32) _) _
        simp only [Act.put, List.setIfInBounds_toArray, List.set_cons_succ, List.set_cons_zero]
        refine wpAnyH_take (i := 9) (oi := _) (v := ?_) rfl (by kernel_rfl) (by kernel_rfl) (by kernel_rfl) (fun _ _ _ h => h) (Or.inl ⟨by rfl, ?_⟩) (by assumption) ?_
        rotate_left
        · ((intro w hSw; (try dsimp only at hSw); go_simp) <;> (try with_reducible rfl))
        show wpAnyH _ _ _ _ _ _ _ (Act.put _ (some 33) _) _
        simp only [Act.put, List.setIfInBounds_toArray, List.set_cons_succ, List.set_cons_zero]
        refine wpAnyH_take (i := 10) (oi := _) (v := _) rfl (by kernel_rfl) (by kernel_rfl) (by kernel_rfl) (fun _ _ _ h => h) (Or.inr ⟨by kernel_rfl, rfl⟩) (by assumption) ?_
        try simp only [Act.put]
        refine wpAnyH_take (i := 11) (oi := _) (v := _) rfl (by kernel_rfl) (by kernel_rfl) (by kernel_rfl) (fun _ _ _ h => h) (Or.inr ⟨by kernel_rfl, rfl⟩) (by assumption) ?_
        try simp only [Act.put]
        refine wpAnyH_take (i := 12) (oi := _) (v := _) rfl (by kernel_rfl) (by kernel_rfl) (by kernel_rfl) (fun _ _ _ h => h) (Or.inr ⟨by kernel_rfl, rfl⟩) (by assumption) ?_
        try simp only [Act.put]
        refine wpAnyH_take (i := 13) (oi := _) (v := _) rfl (by kernel_rfl) (by kernel_rfl) (by kernel_rfl) (fun _ _ _ h => h) (Or.inr ⟨by kernel_rfl, rfl⟩) (by assumption) ?_
        try simp only [Act.put]
        refine wpAnyH_take (i := 14) (oi := _) (v := _) rfl (by kernel_rfl) (by kernel_rfl) (by kernel_rfl) (fun _ _ _ h => h) (Or.inr ⟨by kernel_rfl, rfl⟩) (by assumption) ?_
        try simp only [Act.put]
        refine wpAnyH_take (i := 15) (oi := _) (v := _) rfl (by kernel_rfl) (by kernel_rfl) (by kernel_rfl) (fun _ _ _ h => h) (Or.inr ⟨by kernel_rfl, rfl⟩) (by assumption) ?_
        try simp only [Act.put]
        refine wpAnyH_take (i := 16) (oi := _) (v := ?_) rfl (by kernel_rfl) (by kernel_rfl) (by kernel_rfl) (fun _ _ _ h => h) (Or.inl ⟨by rfl, ?_⟩) (by assumption) ?_
        rotate_left
        · ((intro w hSw; (try dsimp only at hSw); go_simp) <;> (try with_reducible rfl))
        try simp only [Act.put]
        refine wpAnyH_done (by kernel_rfl) ?_ _
        refine peel_last rfl (fun KK hKK => ?_)
        clear hHeld
        go_simp
        refine hKK _ _ ?_
        refine NoPanic.normal ?_
        clear hKK KK
        go_wp2_with (at_builtin; refine wpList_append_own _ rfl _ _ 43 rfl (p + 1) 4 i0 (.bool false) 1 1 Try.underlying43 HI.out.1 HI.out.2.1 HI.out.2.2.1 HI.out.2.2.2 rfl (by decide) _ _ _ rfl (own_below K.out.o (by go_grown)) ⟨w'.heap.size, 0, none⟩ 1 1 [.bool false] rfl rfl (fun p u hu => by rcases p with _ | p <;> simp at hu <;> subst hu <;> simp [go_sem]) (by intro u hu; simp at hu; subst hu; rfl) (by simp only [maxLen]; omega) (by omega) (by have := K.out.y.toEl.lt; simp; omega) ?_; intro v' w' hown' hgr _; have K9 := hidT (Rs.push (bs' := bs') (n' := M + 1) (K.out.below (by go_grown)) hgr (by rw [HBS.out]; simpa [qs, HWC.out] using hown')); clear hown' hgr K)
        refine ⟨⟨k, M + 1, (k : Int) - 1, by omega, by rfl, rfl, by rw [HZE.out, HBE.out, ← HZ.out]; exact K9⟩, by simp only [intOf]; omega⟩
end Go.Proofs.Ytkllihomdlibgaa
