/- The contract of frob.times over the seat's translation. -/
import Derived.Test.YtjdfbjdbfncofaaPFrM
import Derived.Test.YtjdfbjdbfncofaaPIvA
namespace Go.Proofs.Ytjdfbjdbfncofaa
open Go.RowKit
open Cb
open Tw (pm)

/-- What stood one place below. -/
def pvE (cs : List (Nat × Nat)) (j : Nat) : Nat × Nat := if j = 0 then (0, 0) else el cs (j - 1)
def tmE (cs : List (Nat × Nat)) (c : Nat × Nat) (j : Nat) : Nat × Nat := xa (pvE cs j) (pm (el cs j) c)
/-- A polynomial times X + c. -/
def tms (cs : List (Nat × Nat)) (c : Nat × Nat) : List (Nat × Nat) := (List.range (cs.length + 1)).map (tmE cs c)
/-- i rounds done. -/
def tmS (cs : List (Nat × Nat)) (c : Nat × Nat) (i j : Nat) : Nat × Nat := if j < i then tmE cs c j else if j = i then pvE cs i else (0, 0)
/-- i rounds done, and half of one. -/
def tmH (cs : List (Nat × Nat)) (c : Nat × Nat) (i j : Nat) : Nat × Nat := if j < i + 1 then tmE cs c j else (0, 0)
theorem lt_pvE {cs : List (Nat × Nat)} (h : ltE cs) (j : Nat) : lt2 (pvE cs j) := by
  unfold pvE; split
  · exact lt_zero
  · exact ltE_el h _
theorem lt_tmE {cs : List (Nat × Nat)} (h : ltE cs) (c : Nat × Nat) (j : Nat) : lt2 (tmE cs c j) := lt_xa (lt_pvE h j) (lt_pm _ _)
theorem tms_len (cs : List (Nat × Nat)) (c : Nat × Nat) : (tms cs c).length = cs.length + 1 := by simp [tms]
theorem tms_el (cs : List (Nat × Nat)) (c : Nat × Nat) {j : Nat} (h : j < cs.length + 1) : el (tms cs c) j = tmE cs c j := by simp [el, tms, List.getD, h]
theorem lt_tms {cs : List (Nat × Nat)} (h : ltE cs) (c : Nat × Nat) : ltE (tms cs c) := fun e he => by
  obtain ⟨j, _, rfl⟩ := List.mem_map.1 he
  exact lt_tmE h c j
/-- The row that is made, the two boxes. -/
structure Tw3 (W W0 w : World) (N : Nat) (h : Nat → Nat × Nat) (x : Nat × Nat) (P : Nat) (c : Nat × Nat) (a : Option Addr) (cs : List (Nat × Nat)) : Prop where
  t : Tn W0 w N h
  x : El w P x.1 x.2
  c : El w W.heap.size c.1 c.2
  r : ERow w a cs
  p : W0.heap.size < P
theorem Tw3.below {W W0 w w' : World} {N : Nat} {h : Nat → Nat × Nat} {x : Nat × Nat} {P : Nat} {c : Nat × Nat} {a : Option Addr} {cs : List (Nat × Nat)} (k : Tw3 W W0 w N h x P c a cs) (hb : Below w.heap.size w w') : Tw3 W W0 w' N h x P c a cs :=
  ⟨k.t.below hb, k.x.below hb, k.c.below hb, k.r.below hb, k.p⟩
theorem Tw3.drew {W W0 w : World} {N : Nat} {h : Nat → Nat × Nat} {x : Nat × Nat} {P : Nat} {c : Nat × Nat} {a : Option Addr} {cs : List (Nat × Nat)} (k : Tw3 W W0 w N h x P c a cs) : Tw3 W W0 w.drew N h x P c a cs := k.below (Below.refl _ _).drew
theorem El.offE {w : World} {b c h l : Nat} (e : El w c h l) (hn : b ≠ c) (o o' : Nat) (u v : Value) : El ((w.setCell ⟨b, o, none⟩ u).setCell ⟨b, o', none⟩ v) c h l := by
  obtain ⟨h1, h2⟩ := e
  have hn' : c ≠ b := fun h => hn h.symm
  exact ⟨by simp [go_sem, *], by simp [go_sem, *]⟩
theorem ERow.offE {w : World} {a : Option Addr} {es : List (Nat × Nat)} (e : ERow w a es) {b : Nat} (hn : ∀ g off, a = some ⟨g, off, none⟩ → g ≠ b) (o o' : Nat) (u v : Value) : ERow ((w.setCell ⟨b, o, none⟩ u).setCell ⟨b, o', none⟩ v) a es := ⟨fun i hi => by
  obtain ⟨g, off, e1, hb, c1, c0⟩ := e.cells i hi
  have hne := hn g off e1
  have k1 := Kept.set2 (C := fun i => i = g) w b o o' u v (fun h => hne h.symm)
  exact ⟨g, off, e1, Nat.lt_of_lt_of_le hb k1.size, cellK k1 rfl c1, cellK k1 rfl c0⟩⟩
theorem Tw3.put {W W0 w : World} {N : Nat} {h : Nat → Nat × Nat} {x : Nat × Nat} {P : Nat} {c : Nat × Nat} {a : Option Addr} {cs : List (Nat × Nat)} (k : Tw3 W W0 w N h x P c a cs) (hW : W.heap.size < W0.heap.size) (ha : ∀ g off, a = some ⟨g, off, none⟩ → g < W0.heap.size) (j : Nat) (r : Nat × Nat) (h' : Nat → Nat × Nat) (e : ∀ c, c < N → h' c = if c = j then r else h c) :
    Tw3 W W0 ((w.setCell ⟨W0.heap.size, j * 2, none⟩ (.int .u64 (r.1 : Int))).setCell ⟨W0.heap.size, j * 2 + 1, none⟩ (.int .u64 (r.2 : Int))) N h' x P c a cs :=
  ⟨k.t.put j r h' e, k.x.offE (by have := k.p; omega) _ _ _ _, k.c.offE (by omega) _ _ _ _, k.r.offE (fun g off e1 => by have := ha g off e1; omega) _ _ _ _, k.p⟩
set_option maxHeartbeats 20000000 in
set_option maxRecDepth 100000 in
theorem times_ok (m : Nat) (hm : m < 8) (a : Option Addr) (cap n N : Nat) (cs : List (Nat × Nat)) (c : Nat × Nat) (hn : cs.length = n) (hN : N = n + 1) (h10 : n ≤ 1000) (lcs : ltE cs) (ocs : ofT m cs) (lc : lt2 c) (oc : ofE m c) (W : World) (hr : ERow W a cs) (hag : ∀ g off, a = some ⟨g, off, none⟩ → g < W.heap.size) :
    Calls Try.prog 36 #[.int .i64 (m : Int), .slice a n cap, .agg #[.int .u64 (c.1 : Int), .int .u64 (c.2 : Int)]] W fun e w' => ∃ g, e = .returned (.slice (some ⟨g, 0, none⟩) N N) ∧ W.heap.size ≤ g ∧ ERow w' (some ⟨g, 0, none⟩) (tms cs c) ∧ Below W.heap.size W w' := by
  obtain ⟨i0, hi, hz0, hz1, hz2⟩ := info_elem
  have HN : Hid (Try.prog.info? 24 = some i0 ∧ i0.zero = some (.agg #[.int .u64 0, .int .u64 0]) ∧ i0.size = 2 ∧ i0.bytes = 16) := ⟨hi, hz0, hz1, hz2⟩
  have HIN : Hid (ltE cs ∧ ofT m cs ∧ lt2 c ∧ ofE m c ∧ cs.length = n) := ⟨lcs, ocs, lc, oc, hn⟩
  obtain ⟨W0, hW0⟩ : ∃ W0, W0 = W.alloc (Obj.cells #[.int .u64 (c.1 : Int), .int .u64 (c.2 : Int)] 24) := ⟨_, rfl⟩
  have z0 : W0.heap.size = W.heap.size + 1 := by rw [hW0]; simp
  have hC0 : El W0 W.heap.size c.1 c.2 := by rw [hW0]; exact ⟨by simp [go_sem], by simp [go_sem]⟩
  have hB0 : Below W.heap.size W W0 := by rw [hW0]; exact below_alF _ _
  have hR0 : ERow W0 a cs := hr.below hB0
  have hag0 : ∀ g off, a = some ⟨g, off, none⟩ → g < W0.heap.size := fun g off e => by have := hag g off e; omega
  have HAG : Hid ((∀ g off, a = some ⟨g, off, none⟩ → g < W0.heap.size) ∧ W.heap.size < W0.heap.size ∧ Below W.heap.size W W0) := ⟨hag0, by omega, hB0⟩
  have HR0 := hidF (And.intro hR0 hC0)
  have HZ0 := hidF z0
  have HW0 := hidF hW0
  have HNN := hidF hN
  clear hi hz0 hz1 hz2 lcs ocs lc oc hn hr hag hag0 hB0 hR0 hC0 z0 hW0 hN
  go_enter Try.func36, Try.ntmps36
  go_wp2_with (at_make; rw [← HW0.out]; refine wpList_make_full _ rfl _ _ 26 rfl 0 24 i0 (.agg #[.int .u64 0, .int .u64 0]) 2 Try.underlying26 HN.out.1 HN.out.2.1 HN.out.2.2.1 .i64 .i64 _ _ N rfl rfl (by have := HNN.out; omega) (by have := HNN.out; omega) (by rw [HN.out.2.2.2]; have := HNN.out; omega) (by simp only [maxLen]; have := HNN.out; omega) (Nat.zero_le _) ?_; intro w2 own2 hgr2; have K2 : Hid (Tn W0 w2 N (tmS cs c 0) ∧ ERow w2 a cs ∧ El w2 W.heap.size c.1 c.2) := ⟨Tn.start own2 hgr2 _ (fun j _ => by unfold tmS; rw [if_neg (by omega)]; split <;> rfl), HR0.out.1.below ((Below.refl _ _).grown hgr2 (Nat.le_refl _) (fun k hk => by cases hk)), HR0.out.2.below ((Below.refl _ _).grown hgr2 (Nat.le_refl _) (fun k hk => by cases hk))⟩; clear own2 hgr2)
  clear HN HR0
  clear HW0
  go_loopw [16] (fun u wr => ∃ i : Nat, i ≤ n ∧ u = .int .i64 i ∧ Hid (Tn W0 wr N (tmS cs c i) ∧ ERow wr a cs ∧ El wr W.heap.size c.1 c.2)) (fun u _ => n - (intOf u).toNat)
  case atStart => exact ⟨0, Nat.zero_le _, rfl, K2⟩
  case round =>
    obtain ⟨i, hi, rfl, HK⟩ := hrel
    clear K2
    by_cases hlt : i < n
    · have hiN : i < N := by have := HNN.out; omega
      have hiM : i + 1 < N := by have := HNN.out; omega
      have i1 : (i : Int) < (n : Int) := by omega
      have i2 : (i : Int) < (N : Int) := by omega
      have i3 : (i : Int) + 1 < (N : Int) := by omega
      have i0 : (0 : Int) ≤ (i : Int) := by omega
      obtain ⟨b2, o2, rfl, hb2, c1, c0⟩ := HK.out.2.1.cells i (by rw [HIN.out.2.2.2.2]; exact hlt)
      have hx : lt2 (el cs i) ∧ ofE m (el cs i) := ⟨ltE_el HIN.out.1 i, HIN.out.2.1.el hm i⟩
      have HX := hidF hx
      have HT : Hid (tmS cs c i i = pvE cs i) := by show _ = _; unfold tmS; rw [if_neg (by omega), if_pos rfl]
      have HT2 : Hid (tmH cs c i (i + 1) = (0, 0)) := by show _ = _; unfold tmH; rw [if_neg (by omega)]
      have MU : Hid (Ret 15 #[.int .i64 (m : Int), .agg #[.int .u64 ((el cs i).1 : Int), .int .u64 ((el cs i).2 : Int)], .agg #[.int .u64 (c.1 : Int), .int .u64 (c.2 : Int)]] (.agg #[.int .u64 ((pm (el cs i) c).1 : Int), .int .u64 ((pm (el cs i) c).2 : Int)])) := by
        have := mul_any (m : Int) (el cs i) c hx.1.1 hx.1.2 HIN.out.2.2.1.1 HIN.out.2.2.1.2
        rw [mulv_of hx.2 HIN.out.2.2.2.1] at this
        exact this
      have AD : Hid (Ret 23 #[.agg #[.int .u64 ((pvE cs i).1 : Int), .int .u64 ((pvE cs i).2 : Int)], .agg #[.int .u64 ((pm (el cs i) c).1 : Int), .int .u64 ((pm (el cs i) c).2 : Int)]] (.agg #[.int .u64 ((tmE cs c i).1 : Int), .int .u64 ((tmE cs c i).2 : Int)])) := fun w => add_any _ _ _ _ (lt_pvE HIN.out.1 i).1 (lt_pvE HIN.out.1 i).2 (lt_pm _ _).1 (lt_pm _ _).2 w
      have AD2 : Hid (Ret 23 #[.agg #[.int .u64 0, .int .u64 0], .agg #[.int .u64 ((el cs i).1 : Int), .int .u64 ((el cs i).2 : Int)]] (.agg #[.int .u64 ((el cs i).1 : Int), .int .u64 ((el cs i).2 : Int)])) := fun w => by
        have := add_any 0 0 (el cs i).1 (el cs i).2 (by decide) (by decide) hx.1.1 hx.1.2 w
        rw [Nat.zero_xor, Nat.zero_xor] at this
        exact this
      have HPV : Hid (pvE cs (i + 1) = el cs i) := by show _ = _; unfold pvE; rw [if_neg (by omega), Nat.add_sub_cancel]
      clear hx
      obtain ⟨x, hx⟩ : ∃ x, x = el cs i := ⟨_, rfl⟩
      rw [← hx] at MU AD2 HPV
      rw [show pm (el cs i) c = pm x c by rw [hx]] at AD
      have c1' : wr.cell? ⟨b2, o2 + i * 2, none⟩ = some (.int .u64 (x.1 : Int)) := by rw [hx]; exact c1
      have c0' : wr.cell? ⟨b2, o2 + i * 2 + 1, none⟩ = some (.int .u64 (x.2 : Int)) := by rw [hx]; exact c0
      clear hx c1 c0 HX
      go_upto_region 5 with fail
      obtain ⟨P, hP⟩ : ∃ P, P = wr.heap.size := ⟨_, rfl⟩
      have K : Tw3 W W0 (wr.alloc (Obj.cells #[.int .u64 (x.1 : Int), .int .u64 (x.2 : Int)] 24)) N (tmS cs c i) x P c (some ⟨b2, o2, none⟩) cs := ⟨HK.out.1.below (below_alF _ _), by rw [hP]; exact ⟨by simp [go_sem], by simp [go_sem]⟩, HK.out.2.2.below (below_alF _ _), HK.out.2.1.below (below_alF _ _), by rw [hP]; exact HK.out.1.row.lt⟩
      rw [← hP]
      clear HK c1' c0'
      generalize (wr.alloc (Obj.cells #[.int .u64 (x.1 : Int), .int .u64 (x.2 : Int)] 24)) = w3 at *
      clear hP
      generalize pm x c = y at *
      refine wp_region_noPanic ?_
      refine wp_region_peel (S := fun w => w.cell? ⟨W0.heap.size, i * 2, none⟩ = some (.int .u64 ((pvE cs i).1 : Int)) ∧ w.cell? ⟨W0.heap.size, i * 2 + 1, none⟩ = some (.int .u64 ((pvE cs i).2 : Int)) ∧ w.cell? ⟨P, 0, none⟩ = some (.int .u64 (x.1 : Int)) ∧ w.cell? ⟨P, 1, none⟩ = some (.int .u64 (x.2 : Int)) ∧ w.cell? ⟨W.heap.size, 0, none⟩ = some (.int .u64 (c.1 : Int)) ∧ w.cell? ⟨W.heap.size, 1, none⟩ = some (.int .u64 (c.2 : Int))) 12 (by kernel_rfl) rfl (by kernel_rfl) ?_ (fun hHeld => ?_)
      · exact by have f := K.t.facts i hiN; rw [HT.out] at f; exact ⟨f.1, f.2.1, K.x.hi, K.x.lo, K.c.hi, K.c.lo⟩
      refine wpAnyH_take (i := 0) (oi := _) (v := ?_) rfl (by kernel_rfl) (by kernel_rfl) (by kernel_rfl) (fun _ _ _ h => h) (Or.inl ⟨by rfl, ?_⟩) (by assumption) ?_
      rotate_left
      · ((intro w hSw; (try dsimp only at hSw); go_simp) <;> (try with_reducible rfl))
      show wpAnyH _ _ _ _ _ _ _ (Act.put _ (some 21) _) _
      simp only [Act.put, List.setIfInBounds_toArray, List.set_cons_succ, List.set_cons_zero]
      refine wpAnyH_take (i := 1) (oi := _) (v := ?_) rfl (by kernel_rfl) (by kernel_rfl) (by kernel_rfl) (fun _ _ _ h => h) (Or.inl ⟨by rfl, ?_⟩) (by assumption) ?_
      rotate_left
      · ((intro w hSw; (try dsimp only at hSw); go_simp) <;> (try with_reducible rfl))
      show wpAnyH _ _ _ _ _ _ _ (Act.put _ (some 22) _) _
      simp only [Act.put, List.setIfInBounds_toArray, List.set_cons_succ, List.set_cons_zero]
      refine wpAnyH_take (i := 2) (oi := _) (v := ?_) rfl (by kernel_rfl) (by kernel_rfl) (by kernel_rfl) (fun _ _ _ h => h) (Or.inl ⟨by rfl, ?_⟩) (by assumption) ?_
      rotate_left
      · ((intro w hSw; (try dsimp only at hSw); go_simp) <;> (try with_reducible rfl))
      show wpAnyH _ _ _ _ _ _ _ (Act.put _ (some 23) _) _
      simp only [Act.put, List.setIfInBounds_toArray, List.set_cons_succ, List.set_cons_zero]
      refine wpAnyH_take (i := 3) (oi := _) (v := ?_) rfl (by kernel_rfl) (by kernel_rfl) (by kernel_rfl) (fun _ _ _ h => h) (Or.inl ⟨by rfl, ?_⟩) (by assumption) ?_
      rotate_left
      · ((intro w hSw; (try dsimp only at hSw); go_simp) <;> (try with_reducible rfl))
      show wpAnyH _ _ _ _ _ _ _ (Act.put _ (some 24) _) _
      simp only [Act.put, List.setIfInBounds_toArray, List.set_cons_succ, List.set_cons_zero]
      refine wpAnyH_take (i := 4) (oi := _) (v := ?_) rfl (by kernel_rfl) (by kernel_rfl) (by kernel_rfl) (fun _ _ _ h => h) (Or.inl ⟨by rfl, ?_⟩) (by assumption) ?_
      rotate_left
      · ((intro w hSw; (try dsimp only at hSw); go_simp) <;> (try with_reducible rfl))
      show wpAnyH _ _ _ _ _ _ _ (Act.put _ (some 25) _) _
      simp only [Act.put, List.setIfInBounds_toArray, List.set_cons_succ, List.set_cons_zero]
      refine wpAnyH_take (i := 5) (oi := _) (v := ?_) rfl (by kernel_rfl) (by kernel_rfl) (by kernel_rfl) (fun _ _ _ h => h) (Or.inl ⟨by rfl, ?_⟩) (by assumption) ?_
      rotate_left
      · ((intro w hSw; (try dsimp only at hSw); go_simp) <;> (try with_reducible rfl))
      show wpAnyH _ _ _ _ _ _ _ (Act.put _ (some 26) _) _
      simp only [Act.put, List.setIfInBounds_toArray, List.set_cons_succ, List.set_cons_zero]
      refine wpAnyH_take (i := 6) (oi := _) (v := ?_) rfl (by kernel_rfl) (by kernel_rfl) (by kernel_rfl) (fun _ _ _ h => h) (Or.inl ⟨by rfl, ?_⟩) (by assumption) ?_
      rotate_left
      · ((intro w hSw; (try dsimp only at hSw); go_simp) <;> (try with_reducible rfl))
      show wpAnyH _ _ _ _ _ _ _ (Act.put _ (some 27) _) _
      simp only [Act.put, List.setIfInBounds_toArray, List.set_cons_succ, List.set_cons_zero]
      refine wpAnyH_take (i := 7) (oi := _) (v := ?_) rfl (by kernel_rfl) (by kernel_rfl) (by kernel_rfl) (fun _ _ _ h => h) (Or.inl ⟨by rfl, ?_⟩) (by assumption) ?_
      rotate_left
      · ((intro w hSw; (try dsimp only at hSw); go_simp) <;> (try with_reducible rfl))
      show wpAnyH _ _ _ _ _ _ _ (Act.put _ (some 28) _) _
      simp only [Act.put, List.setIfInBounds_toArray, List.set_cons_succ, List.set_cons_zero]
      refine wpAnyH_take (i := 8) (oi := _) (v := ?_) rfl (by kernel_rfl) (by kernel_rfl) (by kernel_rfl) (fun _ _ _ h => h) (Or.inl ⟨by rfl, ?_⟩) (by assumption) ?_
      rotate_left
      · ((intro w hSw; (try dsimp only at hSw); go_simp) <;> (try with_reducible rfl))
      show wpAnyH _ _ _ _ _ _ _ (Act.put _ (some 29) _) _
      simp only [Act.put, List.setIfInBounds_toArray, List.set_cons_succ, List.set_cons_zero]
      refine wpAnyH_ready (rs := [9]) (by kernel_rfl) (by simp) ?_
      refine AllReadyH.cons (o := _) rfl (fun KK hKK => ?_) AllReadyH.nil
      go_simp
      (go_at_call 15; refine (MU.out.go _).mono ?_; rintro e w' ⟨rfl, hb'⟩)
      have K'' := Tw3.below (w' := w') (by first | exact K | exact K.drew) hb'
      clear K hb'
      have K := K''
      clear K''
      (try simp only [World.size_drew] at K)
      refine hKK.out _ _ ?_ (fun hHeld => ?_)
      · exact by have f := K.t.facts i hiN; rw [HT.out] at f; exact ⟨f.1, f.2.1, K.x.hi, K.x.lo, K.c.hi, K.c.lo⟩
      clear hKK KK
      try simp only [Act.put]
      refine wpAnyH_ready (rs := [10]) (by kernel_rfl) (by simp) ?_
      refine AllReadyH.cons (o := _) rfl (fun KK hKK => ?_) AllReadyH.nil
      go_simp
      (go_at_call 23; refine (AD.out.go _).mono ?_; rintro e w' ⟨rfl, hb'⟩)
      have K'' := Tw3.below (w' := w') (by first | exact K | exact K.drew) hb'
      clear K hb'
      have K := K''
      clear K''
      (try simp only [World.size_drew] at K)
      refine hKK.out _ _ ?_ (fun hHeld => ?_)
      · exact by have f := K.t.facts i hiN; rw [HT.out] at f; exact ⟨f.1, f.2.1, K.x.hi, K.x.lo, K.c.hi, K.c.lo⟩
      clear hKK KK
      try simp only [Act.put]
      refine wpAnyH_take (i := 11) (oi := _) (v := ?_) rfl (by kernel_rfl) (by kernel_rfl) (by kernel_rfl) (fun _ _ _ h => h) (Or.inl ⟨by rfl, ?_⟩) (by assumption) ?_
      rotate_left
      · ((intro w hSw; (try dsimp only at hSw); go_simp) <;> (try with_reducible rfl))
      show wpAnyH _ _ _ _ _ _ _ (Act.put _ (some 32) _) _
      simp only [Act.put, List.setIfInBounds_toArray, List.set_cons_succ, List.set_cons_zero]
      refine wpAnyH_done (by kernel_rfl) ?_ _
      refine peel_last rfl (fun KK hKK => ?_)
      clear hHeld
      obtain ⟨r1, r0, f1, f0⟩ := K.t.facts i hiN
      rw [HT.out] at r1 r0
      go_simp
      refine hKK _ _ ?_
      refine NoPanic.normal ?_
      clear hKK KK
      have K4 : Tw3 W W0 ((w'.setCell ⟨W0.heap.size, i * 2, none⟩ (.int .u64 ((tmE cs c i).1 : Int))).setCell ⟨W0.heap.size, i * 2 + 1, none⟩ (.int .u64 ((tmE cs c i).2 : Int))) N (tmH cs c i) x P c (some ⟨b2, o2, none⟩) cs := K.put HAG.out.2.1 HAG.out.1 i _ _ fun j _ => by
        unfold tmH tmS
        by_cases h2 : j = i
        · rw [if_pos (by omega), if_pos h2, h2]
        · rw [if_neg h2]
          by_cases h3 : j < i
          · rw [if_pos (by omega), if_pos h3]
          · rw [if_neg (by omega), if_neg h3, if_neg h2]
      clear K r1 r0 f1 f0
      have K := K4
      clear K4
      generalize ((w'.setCell ⟨W0.heap.size, i * 2, none⟩ (.int .u64 ((tmE cs c i).1 : Int))).setCell ⟨W0.heap.size, i * 2 + 1, none⟩ (.int .u64 ((tmE cs c i).2 : Int))) = w6 at *
      obtain ⟨j, hj⟩ : ∃ j, j = i + 1 := ⟨_, rfl⟩
      have e2 : IntKind.i64.wrap ((i : Int) + 1) = (j : Int) := by rw [IntKind.wrap_i64]; omega
      have j2 : (j : Int) < (N : Int) := by omega
      have j0 : (0 : Int) ≤ (j : Int) := by omega
      rw [← hj] at HT2 HPV hiM
      have HJ := hidF hj
      clear hj i3
      go_upto_region 6 with fail
      refine wp_region_noPanic ?_
      refine wp_region_peel (S := fun w => w.cell? ⟨W0.heap.size, j * 2, none⟩ = some (.int .u64 0) ∧ w.cell? ⟨W0.heap.size, j * 2 + 1, none⟩ = some (.int .u64 0) ∧ w.cell? ⟨P, 0, none⟩ = some (.int .u64 (x.1 : Int)) ∧ w.cell? ⟨P, 1, none⟩ = some (.int .u64 (x.2 : Int))) 11 (by kernel_rfl) rfl (by kernel_rfl) ?_ (fun hHeld => ?_)
      · exact by have f := K.t.facts j hiM; rw [HT2.out] at f; exact ⟨f.1, f.2.1, K.x.hi, K.x.lo⟩
      refine wpAnyH_take (i := 0) (oi := _) (v := ?_) rfl (by kernel_rfl) (by kernel_rfl) (by kernel_rfl) (fun _ _ _ h => h) (Or.inl ⟨by rfl, ?_⟩) (by assumption) ?_
      rotate_left
      · ((intro w hSw; (try dsimp only at hSw); go_simp) <;> (try with_reducible rfl))
      show wpAnyH _ _ _ _ _ _ _ (Act.put _ (some 33) _) _
      simp only [Act.put, List.setIfInBounds_toArray, List.set_cons_succ, List.set_cons_zero]
      refine wpAnyH_take (i := 1) (oi := _) (v := ?_) rfl (by kernel_rfl) (by kernel_rfl) (by kernel_rfl) (fun _ _ _ h => h) (Or.inl ⟨by rfl, ?_⟩) (by assumption) ?_
      rotate_left
      · ((intro w hSw; (try dsimp only at hSw); go_simp) <;> (try with_reducible rfl))
      show wpAnyH _ _ _ _ _ _ _ (Act.put _ (some 34) _) _
      simp only [Act.put, List.setIfInBounds_toArray, List.set_cons_succ, List.set_cons_zero]
      refine wpAnyH_take (i := 2) (oi := _) (v := ?_) rfl (by kernel_rfl) (by kernel_rfl) (by kernel_rfl) (fun _ _ _ h => h) (Or.inl ⟨by rfl, ?_⟩) (by assumption) ?_
      rotate_left
      · ((intro w hSw; (try dsimp only at hSw); go_simp) <;> (try with_reducible rfl))
      show wpAnyH _ _ _ _ _ _ _ (Act.put _ (some 35) _) _
      simp only [Act.put, List.setIfInBounds_toArray, List.set_cons_succ, List.set_cons_zero]
      refine wpAnyH_take (i := 3) (oi := _) (v := ?_) rfl (by kernel_rfl) (by kernel_rfl) (by kernel_rfl) (fun _ _ _ h => h) (Or.inl ⟨by rfl, ?_⟩) (by assumption) ?_
      rotate_left
      · ((intro w hSw; (try dsimp only at hSw); go_simp) <;> (try with_reducible rfl))
      show wpAnyH _ _ _ _ _ _ _ (Act.put _ (some 36) _) _
      simp only [Act.put, List.setIfInBounds_toArray, List.set_cons_succ, List.set_cons_zero]
      refine wpAnyH_take (i := 4) (oi := _) (v := ?_) rfl (by kernel_rfl) (by kernel_rfl) (by kernel_rfl) (fun _ _ _ h => h) (Or.inl ⟨by rfl, ?_⟩) (by assumption) ?_
      rotate_left
      · ((intro w hSw; (try dsimp only at hSw); go_simp) <;> (try with_reducible rfl))
      show wpAnyH _ _ _ _ _ _ _ (Act.put _ (some 37) _) _
      simp only [Act.put, List.setIfInBounds_toArray, List.set_cons_succ, List.set_cons_zero]
      refine wpAnyH_take (i := 5) (oi := _) (v := ?_) rfl (by kernel_rfl) (by kernel_rfl) (by kernel_rfl) (fun _ _ _ h => h) (Or.inl ⟨by rfl, ?_⟩) (by assumption) ?_
      rotate_left
      · ((intro w hSw; (try dsimp only at hSw); go_simp) <;> (try with_reducible rfl))
      show wpAnyH _ _ _ _ _ _ _ (Act.put _ (some 38) _) _
      simp only [Act.put, List.setIfInBounds_toArray, List.set_cons_succ, List.set_cons_zero]
      refine wpAnyH_take (i := 6) (oi := _) (v := ?_) rfl (by kernel_rfl) (by kernel_rfl) (by kernel_rfl) (fun _ _ _ h => h) (Or.inl ⟨by rfl, ?_⟩) (by assumption) ?_
      rotate_left
      · ((intro w hSw; (try dsimp only at hSw); go_simp) <;> (try with_reducible rfl))
      show wpAnyH _ _ _ _ _ _ _ (Act.put _ (some 39) _) _
      simp only [Act.put, List.setIfInBounds_toArray, List.set_cons_succ, List.set_cons_zero]
      refine wpAnyH_take (i := 7) (oi := _) (v := ?_) rfl (by kernel_rfl) (by kernel_rfl) (by kernel_rfl) (fun _ _ _ h => h) (Or.inl ⟨by rfl, ?_⟩) (by assumption) ?_
      rotate_left
      · ((intro w hSw; (try dsimp only at hSw); go_simp) <;> (try with_reducible rfl))
      show wpAnyH _ _ _ _ _ _ _ (Act.put _ (some 40) _) _
      simp only [Act.put, List.setIfInBounds_toArray, List.set_cons_succ, List.set_cons_zero]
      refine wpAnyH_take (i := 8) (oi := _) (v := ?_) rfl (by kernel_rfl) (by kernel_rfl) (by kernel_rfl) (fun _ _ _ h => h) (Or.inl ⟨by rfl, ?_⟩) (by assumption) ?_
      rotate_left
      · ((intro w hSw; (try dsimp only at hSw); go_simp) <;> (try with_reducible rfl))
      show wpAnyH _ _ _ _ _ _ _ (Act.put _ (some 41) _) _
      simp only [Act.put, List.setIfInBounds_toArray, List.set_cons_succ, List.set_cons_zero]
      refine wpAnyH_ready (rs := [9]) (by kernel_rfl) (by simp) ?_
      refine AllReadyH.cons (o := _) rfl (fun KK hKK => ?_) AllReadyH.nil
      go_simp
      (go_at_call 23; refine (AD2.out.go _).mono ?_; rintro e w' ⟨rfl, hb'⟩)
      have K'' := Tw3.below (w' := w') (by first | exact K | exact K.drew) hb'
      clear K hb'
      have K := K''
      clear K''
      (try simp only [World.size_drew] at K)
      refine hKK.out _ _ ?_ (fun hHeld => ?_)
      · exact by have f := K.t.facts j hiM; rw [HT2.out] at f; exact ⟨f.1, f.2.1, K.x.hi, K.x.lo⟩
      clear hKK KK
      try simp only [Act.put]
      refine wpAnyH_take (i := 10) (oi := _) (v := ?_) rfl (by kernel_rfl) (by kernel_rfl) (by kernel_rfl) (fun _ _ _ h => h) (Or.inl ⟨by rfl, ?_⟩) (by assumption) ?_
      rotate_left
      · ((intro w hSw; (try dsimp only at hSw); go_simp) <;> (try with_reducible rfl))
      show wpAnyH _ _ _ _ _ _ _ (Act.put _ (some 43) _) _
      simp only [Act.put, List.setIfInBounds_toArray, List.set_cons_succ, List.set_cons_zero]
      refine wpAnyH_done (by kernel_rfl) ?_ _
      refine peel_last rfl (fun KK hKK => ?_)
      clear hHeld
      obtain ⟨r1, r0, f1, f0⟩ := K.t.facts j hiM
      rw [HT2.out] at r1 r0
      have r1' : w'.cell? ⟨W0.heap.size, j * 2, none⟩ = some (.int .u64 0) := r1
      have r0' : w'.cell? ⟨W0.heap.size, j * 2 + 1, none⟩ = some (.int .u64 0) := r0
      clear r1 r0
      go_simp
      refine hKK _ _ ?_
      refine NoPanic.normal ?_
      clear hKK KK
      have K7 : Tw3 W W0 ((w'.setCell ⟨W0.heap.size, j * 2, none⟩ (.int .u64 (x.1 : Int))).setCell ⟨W0.heap.size, j * 2 + 1, none⟩ (.int .u64 (x.2 : Int))) N (tmS cs c (i + 1)) x P c (some ⟨b2, o2, none⟩) cs := K.put HAG.out.2.1 HAG.out.1 j _ _ fun l _ => by
        unfold tmH tmS
        have h := HPV.out
        rw [HJ.out] at h
        rw [h, HJ.out]
        by_cases h2 : l = i + 1
        · rw [if_neg (by omega), if_pos h2, if_pos h2]
        · rw [if_neg h2, if_neg h2]
      have HK7 := hidF K7
      clear K K7 r1' r0' f1 f0
      go_wp2
      exact ⟨⟨i + 1, hlt, by rw [HJ.out], HK7.out.t, HK7.out.r, HK7.out.c⟩, by have := HJ.out; simp [intOf]; omega⟩
    · obtain rfl : i = n := by omega
      have HE : Hid (ERow wr (some ⟨W0.heap.size, 0, none⟩) (tms cs c) ∧ Below W.heap.size W wr) := ⟨HK.out.1.erow (by rw [tms_len, HIN.out.2.2.2.2, HNN.out]) (fun j hj => by
        have := HNN.out
        rw [tms_el cs c (by rw [HIN.out.2.2.2.2]; omega)]
        unfold tmS
        by_cases h : j < i
        · rw [if_pos h]
        · obtain rfl : j = i := by omega
          rw [if_neg (by omega), if_pos rfl]
          unfold tmE
          rw [show el cs j = (0, 0) by unfold el; rw [List.getD_eq_getElem?_getD, List.getElem?_eq_none (by rw [HIN.out.2.2.2.2]; omega)]; rfl, zero_pm, xa_zero]), HAG.out.2.2.trans (HK.out.1.d.mono (Nat.le_of_lt HAG.out.2.1))⟩
      have hge : W.heap.size ≤ W0.heap.size := Nat.le_of_lt HAG.out.2.1
      clear HK HIN HAG HZ0
      go_wp2
      go_ret
      exact ⟨_, rfl, hge, HE.out.1, HE.out.2⟩
end Go.Proofs.Ytjdfbjdbfncofaa
