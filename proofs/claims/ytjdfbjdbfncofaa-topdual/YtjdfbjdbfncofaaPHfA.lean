/- The contract of frob.Least, where all coefficients are 1, over the seat's translation. -/
import Derived.Test.YtjdfbjdbfncofaaFrE
import Derived.Test.YtjdfbjdbfncofaaTwX
import Derived.Test.YtjdfbjdbfncofaaPFrM
import Derived.Test.YtjdfbjdbfncofaaPHfS
namespace Go.Proofs.Ytjdfbjdbfncofaa
open Go.RowKit Go.Shelf
open Cb
open Tw (pm)

attribute [local go_sem] Oper.semAt_some

/-- The coefficients of the product of X + c over some c. -/
def cfl {k : Nat} (xs : List (Ek k)) : List (Nat × Nat) := xs.foldl (fun cs x => tms cs x.1) [(0, 1)]
theorem cfl_snoc {k : Nat} (xs : List (Ek k)) (x : Ek k) : cfl (xs ++ [x]) = tms (cfl xs) x.1 := by simp [cfl]
theorem cfl_len {k : Nat} (xs : List (Ek k)) : (cfl xs).length = xs.length + 1 := by
  have : ∀ (zs : List (Ek k)) (cs : List (Nat × Nat)), (zs.foldl (fun cs x => tms cs x.1) cs).length = zs.length + cs.length := by
    intro zs
    induction zs with
    | nil => intro cs; simp
    | cons z zs ih => intro cs; rw [List.foldl_cons, ih, tms_len, List.length_cons]; omega
  rw [cfl, this]; rfl
theorem of_tms {m : Nat} (hm : m < 8) {cs : List (Nat × Nat)} (h : ofT m cs) {c : Nat × Nat} (hc : ofE m c) : ofT m (tms cs c) := fun e he => by
  obtain ⟨j, _, rfl⟩ := List.mem_map.1 he
  unfold tmE
  refine of_xor hm ?_ (of_pm hm (h.el hm j) hc)
  unfold pvE; split
  · exact of_zeroF hm
  · exact h.el hm _
theorem cfl_fine {k m : Nat} (hm : m < 8) (hup : ∀ x : Ek k, ofE m x.1) (xs : List (Ek k)) : ltE (cfl xs) ∧ ofT m (cfl xs) := by
  have : ∀ (zs : List (Ek k)) (cs : List (Nat × Nat)), ltE cs → ofT m cs → ltE (zs.foldl (fun cs x => tms cs x.1) cs) ∧ ofT m (zs.foldl (fun cs x => tms cs x.1) cs) := by
    intro zs
    induction zs with
    | nil => exact fun cs h1 h2 => ⟨h1, h2⟩
    | cons z zs ih => exact fun cs h1 h2 => ih _ (lt_tms h1 _) (of_tms hm h2 (hup z))
  refine this xs _ ?_ ?_
  · intro e he; rw [List.mem_singleton.1 he]; exact lt_one
  · intro e he; rw [List.mem_singleton.1 he]; exact of_oneF hm
theorem ERow.blkF {A B : World} {g : Nat} {es : List (Nat × Nat)} (e : ERow A (some ⟨g, 0, none⟩) es) (h : B.heap[g]? = A.heap[g]?) (hs : g < B.heap.size) : ERow B (some ⟨g, 0, none⟩) es := ⟨fun i hi => by
  obtain ⟨b, off, e1, hb, c1, c0⟩ := e.cells i hi
  injection e1 with e2
  injection e2 with e3 e4
  subst e3 e4
  exact ⟨g, 0, rfl, hs, (World.cell?_of_block h).trans c1, (World.cell?_of_block h).trans c0⟩⟩
/-- A box that holds one value. -/
structure Bv (w : World) (b : Nat) (v : Value) : Prop where
  c : w.cell? ⟨b, 0, none⟩ = some v
  f : w.frozen? ⟨b, 0, none⟩ = false
theorem Bv.blkF {A B : World} {b : Nat} {v : Value} (e : Bv A b v) (h : B.heap[b]? = A.heap[b]?) : Bv B b v := ⟨(World.cell?_of_block h).trans e.c, (World.frozen?_of_block h).trans e.f⟩
theorem Bv.lt {A : World} {b : Nat} {v : Value} (e : Bv A b v) : b < A.heap.size := cell_ltF e.c
theorem Bv.below {A B : World} {b : Nat} {v : Value} (e : Bv A b v) (h : Below A.heap.size A B) : Bv B b v := e.blkF (h.block b e.lt)
theorem Bv.newF (w : World) (v : Value) (T : TypeId) : Bv (w.alloc (Obj.cells #[v] T)) w.heap.size v := ⟨by simp [go_sem], by simp [go_sem]⟩

theorem wpListIn_make_fullF {F : Fence} {n : Nat} {P : Program} (w : World) {ops : Array Oper} {rest : List Oper} {o : Oper} {a : Act} {Q : Exit → Act → World → Prop}
    (hg : o.guard = none) (l c : Operand) (t : TypeId) (hop : o.op = Op.makeSlice t l c)
    (base : Nat) (e : TypeId) (i : TypeInfo) (z : Value) (size : Nat) (h1 : P.underlying t = some (.slice e)) (h2 : P.info? e = some i) (h3 : i.zero = some z) (h4 : i.size = size)
    (kl kc : IntKind) (L C : Int) (m : Nat) (hl : a.eval l = .int kl L) (hc : a.eval c = .int kc C) (hL : L = (m : Int)) (hC : C = (m : Int)) (b2 : i.bytes * m ≤ 281474976710656) (b3 : m ≤ maxLen) (b4 : base ≤ w.heap.size)
    (hK : ∀ w', w'.ownsRow base e size (.slice (some ⟨w.heap.size, 0, none⟩) m m) m (madeCells z.cells (m * size)).toList → w.grownBy w' none → wpListIn F n P ops Q rest (a.put o.dst (.slice (some ⟨w.heap.size, 0, none⟩) m m)) w') :
    wpListIn F n P ops Q (o :: rest) a w := by
  refine wpListIn_plain hg fun K hK' => ?_
  obtain ⟨w', hrun, r1, r2⟩ := run_make_full (P := P) w base t e i z size h1 h2 h3 h4 kl kc m b2 b3 b4
  subst hL
  subst hC
  unfold Oper.wpIn
  refine ⟨by simp [Oper.about, hop], ?_⟩
  rw [Oper.semAt_plain F _ _ (by rw [hop]; intro c hc'; cases hc')]
  simp [execOp, hop, hl, hc, hrun, Result.andThen]
  exact hK' _ _ (hK w' r1 r2)
def NoP (Q : Exit → Act → World → Prop) : Exit → Act → World → Prop
  | .panic _, _, _ => False
  | .normal, a, w => Q .normal a w
  | .ret, a, w => Q .ret a w
  | .exit i, a, w => Q (.exit i) a w
  | .goto t, a, w => Q (.goto t) a w
  | .outgrown, a, w => Q .outgrown a w
theorem NoP.out {Q : Exit → Act → World → Prop} : ∀ (e : Exit) (a : Act) (w : World), NoP Q e a w → Q e a w
  | .panic _, _, _, h => h.elim
  | .normal, _, _, h => h
  | .ret, _, _, h => h
  | .exit _, _, _, h => h
  | .goto _, _, _, h => h
  | .outgrown, _, _, h => h
theorem NoP.normal {Q : Exit → Act → World → Prop} {a : Act} {w : World} (h : Q .normal a w) : NoP Q .normal a w := h
theorem own_rowF {w : World} {base : Nat} {T : TypeId} {g n : Nat} {xs : List Value} (h : w.ownsRow base T 1 (.slice (some ⟨g, 0, none⟩) n n) n xs) : ∃ f, w.rowIs g T n f := by
  rcases h.2 with ⟨h1, _⟩ | ⟨g', cap, cur, e, _, hg, _, _, hs, _⟩
  · injection h1 with h2; cases h2
  · injection e with e1 e2 e3
    obtain rfl : g = g' := by injection e1 with e4; injection e4
    subst e3
    rw [Nat.mul_one] at hs
    exact ⟨fun i => cur.getD i undef, cur, hg, hs, fun i hi => by
      show cur[i]? = some (cur.getD i undef)
      rw [Array.getD_eq_getD_getElem?, Array.getElem?_eq_getElem (by omega)]; rfl⟩
theorem info_boolF : (Try.prog.info? 4).map (fun i => (i.zero, i.size, i.bytes)) = some (some (.bool false), 1, 1) := by kernel_rfl
set_option maxRecDepth 100000 in
set_option maxHeartbeats 8000000 in
theorem least_ones (k : Nat) (hk : k < 8) (a : Nat × Nat) (la : lt2 a) (oa : ofE k a) (kk : Nat) (hup : ∀ x : Ek kk, ofE k x.1) (xs : List (Ek kk)) (n : Nat) (hn : xs.length + 1 = n) (hn1 : n ≤ 200) (hones : cfl xs = List.replicate n (0, 1)) (HS : ∀ (w : World) (b1 b2 b3 : Nat), Caught w b1 b2 b3 (lvl a.1 a.2) 0 a → SeqPriv Fence.wide (3 - 1) Try.prog 53 #[.pointer (some ⟨b1, 0, none⟩), .pointer (some ⟨b2, 0, none⟩), .pointer (some ⟨b3, 0, none⟩)] (fun x : Ek kk => #[enE x.1]) (capB b1 b2 b3) xs w) (W : World) :
    Calls Try.prog 18 #[.int .i64 (k : Int), .agg #[.int .u64 (a.1 : Int), .int .u64 (a.2 : Int)]] W fun e w' => ∃ u, e = .returned (.slice (some ⟨u, 0, none⟩) n n) ∧ (∀ i, i < n → w'.cell? ⟨u, i, none⟩ = some (.bool true)) ∧ Below W.heap.size W w' := by
  have HO := hidF (of_ret (k : Int) a.1 a.2 la.2)
  rw [show ofB (k : Int) (a.1 : Int) (a.2 : Int) = true from oa] at HO
  have HL := hidF (level_ret a.1 a.2 la.2)
  have HON := hidF one_any
  have hmix : Try.prog.follows .mixedOrders = true := by kernel_rfl
  refine (callsIn_wide (n := 3)).1 ?_
  have h1 : 1 ≤ 3 := by omega
  refine callsIn_of_wp_marks Try.func18 rfl trivial ?_ rfl
  simp only [Try.ntmps18, List.size_toArray, List.length_cons, List.length_nil, Nat.reduceAdd, Nat.reduceSub, Array.replicate_succ, Array.replicate_zero, List.push_toArray, List.append_toArray, List.nil_append, List.cons_append]
  have HI := fun w => conj_in (3 - 1) (lvl a.1 a.2) 0 a w
  unfold enE at HI
  have HI' := hidF HI
  clear HI
  gi_wp2_with (first
    | (refine ⟨trivial, ?_⟩; gi_at_call 20; refine (callsIn_wide.2 (HO.out.go _)).mono ?_; rintro e w1 ⟨rfl, hb1⟩; have ea : El w1 (W.heap.size + 1) a.1 a.2 := El.below ⟨by simp [go_sem], by simp [go_sem]⟩ hb1; have ev : w1.cell? ⟨W.heap.size, 0, none⟩ = some (.int .i64 (k : Int)) := cellB hb1 (by simp [go_sem]); have eb : Below W.heap.size W w1 := (((Below.refl _ _).alloc (Nat.le_refl _) _).alloc (by simp) _).trans (hb1.mono (by simp; omega)); have EK := hidF (And.intro ea (And.intro ev eb)); clear hb1 eb ea ev)
    | (refine ⟨trivial, ?_⟩; gi_at_call 16; refine (callsIn_wide.2 (HON.out _)).mono ?_; rintro e w2 ⟨rfl, hb2⟩; have EK2 := hidF (And.intro (EK.out.1.below hb2) (And.intro (cellB hb2 EK.out.2.1) (EK.out.2.2.trans (hb2.mono EK.out.2.2.size)))); clear hb2 EK))
  obtain ⟨Y, hY⟩ : ∃ Y, Y = ((w2.alloc (Obj.cells #[.int .u64 0, .int .u64 1] 24)).alloc (Obj.cells #[.slice (some ⟨w2.heap.size, 0, none⟩) 1 1] 26)) := ⟨_, rfl⟩
  have YB : Below w2.heap.size w2 Y := by rw [hY]; exact ((Below.refl _ _).alloc (Nat.le_refl _) _).alloc (by simp) _
  have YA : El Y (W.heap.size + 1) a.1 a.2 := EK2.out.1.below YB
  have YL : Y.cell? ⟨W.heap.size, 0, none⟩ = some (.int .i64 (k : Int)) := cellB YB EK2.out.2.1
  have YC : Bv Y (w2.heap.size + 1) (.slice (some ⟨w2.heap.size, 0, none⟩) 1 1) := by rw [hY]; exact ⟨by simp [go_sem], by simp [go_sem]⟩
  have YR : ERow Y (some ⟨w2.heap.size, 0, none⟩) [(0, 1)] := by
    rw [hY]
    refine ⟨fun i hi => ?_⟩
    obtain rfl : i = 0 := by simp at hi; omega
    exact ⟨w2.heap.size, 0, rfl, by simp; omega, by simp [go_sem], by simp [go_sem]⟩
  have YW : Below W.heap.size W Y := EK2.out.2.2.trans (YB.mono EK2.out.2.2.size)
  have YZ : W.heap.size + 1 < w2.heap.size := cell_ltF EK2.out.1.hi
  rw [← hY]
  have KY := hidF (And.intro YA (And.intro YL (And.intro YC (And.intro YR YW))))
  have ya1 := YA.hi
  have ya0 := YA.lo
  clear hY YB YA YL YC YR YW EK2 HO HON
  obtain ⟨p, hp⟩ : ∃ p, p = w2.heap.size + 1 := ⟨_, rfl⟩
  rw [← hp] at KY ⊢
  have hpz : W.heap.size + 1 + 1 < p := by omega
  obtain ⟨g0, hg0⟩ : ∃ g0, g0 = w2.heap.size := ⟨_, rfl⟩
  rw [← hg0] at KY ⊢
  have hgp : W.heap.size + 1 < g0 ∧ g0 < p := by omega
  clear hg0 hp YZ
  gi_region_with_o (first
    | (refine ⟨trivial, ?_⟩; gi_at_call 35; refine (callsIn_wide.2 (HL.out.go _)).mono ?_; rintro e w3 ⟨rfl, hb3⟩; have KX := hidF (And.intro (KY.out.1.below (below_drewF hb3)) (And.intro (cellB (below_drewF hb3) KY.out.2.1) (And.intro (KY.out.2.2.1.below (below_drewF hb3)) (And.intro (KY.out.2.2.2.1.below (below_drewF hb3)) (KY.out.2.2.2.2.trans ((below_drewF hb3).mono KY.out.2.2.2.2.size)))))); clear hb3 ya1 ya0; have ya1 := KX.out.1.hi; have ya0 := KX.out.1.lo)
    | (refine ⟨trivial, ?_⟩; gi_at_call 33; refine (HI'.out _).mono ?_; rintro e w4 ⟨rfl, hc4, hb4, hs4⟩))
  all_goals (
    have hz3 : p < w3.heap.size := KX.out.2.2.1.lt
    have KZ := hidF (And.intro (cellB hb4 KX.out.2.1) (And.intro (KX.out.2.2.1.below hb4) (And.intro (KX.out.2.2.2.1.below hb4) (KX.out.2.2.2.2.trans (hb4.mono KX.out.2.2.2.2.size)))))
    clear KX KY ya1 ya0 HI' HL hb4
    have HZ := hidF hs4
    clear hs4
    generalize w3.heap.size = r3 at *
    have hCap : ∀ i, capB r3 (r3 + 1) (r3 + 1 + 1) i → p < i ∧ i < w4.heap.size := fun i hi => by
      have := HZ.out
      rcases hi with h | h | h <;> omega
    gi_wp2
    refine rangePriv (xs := xs) rfl h1 (gf := 53) (lb := #[.pointer (some ⟨r3, 0, none⟩), .pointer (some ⟨r3 + 1, 0, none⟩), .pointer (some ⟨r3 + 1 + 1, 0, none⟩)]) rfl trivial (enters_of Try.func53 (by kernel_rfl) rfl) (encs := fun x : Ek kk => #[enE x.1]) (fun _ => rfl) (fun i hi => (hCap i hi).2) (HS w4 _ _ _ hc4)
      (fun q pre X => ∃ g, Bv X p (.slice (some ⟨g, 0, none⟩) (pre.length + 1) (pre.length + 1)) ∧ ERow X (some ⟨g, 0, none⟩) (cfl pre) ∧ (g < X.heap.size ∧ g ≠ q ∧ g ≠ p ∧ g ≠ w4.heap.size ∧ g ≠ w4.heap.size + 1) ∧ X.cell? ⟨W.heap.size, 0, none⟩ = some (.int .i64 (k : Int)) ∧ Below W.heap.size W X) ?_ ?_ ?_ ?_
    · rintro q pre A B hq ⟨g, s, r, hg, c, b⟩ hb ho
      have hA := s.lt
      have := HZ.out
      exact ⟨g, s.blkF (ho _ hA (by omega) (by omega) (by omega)), r.blkF (ho _ hg.1 hg.2.1 hg.2.2.2.1 hg.2.2.2.2) (Nat.lt_of_lt_of_le hg.1 hb.size), ⟨Nat.lt_of_lt_of_le hg.1 hb.size, hg.2⟩, (World.cell?_of_block (ho W.heap.size (by omega) (by omega) (by omega) (by omega))).trans c, b.trans (hb.mono (by omega))⟩
    · intro q A hq hA
      have := HZ.out
      have hsz := hA.size
      exact ⟨g0, KZ.out.2.1.below hA, KZ.out.2.2.1.below hA, ⟨by omega, by omega, by omega, by omega, by omega⟩, cellB hA KZ.out.1, KZ.out.2.2.2.trans (hA.mono KZ.out.2.2.2.size)⟩
    · rintro y q pre x X hq hqX hlx ⟨g, s, r, hg, c, b⟩
      unfold enE
      have hz1 : p < w4.heap.size := (by have := HZ.out; omega)
      gi_wp2
      refine ⟨Kept.below ((Below.refl _ _).alloc (Nat.le_refl _) _), fun o => ?_⟩
      obtain ⟨X2, hX2⟩ : ∃ X2, X2 = (X.alloc (Obj.cells #[.int .u64 (x.1.1 : Int), .int .u64 (x.1.2 : Int)] 24)).putObj (w4.heap.size + 1) o := ⟨_, rfl⟩
      have P2 : ∀ i, i < X.heap.size → i ≠ w4.heap.size + 1 → X2.heap[i]? = X.heap[i]? := fun i hi hn => by rw [hX2]; exact (World.putObj_heap_other hn).trans (Below.heap_alloc _ _ _ hi)
      have ez2 : X2.heap.size = X.heap.size + 1 := by rw [hX2]; simp [World.putObj]
      have es2 : Bv X2 p (.slice (some ⟨g, 0, none⟩) (pre.length + 1) (pre.length + 1)) := s.blkF (P2 _ s.lt (by omega))
      have er2 : ERow X2 (some ⟨g, 0, none⟩) (cfl pre) := r.blkF (P2 _ hg.1 hg.2.2.2.2) (by omega)
      have ec2 : X2.cell? ⟨W.heap.size, 0, none⟩ = some (.int .i64 (k : Int)) := (World.cell?_of_block (P2 W.heap.size (by have := s.lt; omega) (by omega))).trans c
      have ex2 : El X2 X.heap.size x.1.1 x.1.2 := by rw [hX2]; exact (Ew.newF X x.1 _).toEl.blkF (World.putObj_heap_other (by omega))
      have eb2 : Below W.heap.size W X2 := by
        rw [hX2]; exact (b.alloc b.size _).trans (below_putF _ _ _ (by simp; omega) (by omega))
      rw [← hX2]
      have hf := cfl_fine hk hup pre
      have hlen : pre.length + 1 ≤ 1000 := by omega
      have HA := hidF (times_ok k hk (some ⟨g, 0, none⟩) (pre.length + 1) (pre.length + 1) (pre.length + 1 + 1) (cfl pre) x.1 (cfl_len pre) rfl hlen hf.1 hf.2 x.2.1 (hup x) X2 er2 (fun g' off e => by injection e with e; injection e with e1 e2; omega))
      rw [← cfl_snoc] at HA
      have K2 := hidF (And.intro es2 (And.intro ec2 (And.intro eb2 (And.intro hg ez2))))
      have es1 := es2.c
      have ex1 := ex2.hi
      have ex0 := ex2.lo
      clear hX2 s r b c P2 es2 er2 ex2 eb2 hf hg ez2
      gi_wp2_with (refine ⟨trivial, ?_⟩; gi_at_call 36; refine (CallsIn.inRound y (callsIn_wide.2 HA.out)).mono ?_; rintro e w5 ⟨g', rfl, hg', hr5, hb5⟩; have K5 := hidF (And.intro (K2.out.1.below hb5) (And.intro (cellB hb5 K2.out.2.1) (And.intro (Kept.below (C := Held q w4.heap.size (capB r3 (r3 + 1) (r3 + 1 + 1))) hb5) (And.intro (K2.out.2.2.1.trans (hb5.mono K2.out.2.2.1.size)) (And.intro hr5 hg'))))); have es5 := K5.out.1.c; have ef5 := K5.out.1.f; clear hb5 es1 ex1 ex0 ec2 hr5 hg')
      have hzx : X2.heap.size = X.heap.size + 1 := K2.out.2.2.2.2
      have hgx := K5.out.2.2.2.2.2
      have hgl : g' < w5.heap.size := by
        obtain ⟨b', off', e1, hb', _⟩ := K5.out.2.2.2.2.1.cells 0 (by rw [cfl_len]; omega)
        injection e1 with e2
        injection e2 with e3 e4
        rw [e3]; exact hb'
      have nH : ¬ Held q w4.heap.size (capB r3 (r3 + 1) (r3 + 1 + 1)) p := by
        rintro ((h | h) | h | h)
        · omega
        · have := hCap _ h; omega
        · omega
        · omega
      have hbs := Below.heap_setCell w5 ⟨p, 0, none⟩ (.slice (some ⟨g', 0, none⟩) (pre.length + 1 + 1) (pre.length + 1 + 1)) g' (by simp; omega)
      have hss : (w5.setCell ⟨p, 0, none⟩ (.slice (some ⟨g', 0, none⟩) (pre.length + 1 + 1) (pre.length + 1 + 1))).heap.size = w5.heap.size := by simp [World.setCell]
      refine ⟨K5.out.2.2.1.trans (Kept.set _ _ _ _ nH), g', ⟨World.cell?_setCell_same' _ _ _ (by rw [es5]; rfl), by rw [World.frozen?_setCell]; exact ef5⟩, ?_, ⟨by omega, by omega, by omega, by omega, by omega⟩, ?_, K5.out.2.2.2.1.setCell (by simp; omega) _⟩
      · exact K5.out.2.2.2.2.1.blkF hbs (by omega)
      · exact K5.out.2.1
    · rintro q X hq ⟨g, s, r, hg, c, b⟩ hD
      rw [hn] at s
      rw [hones] at r
      obtain ⟨i0, hi, hz0, hz1, hz2⟩ := info_parts info_boolF
      have es1 := s.c
      have HD := hidF hD
      have HK := hidF (And.intro s (And.intro r (And.intro hg b)))
      have hz1' : p < w4.heap.size := (by have := HZ.out; omega)
      clear s r c b hD KZ
      gi_wp2_with (gi_at_make; refine wpListIn_make_fullF _ rfl _ _ 35 rfl 0 4 i0 (.bool false) 1 Try.underlying35 hi hz0 hz1 .i64 .i64 _ _ n rfl rfl rfl rfl (by rw [hz2]; omega) (by simp only [maxLen]; omega) (Nat.zero_le _) ?_; intro w6 own6 hgr6; have hb6 : Below X.heap.size X w6 := (Below.refl _ _).grown hgr6 (Nat.le_refl _) (fun k hk => by cases hk); obtain ⟨f6, R6⟩ := own_rowF own6; have es6 := cellB hb6 es1; have K6 := hidF (And.intro (hb6.block w4.heap.size (Array.getElem?_eq_some_iff.1 HD.out).1 |>.trans HD.out) (And.intro (HK.out.2.1.below hb6) (HK.out.2.2.2.trans (hb6.mono HK.out.2.2.2.size)))); clear own6 hgr6 hb6 es1)
      gi_loopw [30] (fun u wr => ∃ (i : Nat) (f : Nat → Value), i ≤ n ∧ u = .int .i64 i ∧ Hid (wr.rowIs X.heap.size 4 n f ∧ (∀ j, j < i → f j = .bool true) ∧ wr.heap[w4.heap.size]? = some (.deferred (some [])) ∧ ERow wr (some ⟨g, 0, none⟩) (List.replicate n (0, 1)) ∧ Below W.heap.size W wr)) (fun u _ => n - (intOf u).toNat)
      case atStart => exact ⟨0, f6, Nat.zero_le _, rfl, R6, fun j hj => absurd hj (Nat.not_lt_zero _), K6.out.1, K6.out.2.1, K6.out.2.2⟩
      case round =>
        obtain ⟨i, f, hi', rfl, HR⟩ := hrel
        have hgx := HK.out.2.2.1
        have hXs : X.heap.size < wr.heap.size := HR.out.1.lt
        have hXd : w4.heap.size < X.heap.size := (Array.getElem?_eq_some_iff.1 HD.out).1
        have hWX : W.heap.size ≤ X.heap.size := HK.out.2.2.2.size
        clear K6 R6 es6 HK HD hi hz0 hz1 hz2 hg
        by_cases hlt : i < n
        · obtain ⟨b', off', e1, hb', c1, c0⟩ := HR.out.2.2.2.1.cells i (by simp; exact hlt)
          injection e1 with e2
          injection e2 with e3 e4
          subst e3 e4
          have hv : (List.replicate n ((0 : Nat), (1 : Nat))).getD i (0, 0) = (0, 1) := by simp [List.getD, hlt]
          rw [hv] at c1 c0
          have c1' : wr.cell? ⟨g, i * 2, none⟩ = some (.int .u64 0) := by rw [Nat.zero_add] at c1; exact c1
          have c0' : wr.cell? ⟨g, i * 2 + 1, none⟩ = some (.int .u64 1) := by rw [Nat.zero_add] at c0; exact c0
          have i1 : (i : Int) < (n : Int) := by omega
          have i0' : (0 : Int) ≤ (i : Int) := by omega
          have HON := hidF one_any
          clear c1 c0 hv hb'
          gi_wp2
          obtain ⟨Z, hZ⟩ : ∃ Z, Z = wr.alloc (Obj.cells #[.int .u64 0, .int .u64 1] 24) := ⟨_, rfl⟩
          have ZB : Below wr.heap.size wr Z := by rw [hZ]; exact below_alF _ _
          have ZX : El Z wr.heap.size 0 1 := by rw [hZ]; exact ⟨by simp [go_sem], by simp [go_sem]⟩
          have HZR := hidF (And.intro (HR.out.1.of_block (ZB.block _ hXs)) (And.intro ((ZB.block _ (by omega)).trans HR.out.2.2.1) (And.intro (HR.out.2.2.2.1.below ZB) (HR.out.2.2.2.2.trans (ZB.mono HR.out.2.2.2.2.size)))))
          rw [← hZ]
          have zx1 : Z.cell? ⟨wr.heap.size, 0, none⟩ = some (.int .u64 0) := ZX.hi
          have zx0 : Z.cell? ⟨wr.heap.size, 1, none⟩ = some (.int .u64 1) := ZX.lo
          have zr := HZR.out.1.cell hlt
          have zf := HZR.out.1.frozen i
          clear c1' c0' hZ ZB ZX
          refine wpIn_mono (Q := NoP _) ?_ NoP.out
          gi_region_with_o (refine ⟨trivial, ?_⟩; gi_at_call 16; refine (callsIn_wide.2 (HON.out _)).mono ?_; rintro e w7 ⟨rfl, hb7⟩; have K7 := hidF (And.intro (HZR.out.1.of_block ((below_drewF hb7).block _ HZR.out.1.lt)) (And.intro (((below_drewF hb7).block _ (Array.getElem?_eq_some_iff.1 HZR.out.2.1).1).trans HZR.out.2.1) (And.intro (HZR.out.2.2.1.below (below_drewF hb7)) (HZR.out.2.2.2.trans ((below_drewF hb7).mono HZR.out.2.2.2.size))))); have zx1' := cellB (below_drewF hb7) zx1; have zx0' := cellB (below_drewF hb7) zx0; have zr' := K7.out.1.cell hlt; have zf' := K7.out.1.frozen i; clear hb7 zx1 zx0 zr zf)
          all_goals (
            refine NoP.normal ?_
            gi_wp2
            have hw7 := K7.out.1.lt
            refine ⟨⟨i + 1, _, hlt, by simp, K7.out.1.set i _, fun j hj => ?_, ?_, ?_, K7.out.2.2.2.setCell (by simp; omega) _⟩, by simp [intOf]; omega⟩
            · by_cases h : j = i
              · rw [if_pos h]
              · rw [if_neg h]; exact HR.out.2.1 j (by omega)
            · exact (Below.heap_setCell _ _ _ _ (by simp; omega)).trans K7.out.2.1
            · exact K7.out.2.2.1.blkF (Below.heap_setCell _ _ _ _ (by simp; omega)) (by simp [World.setCell]; omega))
        · obtain rfl : i = n := by omega
          gi_wp2
          refine ⟨by simp, .inl ⟨_, _, rfl, run_takeDeferred HR.out.2.2.1, ?_⟩⟩
          refine ⟨_, results_tmp rfl _ _ _, X.heap.size, rfl, fun j hj => ?_, HR.out.2.2.2.2.trans (below_putF _ w4.heap.size (.deferred none) (by omega) (by have := HZ.out; omega))⟩
          rw [World.cell?_of_block (World.putObj_heap_other (show X.heap.size ≠ w4.heap.size by omega)), HR.out.1.cell hj, HR.out.2.1 j hj])
end Go.Proofs.Ytjdfbjdbfncofaa

/- Least polynomials, pure: products of X + c, in whatever order; their coefficients are 0 and 1; their values. No Go in sight. -/
namespace Go.Proofs.Ytjdfbjdbfncofaa
open Cb
open Tw (pm)
namespace Fr

/-- What is its own power is of the level. -/
theorem fixed_of {j : Nat} (hj8 : j < 8) {t : Nat × Nat} (l : lt2 t) (hf : sqv t (2 ^ j) = t) : ofE j t := by
  have hx : Tw.d7 (sqv t (2 ^ j)).1 (sqv t (2 ^ j)).2 = Tw.d7 t.1 t.2 := by rw [hf]
  rw [d7_sqv] at hx
  refine (ofB_iff j t.1 t.2 hj8).2 ?_
  by_cases h7 : j = 7
  · exact .inl h7
  · right
    have hlev := Tw.fixed_levels j (7 - j)
    rw [show j + (7 - j) = 7 by omega] at hlev
    have hb := hlev _ hx
    have e7 : Tw.enc 7 (Tw.d7 t.1 t.2) = 2 ^ 64 * t.1 + t.2 := by
      rw [← Tw.dec7 t.1 t.2 l.2, Tw.enc_dec_lt]
      · have := l.1; have := l.2
        show 2 ^ 64 * t.1 + t.2 < 2 ^ 128
        omega
    rw [e7] at hb
    have hp : 2 ^ 2 ^ j ≤ 2 ^ 64 := Nat.pow_le_pow_right (by decide) (Nat.pow_le_pow_right (n := 2) (by decide) (show j ≤ 6 by omega))
    have h0 : t.1 = 0 := by
      rcases Nat.eq_zero_or_pos t.1 with h0 | h0
      · exact h0
      · exfalso
        have : 2 ^ 64 * 1 ≤ 2 ^ 64 * t.1 := Nat.mul_le_mul_left _ h0
        omega
    rw [h0] at hb
    exact ⟨h0, by omega⟩
theorem doubled : ∀ K m : Nat, 0 < m → m < 2 ^ (K + 1) → ∃ t, (m * 2 ^ t) % 2 ^ (K + 1) = 2 ^ K
  | 0, m, h0, h1 => ⟨0, by
    have : m = 1 := by simp at h1; omega
    subst this; rfl⟩
  | K + 1, m, h0, h1 => by
    by_cases hm : m % 2 ^ (K + 1) = 0
    · refine ⟨0, ?_⟩
      have e := Nat.div_add_mod m (2 ^ (K + 1))
      have hq : m / 2 ^ (K + 1) = 1 := by
        have h2 : m / 2 ^ (K + 1) < 2 := Nat.div_lt_of_lt_mul (by rw [← Nat.pow_succ]; exact h1)
        have h3 : 0 < m / 2 ^ (K + 1) := by
          rcases Nat.eq_zero_or_pos (m / 2 ^ (K + 1)) with h | h
          · rw [h, hm] at e; omega
          · exact h
        omega
      rw [hq, hm] at e
      rw [Nat.pow_zero, Nat.mul_one, Nat.mod_eq_of_lt h1]; omega
    · obtain ⟨t, ht⟩ := doubled K (m % 2 ^ (K + 1)) (Nat.pos_of_ne_zero hm) (Nat.mod_lt _ (Nat.two_pow_pos _))
      refine ⟨t + 1, ?_⟩
      have e1 : (m * 2 ^ t) % 2 ^ (K + 1) = 2 ^ K := by rw [← ht, Nat.mod_mul_mod]
      rw [Nat.pow_succ 2 t, ← Nat.mul_assoc, Nat.mul_comm (m * 2 ^ t) 2, Nat.pow_succ 2 (K + 1), Nat.mul_comm (2 ^ (K + 1)) 2, Nat.mul_mod_mul_left, e1, Nat.pow_succ, Nat.mul_comm]
theorem sqv_mul {a : Nat × Nat} (la : lt2 a) {m : Nat} (h : sqv a m = a) : ∀ n, sqv a (m * n) = a
  | 0 => rfl
  | n + 1 => by rw [Nat.mul_succ, ← sqv_sqv la, sqv_mul la h n, h]
/-- No conjugate comes twice in the element's own level. -/
theorem conj_ne {k : Nat} (hk : k < 8) {a : Nat × Nat} (la : lt2 a) (oa : ofE k a) (hno : ∀ j, j < k → ¬ ofE j a) {i j : Nat} (hij : i < j) (hj : j < 2 ^ k) : sqv a i ≠ sqv a j := fun e => by
  have hM := sqv_back hk la oa
  have e2 : sqv a (j - i) = a := by
    have h1 : sqv (sqv a i) (2 ^ k - i) = sqv (sqv a j) (2 ^ k - i) := by rw [e]
    rw [sqv_sqv la, sqv_sqv la, show i + (2 ^ k - i) = 2 ^ k by omega, hM, show j + (2 ^ k - i) = 2 ^ k + (j - i) by omega, ← sqv_sqv la, hM] at h1
    exact h1.symm
  rcases k with _ | K
  · simp at hj; omega
  · obtain ⟨t, ht⟩ := doubled K (j - i) (by omega) (by omega)
    have h3 := sqv_mul la e2 (2 ^ t)
    have e4 := Nat.div_add_mod ((j - i) * 2 ^ t) (2 ^ (K + 1))
    rw [ht] at e4
    rw [← e4, ← sqv_sqv la, sqv_mul la hM] at h3
    exact hno K (by omega) (fixed_of (by omega) la h3)
theorem conj_again {k : Nat} (hk : k < 8) {a : Nat × Nat} (la : lt2 a) (oa : ofE k a) (i : Nat) : sqv a (i % 2 ^ k) = sqv a i := by
  have := Nat.div_add_mod i (2 ^ k)
  conv => rhs; rw [← this]
  rw [← sqv_sqv la, sqv_mul la (sqv_back hk la oa)]
theorem zero_pmL (c : Nat × Nat) : pm (0, 0) c = (0, 0) := by rw [Tw.pm_comm', pm_zero]
theorem el_over {cs : List (Nat × Nat)} {j : Nat} (h : cs.length ≤ j) : el cs j = (0, 0) := by
  unfold el
  rw [List.getD_eq_getElem?_getD, List.getElem?_eq_none h]; rfl
theorem el_tms (cs : List (Nat × Nat)) (c : Nat × Nat) (j : Nat) : el (tms cs c) j = tmE cs c j := by
  by_cases h : j < cs.length + 1
  · exact tms_el cs c h
  · rw [el_over (by rw [tms_len]; omega)]
    unfold tmE pvE
    rw [if_neg (by omega), el_over (cs := cs) (j := j - 1) (by omega), el_over (cs := cs) (j := j) (by omega), zero_pmL]
    rfl
theorem ext_el {a b : List (Nat × Nat)} (hl : a.length = b.length) (h : ∀ j, el a j = el b j) : a = b := by
  refine List.ext_getElem hl fun i h1 h2 => ?_
  have := h i
  unfold el at this
  simpa [List.getD_eq_getElem?_getD, h1, h2] using this
theorem tms_comm (cs : List (Nat × Nat)) (c d : Nat × Nat) : tms (tms cs c) d = tms (tms cs d) c := by
  refine ext_el (by simp [tms_len]) fun j => ?_
  rw [el_tms, el_tms]
  unfold tmE
  rw [el_tms, el_tms]
  have hp : ∀ e, pvE (tms cs e) j = if j = 0 then (0, 0) else tmE cs e (j - 1) := fun e => by
    unfold pvE
    rw [el_tms]
  rw [hp, hp]
  unfold tmE
  have q : ∀ x : Nat × Nat, pm (pm x c) d = pm (pm x d) c := fun x => by rw [Tw.pm_assoc', Tw.pm_comm' c d, ← Tw.pm_assoc']
  have ad : ∀ x y z : Nat × Nat, pm (xa x y) z = xa (pm x z) (pm y z) := fun x y z => by rw [Tw.pm_comm', pm_xa, Tw.pm_comm' z x, Tw.pm_comm' z y]
  by_cases h0 : j = 0
  · subst h0
    simp only [if_true]
    rw [show pvE cs 0 = (0, 0) from rfl, zero_xa, zero_xa, zero_xa, zero_xa]
    exact q _
  · simp only [h0, if_false]
    rw [show pvE cs j = el cs (j - 1) by unfold pvE; rw [if_neg h0], ad, ad, q (el cs j)]
    rw [← xa_assoc, ← xa_assoc, xa_assoc (pvE cs (j - 1)), xa_assoc (pvE cs (j - 1)), xa_comm (pm (el cs (j - 1)) c)]
    simp only [xa_assoc]
/-- All multiplied. -/
def prd (s : List (Nat × Nat)) (l : List (Nat × Nat)) : List (Nat × Nat) := l.foldl tms s
theorem prd_snoc (s l : List (Nat × Nat)) (c : Nat × Nat) : prd s (l ++ [c]) = tms (prd s l) c := by simp [prd]
theorem prd_front (c : Nat × Nat) : ∀ (l s : List (Nat × Nat)), prd s (c :: l) = tms (prd s l) c
  | [], _ => rfl
  | x :: l, s => by
    show prd (tms (tms s c) x) l = tms (prd (tms s x) l) c
    rw [tms_comm]
    exact prd_front c l (tms s x)
theorem cfl_prd {k : Nat} (xs : List (Ek k)) : cfl xs = prd [(0, 1)] (xs.map fun x => x.1) := by
  unfold cfl prd
  rw [List.foldl_map]
theorem prd_len (s l : List (Nat × Nat)) : (prd s l).length = s.length + l.length := by
  induction l generalizing s with
  | nil => rfl
  | cons x l ih => rw [show prd s (x :: l) = prd (tms s x) l from rfl, ih, tms_len, List.length_cons]; omega
theorem lt_prd : ∀ (l s : List (Nat × Nat)), ltE s → ltE (prd s l)
  | [], _, h => h
  | x :: l, _, h => lt_prd l _ (lt_tms h x)
def sq (e : Nat × Nat) : Nat × Nat := sqv e 1
theorem sq_xa {a b : Nat × Nat} (la : lt2 a) (lb : lt2 b) : sq (xa a b) = xa (sq a) (sq b) := goes_add.2 _ _ _ la lb
theorem sq_pm {a b : Nat × Nat} (la : lt2 a) (lb : lt2 b) : sq (pm a b) = pm (sq a) (sq b) := goes_mul.2 _ _ _ la lb
theorem sq_zero : sq (0, 0) = (0, 0) := goes_add.1 1
theorem sq_one : sq (0, 1) = (0, 1) := goes_mul.1 1
theorem el_map (cs : List (Nat × Nat)) (j : Nat) : el (cs.map sq) j = sq (el cs j) := by
  unfold el
  rw [List.getD_eq_getElem?_getD, List.getElem?_map, List.getD_eq_getElem?_getD]
  cases cs[j]? with
  | none => exact sq_zero.symm
  | some x => rfl
theorem lt_el {cs : List (Nat × Nat)} (h : ltE cs) (j : Nat) : lt2 (el cs j) := ltE_el h j
theorem tms_sq {cs : List (Nat × Nat)} (h : ltE cs) {c : Nat × Nat} (lc : lt2 c) : (tms cs c).map sq = tms (cs.map sq) (sq c) := by
  refine ext_el (by simp [tms_len]) fun j => ?_
  rw [el_map, el_tms, el_tms]
  unfold tmE
  rw [sq_xa (lt_pvE h j) (lt_pm _ _), sq_pm (lt_el h j) lc, el_map]
  congr 1
  unfold pvE
  split
  · exact sq_zero
  · rw [el_map]
theorem prd_sq : ∀ (l s : List (Nat × Nat)), ltE s → ltE l → (prd s l).map sq = prd (s.map sq) (l.map sq)
  | [], _, _, _ => rfl
  | x :: l, s, hs, hl => by
    show (prd (tms s x) l).map sq = prd (tms (s.map sq) (sq x)) (l.map sq)
    rw [prd_sq l _ (lt_tms hs x) (fun e he => hl e (List.mem_cons_of_mem _ he)), tms_sq hs (hl x (List.mem_cons_self ..))]
/-- The first conjugates. -/
def cl (a : Nat × Nat) (n : Nat) : List (Nat × Nat) := (List.range n).map fun i => sqv a i
theorem lt_cl {a : Nat × Nat} (la : lt2 a) (n : Nat) : ltE (cl a n) := fun e he => by
  obtain ⟨i, _, rfl⟩ := List.mem_map.1 he
  exact lt_sqv la i
theorem cl_succ (a : Nat × Nat) (n : Nat) : cl a (n + 1) = cl a n ++ [sqv a n] := by simp [cl, List.range_succ]
theorem cl_front (a : Nat × Nat) (n : Nat) : cl a (n + 1) = a :: (List.range n).map fun i => sqv a (i + 1) := by
  simp [cl, List.range_succ_eq_map, Function.comp_def]; rfl
/-- The least polynomial. -/
def lst (a : Nat × Nat) (n : Nat) : List (Nat × Nat) := prd [(0, 1)] (cl a n)
theorem lst_len (a : Nat × Nat) (n : Nat) : (lst a n).length = n + 1 := by unfold lst; rw [prd_len]; simp [cl]; omega
theorem lst_succ (a : Nat × Nat) (n : Nat) : lst a (n + 1) = tms (lst a n) (sqv a n) := by unfold lst; rw [cl_succ, prd_snoc]
theorem lt_lst {a : Nat × Nat} (n : Nat) : ltE (lst a n) := lt_prd _ _ (fun e he => by simp at he; subst he; exact lt_one)
theorem lst_sq {k : Nat} (hk : k < 8) {a : Nat × Nat} (la : lt2 a) (oa : ofE k a) : (lst a (2 ^ k)).map sq = lst a (2 ^ k) := by
  unfold lst
  rw [prd_sq _ _ (fun e he => by simp at he; subst he; exact lt_one) (lt_cl la _)]
  have e1 : [((0 : Nat), 1)].map sq = [(0, 1)] := by simp [sq_one]
  rw [e1]
  obtain ⟨n, hn⟩ : ∃ n, 2 ^ k = n + 1 := ⟨2 ^ k - 1, by have := Nat.two_pow_pos k; omega⟩
  have e2 : (cl a (2 ^ k)).map sq = ((List.range n).map fun i => sqv a (i + 1)) ++ [a] := by
    have hb := sqv_back hk la oa
    rw [hn] at hb ⊢
    have A : (cl a n).map sq = (List.range n).map fun i => sqv a (i + 1) := by
      unfold cl
      rw [List.map_map]
      exact List.map_congr_left fun i _ => by show sqv (sqv a i) 1 = _; rw [sqv_sqv la]
    have B : sq (sqv a n) = a := by
      show sqv (sqv a n) 1 = _
      rw [sqv_sqv la, hb]
    rw [cl_succ, List.map_append, List.map_cons, List.map_nil, A, B]
  rw [e2, hn, cl_front, prd_snoc, prd_front]
/-- Its coefficients are 0 and 1. -/
theorem lst_bit {k : Nat} (hk : k < 8) {a : Nat × Nat} (la : lt2 a) (oa : ofE k a) (j : Nat) : el (lst a (2 ^ k)) j = (0, 0) ∨ el (lst a (2 ^ k)) j = (0, 1) := by
  have h1 : sq (el (lst a (2 ^ k)) j) = el (lst a (2 ^ k)) j := by rw [← el_map, lst_sq hk la oa]
  have l := lt_el (lt_lst (a := a) (2 ^ k)) j
  have h2 := (ofB_iff 0 _ _ (by decide)).1 (fixed_of (j := 0) (by decide) l h1)
  rcases h2 with h | ⟨h3, h4⟩
  · omega
  · generalize el (lst a (2 ^ k)) j = e at *
    obtain ⟨e1, e0⟩ := e
    simp at h3 h4
    subst h3
    rcases (show e0 = 0 ∨ e0 = 1 by omega) with rfl | rfl
    · exact .inl rfl
    · exact .inr rfl
/-- Powers. -/
def pwx (x : Nat × Nat) : Nat → Nat × Nat
  | 0 => (0, 1)
  | n + 1 => pm (pwx x n) x
theorem lt_pwx (x : Nat × Nat) (n : Nat) : lt2 (pwx x n) := by cases n; exact lt_one; exact lt_pm _ _
/-- The value. -/
def evl (cs : List (Nat × Nat)) (x : Nat × Nat) (n : Nat) : Nat × Nat := fo xa (0, 0) n fun i => pm (el cs i) (pwx x i)
theorem lt_evl (cs : List (Nat × Nat)) (x : Nat × Nat) (n : Nat) : lt2 (evl cs x n) := lt_fo mon_add (fun _ => lt_pm _ _) n
theorem evl_tms (cs : List (Nat × Nat)) (x : Nat × Nat) : ∀ n, evl (tms cs x) x (n + 1) = pm (el cs n) (pwx x (n + 1))
  | 0 => by
    show xa (0, 0) (pm (el (tms cs x) 0) (pwx x 0)) = pm (el cs 0) (pm (0, 1) x)
    rw [zero_xa, el_tms]
    unfold tmE
    rw [show pvE cs 0 = (0, 0) from rfl, zero_xa, show pwx x 0 = (0, 1) from rfl, Tw.pm_assoc', Tw.pm_comm' x]
  | n + 1 => by
    show xa (evl (tms cs x) x (n + 1)) (pm (el (tms cs x) (n + 1)) (pwx x (n + 1))) = _
    rw [evl_tms cs x n, el_tms]
    unfold tmE
    rw [show pvE cs (n + 1) = el cs n from rfl, Tw.pm_comm' (xa _ _), pm_xa, Tw.pm_comm' (pwx x (n + 1)) (el cs n), ← xa_assoc, xa_self]
    rw [zero_xa, Tw.pm_comm' (pwx x (n + 1)), Tw.pm_assoc', Tw.pm_comm' x]
    rfl
/-- It is its zero. -/
theorem lst_zero {a : Nat × Nat} (m : Nat) (hm : 0 < m) : evl (lst a m) a (m + 1) = (0, 0) := by
  obtain ⟨n, rfl⟩ : ∃ n, m = n + 1 := ⟨m - 1, by omega⟩
  have h : lst a (n + 1) = tms (prd [(0, 1)] ((List.range n).map fun i => sqv a (i + 1))) a := by
    unfold lst
    rw [cl_front, prd_front]
  rw [h, evl_tms, el_over (by rw [prd_len]; simp; omega), zero_pmL]
end Fr
end Go.Proofs.Ytjdfbjdbfncofaa

/- Halves, no Go in sight: x x + x goes over sums; the trace of it is 0; an element of trace 0 is a sum of what the bits make. -/
namespace Go.Proofs.Ytjdfbjdbfncofaa
open Cb Rg Sq Fr
open Tw (pm)
namespace Hf

theorem fall_all : ∀ (n : Nat) (L : List Nat), L.Pairwise (fun a b => b < a) → (∀ a ∈ L, a < n) → L.length = n → ∀ b, b < n → b ∈ L
  | 0, _, _, _, _, b, hb => absurd hb (Nat.not_lt_zero b)
  | n + 1, [], _, _, hl, _, _ => by simp at hl
  | n + 1, a :: L, hp, ha, hl, b, hb => by
    obtain ⟨h1, h2⟩ := List.pairwise_cons.1 hp
    have han := ha a (by simp)
    have ih := fall_all n L h2 (fun c hc => by have := h1 c hc; omega) (by simpa using hl)
    by_cases e : b < n
    · exact List.mem_cons_of_mem _ (ih b e)
    · obtain rfl : b = n := by omega
      have : a = b := by
        rcases b with _ | k
        · omega
        · have := h1 k (ih k (by omega)); omega
      rw [this]; simp
/-- One less than can be: all but one. -/
theorem fall_but : ∀ (n : Nat) (L : List Nat), L.Pairwise (fun a b => b < a) → (∀ a ∈ L, a < n + 1) → L.length = n → ∃ q, q < n + 1 ∧ ∀ b, b < n + 1 → b = q ∨ b ∈ L
  | 0, _, _, _, _ => ⟨0, by omega, fun b hb => .inl (by omega)⟩
  | n + 1, [], _, _, hl => by simp at hl
  | n + 1, a :: L, hp, ha, hl => by
    obtain ⟨h1, h2⟩ := List.pairwise_cons.1 hp
    have han := ha a (by simp)
    by_cases e : a = n + 1
    · subst e
      obtain ⟨q, hq, h⟩ := fall_but n L h2 (fun c hc => h1 c hc) (by simpa using hl)
      refine ⟨q, by omega, fun b hb => ?_⟩
      by_cases eb : b = n + 1
      · right; rw [eb]; simp
      · rcases h b (by omega) with k | k
        · exact .inl k
        · exact .inr (List.mem_cons_of_mem _ k)
    · have h := fall_all (n + 1) (a :: L) hp (fun c hc => by
        rcases List.mem_cons.1 hc with rfl | hc
        · omega
        · have := h1 c hc; omega) hl
      exact ⟨n + 1, by omega, fun b hb => by
        by_cases eb : b = n + 1
        · exact .inl eb
        · exact .inr (h b (by omega))⟩
theorem lng_le {x : Nat × Nat} (hx : lt2 x) {n : Nat} (h : ∀ b, n ≤ b → hs x b = false) : lngE x ≤ n := by
  by_cases h0 : x = (0, 0)
  · subst h0; exact Nat.zero_le _
  · rw [lng_ld hx h0]
    rcases Nat.lt_or_ge (ld x) n with k | k
    · exact k
    · have := hs_ld hx h0
      rw [h _ k] at this; cases this
/-- An element's square and itself. -/
def fi (x : Nat × Nat) : Nat × Nat := xa (sq x) x
theorem lt_fi {x : Nat × Nat} (h : lt2 x) : lt2 (fi x) := lt_xa (lt_sqv h 1) h
theorem fi_xa {a b : Nat × Nat} (ha : lt2 a) (hb : lt2 b) : fi (xa a b) = xa (fi a) (fi b) := by
  unfold fi
  rw [sq_xa ha hb, xa_assoc, xa_assoc]
  congr 1
  rw [xa_left (sq b) a b]
theorem fi_zero : fi (0, 0) = (0, 0) := by
  unfold fi
  rw [sq_zero]; exact xa_self _
theorem fi_one : fi (0, 1) = (0, 0) := by
  unfold fi
  rw [sq_one]; exact xa_self _
theorem fi_sl (b : Bool) (x : Nat × Nat) : fi (sl b x) = sl b (fi x) := by
  cases b
  · exact fi_zero
  · rfl
theorem fi_xs {f : Nat → Nat × Nat} (hf : ∀ i, lt2 (f i)) : ∀ n, fi (xs n f) = xs n fun i => fi (f i)
  | 0 => fi_zero
  | n + 1 => by
    simp only [xs]
    rw [fi_xa (lt_xs hf n) (hf n), fi_xs hf n]
theorem fi_none {x : Nat × Nat} (hx : lt2 x) (h : fi x = (0, 0)) : x = (0, 0) ∨ x = (0, 1) := by
  have e : sq x = x := xa_eq_zero h
  have o := fixed_of (j := 0) (by decide) hx e
  have o' := (ofB_iff 0 x.1 x.2 (by decide)).1 o
  rcases o' with h7 | ⟨h0, hl⟩
  · cases h7
  · have h2 : x.2 < 2 := by simpa using hl
    have : x.2 = 0 ∨ x.2 = 1 := by omega
    rcases this with h3 | h3
    · exact .inl (Prod.ext (by exact_mod_cast h0) h3)
    · exact .inr (Prod.ext (by exact_mod_cast h0) h3)
/-- The trace over level 0. -/
def tr (k : Nat) (a : Nat × Nat) : Nat × Nat := tn xa (0, 0) k 0 a
theorem tr_xa (k : Nat) {a b : Nat × Nat} (la : lt2 a) (lb : lt2 b) : tr k (xa a b) = xa (tr k a) (tr k b) := by
  unfold tr tn
  rw [← fo_op mon_add]
  exact fo_congr _ fun i _ => goes_add.2 a b _ la lb
theorem tr_zero (k : Nat) : tr k (0, 0) = (0, 0) := by
  have h := tr_xa k lt_zero lt_zero
  rw [xa_self, xa_self] at h
  exact h
theorem lt_tr {k : Nat} {a : Nat × Nat} (la : lt2 a) : lt2 (tr k a) := lt_tn mon_add la k 0
theorem tr_sq {k : Nat} (hk : k < 8) {a : Nat × Nat} (la : lt2 a) (oa : ofE k a) : tr k (sq a) = tr k a := by
  have h1 : tr k (sq a) = sq (tr k a) := by
    show fo xa (0, 0) (2 ^ (k - 0)) (fun i => sqv (sqv a 1) (2 ^ 0 * i)) = sqv (fo xa (0, 0) (2 ^ (k - 0)) fun i => sqv a (2 ^ 0 * i)) 1
    rw [sqv_fo mon_add goes_add (fun _ => lt_sqv la _)]
    refine fo_congr _ fun i _ => ?_
    rw [sqv_sqv la, sqv_sqv la, Nat.add_comm]
  rw [h1]
  exact tn_fixed mon_add goes_add hk (Nat.zero_le k) la oa
theorem tr_fi {k : Nat} (hk : k < 8) {a : Nat × Nat} (la : lt2 a) (oa : ofE k a) : tr k (fi a) = (0, 0) := by
  show tr k (xa (sqv a 1) a) = _
  rw [tr_xa k (lt_sqv la 1) la, show tr k (sqv a 1) = tr k a from tr_sq hk la oa]; exact xa_self _
theorem tr_sp {k : Nat} : ∀ {l : List (Nat × Nat)} {x : Nat × Nat}, lt2 x → (∀ e ∈ l, lt2 e ∧ tr k e = (0, 0)) → Sp l x → tr k x = (0, 0)
  | [], x, _, _, h => by
    have e : x = (0, 0) := h
    subst e; exact tr_zero k
  | a :: l, x, lx, hl, h => by
    have h' : ∀ e ∈ l, lt2 e ∧ tr k e = (0, 0) := fun e he => hl e (by simp [he])
    rcases h with h | h
    · exact tr_sp lx h' h
    · have ha := hl a (by simp)
      have := tr_sp (lt_xa lx ha.1) h' h
      rw [tr_xa k lx ha.1, ha.2, xa_zero] at this
      exact this
/-- Some element of each level has the trace 1. -/
theorem d7_fo (g : Nat × Nat) : ∀ n, Tw.d7 (fo xa (0, 0) n fun i => sqv g (2 ^ 0 * i)).1 (fo xa (0, 0) n fun i => sqv g (2 ^ 0 * i)).2 = Tw.trs 7 n (Tw.d7 g.1 g.2)
  | 0 => Tw.d7_zero
  | n + 1 => by
    show Tw.d7 ((fo xa (0, 0) n fun i => sqv g (2 ^ 0 * i)).1 ^^^ (sqv g (2 ^ 0 * n)).1) ((fo xa (0, 0) n fun i => sqv g (2 ^ 0 * i)).2 ^^^ (sqv g (2 ^ 0 * n)).2) = _
    rw [Tw.d7_add, d7_fo g n, d7_sqv, Nat.pow_zero, Nat.one_mul]
    rfl
theorem tr_one {k : Nat} (hk : k < 8) : ∃ y, lt2 y ∧ ofE k y ∧ tr k y = (0, 1) := by
  have g0 : Tw.d7 1 0 = Tw.gen 7 := by
    unfold Tw.d7
    rw [Tw.dec_one, Tw.dec_zero]; rfl
  have lg : lt2 ((1, 0) : Nat × Nat) := ⟨by decide, by decide⟩
  have og : ofE 7 ((1, 0) : Nat × Nat) := (ofB_iff 7 1 0 (by decide)).2 (.inl rfl)
  have e : tn xa (0, 0) 7 0 (1, 0) = (0, 1) := by
    refine d7_ext (lt_tn mon_add lg 7 0) lt_one ?_
    have h := d7_fo (1, 0) (2 ^ (7 - 0))
    have h2 := (Tw.gen_traces 7).1
    rw [show Tw.d7 ((1, 0) : Nat × Nat).1 ((1, 0) : Nat × Nat).2 = Tw.gen 7 from g0] at h
    rw [d7_one'', ← h2]
    exact h
  refine ⟨tn xa (0, 0) 7 k (1, 0), lt_tn mon_add lg 7 k, of_tn mon_add goes_add (by decide) (by omega) lg og, ?_⟩
  show tn xa (0, 0) k 0 _ = _
  rw [← tn_through mon_add goes_add (by decide) (by omega) (Nat.zero_le k) lg, e]
end Hf
end Go.Proofs.Ytjdfbjdbfncofaa
