/- The contract of frob.Least, where all coefficients are 1, over the seat's translation. -/
import Derived.Test.YtakaconhoodigaaFrE
import Derived.Test.YtakaconhoodigaaPTwBa
namespace Go.Proofs.Ytakaconhoodigaa
open Go.RowKit Go.Shelf
open Cb
open Tw (pm)

attribute [local go_sem] Oper.semAt_some

/-- The coefficients of the product of X + c over some c. -/
def cfl {k : Nat} (xs : List (Ek k)) : List (Nat × Nat) := xs.foldl (fun cs x => tms cs x.1) [(0, 1)]
theorem cfl_snoc {k : Nat} (xs : List (Ek k)) (x : Ek k) : cfl (xs ++ [x]) = tms (cfl xs) x.1 := by simp [cfl]
theorem cfl_len {k : Nat} (xs : List (Ek k)) : (cfl xs).length = xs.length + 1 := by
  have : ∀ (zs : List (Ek k)) (cs : List (Nat × Nat)), (zs.foldl (fun cs x => tms cs x.1) cs).length = zs.length + cs.length := by
    intro zs
    induction zs with
    | nil => intro cs; simp
    | cons z zs ih => intro cs; rw [List.foldl_cons, ih, tms_len, List.length_cons]; omega
  rw [cfl, this]; rfl
theorem of_tms {m : Nat} (hm : m < 8) {cs : List (Nat × Nat)} (h : ofT m cs) {c : Nat × Nat} (hc : ofE m c) : ofT m (tms cs c) := fun e he => by
  obtain ⟨j, _, rfl⟩ := List.mem_map.1 he
  unfold tmE
  refine of_xor hm ?_ (of_pm hm (h.el hm j) hc)
  unfold pvE; split
  · exact of_zeroF hm
  · exact h.el hm _
theorem cfl_fine {k m : Nat} (hm : m < 8) (hup : ∀ x : Ek k, ofE m x.1) (xs : List (Ek k)) : ltE (cfl xs) ∧ ofT m (cfl xs) := by
  have : ∀ (zs : List (Ek k)) (cs : List (Nat × Nat)), ltE cs → ofT m cs → ltE (zs.foldl (fun cs x => tms cs x.1) cs) ∧ ofT m (zs.foldl (fun cs x => tms cs x.1) cs) := by
    intro zs
    induction zs with
    | nil => exact fun cs h1 h2 => ⟨h1, h2⟩
    | cons z zs ih => exact fun cs h1 h2 => ih _ (lt_tms h1 _) (of_tms hm h2 (hup z))
  refine this xs _ ?_ ?_
  · intro e he; rw [List.mem_singleton.1 he]; exact lt_one
  · intro e he; rw [List.mem_singleton.1 he]; exact of_oneF hm
theorem ERow.blkF {A B : World} {g : Nat} {es : List (Nat × Nat)} (e : ERow A (some ⟨g, 0, none⟩) es) (h : B.heap[g]? = A.heap[g]?) (hs : g < B.heap.size) : ERow B (some ⟨g, 0, none⟩) es := ⟨fun i hi => by
  obtain ⟨b, off, e1, hb, c1, c0⟩ := e.cells i hi
  injection e1 with e2
  injection e2 with e3 e4
  subst e3 e4
  exact ⟨g, 0, rfl, hs, (World.cell?_of_block h).trans c1, (World.cell?_of_block h).trans c0⟩⟩
/-- A box that holds one value. -/
structure Bv (w : World) (b : Nat) (v : Value) : Prop where
  c : w.cell? ⟨b, 0, none⟩ = some v
  f : w.frozen? ⟨b, 0, none⟩ = false
theorem Bv.blkF {A B : World} {b : Nat} {v : Value} (e : Bv A b v) (h : B.heap[b]? = A.heap[b]?) : Bv B b v := ⟨(World.cell?_of_block h).trans e.c, (World.frozen?_of_block h).trans e.f⟩
theorem Bv.lt {A : World} {b : Nat} {v : Value} (e : Bv A b v) : b < A.heap.size := cell_ltF e.c
theorem Bv.below {A B : World} {b : Nat} {v : Value} (e : Bv A b v) (h : Below A.heap.size A B) : Bv B b v := e.blkF (h.block b e.lt)
theorem Bv.newF (w : World) (v : Value) (T : TypeId) : Bv (w.alloc (Obj.cells #[v] T)) w.heap.size v := ⟨by simp [go_sem], by simp [go_sem]⟩

theorem wpListIn_make_fullF {F : Fence} {n : Nat} {P : Program} (w : World) {ops : Array Oper} {rest : List Oper} {o : Oper} {a : Act} {Q : Exit → Act → World → Prop}
    (hg : o.guard = none) (l c : Operand) (t : TypeId) (hop : o.op = Op.makeSlice t l c)
    (base : Nat) (e : TypeId) (i : TypeInfo) (z : Value) (size : Nat) (h1 : P.underlying t = some (.slice e)) (h2 : P.info? e = some i) (h3 : i.zero = some z) (h4 : i.size = size)
    (kl kc : IntKind) (L C : Int) (m : Nat) (hl : a.eval l = .int kl L) (hc : a.eval c = .int kc C) (hL : L = (m : Int)) (hC : C = (m : Int)) (b2 : i.bytes * m ≤ 281474976710656) (b3 : m ≤ maxLen) (b4 : base ≤ w.heap.size)
    (hK : ∀ w', w'.ownsRow base e size (.slice (some ⟨w.heap.size, 0, none⟩) m m) m (madeCells z.cells (m * size)).toList → w.grownBy w' none → wpListIn F n P ops Q rest (a.put o.dst (.slice (some ⟨w.heap.size, 0, none⟩) m m)) w') :
    wpListIn F n P ops Q (o :: rest) a w := by
  refine wpListIn_plain hg fun K hK' => ?_
  obtain ⟨w', hrun, r1, r2⟩ := run_make_full (P := P) w base t e i z size h1 h2 h3 h4 kl kc m b2 b3 b4
  subst hL
  subst hC
  unfold Oper.wpIn
  refine ⟨by simp [Oper.about, hop], ?_⟩
  rw [Oper.semAt_plain F _ _ (by rw [hop]; intro c hc'; cases hc')]
  simp [execOp, hop, hl, hc, hrun, Result.andThen]
  exact hK' _ _ (hK w' r1 r2)
def NoP (Q : Exit → Act → World → Prop) : Exit → Act → World → Prop
  | .panic _, _, _ => False
  | .normal, a, w => Q .normal a w
  | .ret, a, w => Q .ret a w
  | .exit i, a, w => Q (.exit i) a w
  | .goto t, a, w => Q (.goto t) a w
  | .outgrown, a, w => Q .outgrown a w
theorem NoP.out {Q : Exit → Act → World → Prop} : ∀ (e : Exit) (a : Act) (w : World), NoP Q e a w → Q e a w
  | .panic _, _, _, h => h.elim
  | .normal, _, _, h => h
  | .ret, _, _, h => h
  | .exit _, _, _, h => h
  | .goto _, _, _, h => h
  | .outgrown, _, _, h => h
theorem NoP.normal {Q : Exit → Act → World → Prop} {a : Act} {w : World} (h : Q .normal a w) : NoP Q .normal a w := h
theorem own_rowF {w : World} {base : Nat} {T : TypeId} {g n : Nat} {xs : List Value} (h : w.ownsRow base T 1 (.slice (some ⟨g, 0, none⟩) n n) n xs) : ∃ f, w.rowIs g T n f := by
  rcases h.2 with ⟨h1, _⟩ | ⟨g', cap, cur, e, _, hg, _, _, hs, _⟩
  · injection h1 with h2; cases h2
  · injection e with e1 e2 e3
    obtain rfl : g = g' := by injection e1 with e4; injection e4
    subst e3
    rw [Nat.mul_one] at hs
    exact ⟨fun i => cur.getD i undef, cur, hg, hs, fun i hi => by
      show cur[i]? = some (cur.getD i undef)
      rw [Array.getD_eq_getD_getElem?, Array.getElem?_eq_getElem (by omega)]; rfl⟩
theorem info_boolF : (Try.prog.info? 4).map (fun i => (i.zero, i.size, i.bytes)) = some (some (.bool false), 1, 1) := by kernel_rfl
set_option maxRecDepth 100000 in
set_option maxHeartbeats 8000000 in
theorem least_ones (k : Nat) (hk : k < 8) (a : Nat × Nat) (la : lt2 a) (oa : ofE k a) (kk : Nat) (hup : ∀ x : Ek kk, ofE k x.1) (xs : List (Ek kk)) (n : Nat) (hn : xs.length + 1 = n) (hn1 : n ≤ 200) (hones : cfl xs = List.replicate n (0, 1)) (HS : ∀ (w : World) (b1 b2 b3 : Nat), Caught w b1 b2 b3 (lvl a.1 a.2) 0 a → SeqPriv Fence.wide (3 - 1) Try.prog 50 #[.pointer (some ⟨b1, 0, none⟩), .pointer (some ⟨b2, 0, none⟩), .pointer (some ⟨b3, 0, none⟩)] (fun x : Ek kk => #[enE x.1]) (capB b1 b2 b3) xs w) (W : World) :
    Calls Try.prog 30 #[.int .i64 (k : Int), .agg #[.int .u64 (a.1 : Int), .int .u64 (a.2 : Int)]] W fun e w' => ∃ u, e = .returned (.slice (some ⟨u, 0, none⟩) n n) ∧ (∀ i, i < n → w'.cell? ⟨u, i, none⟩ = some (.bool true)) ∧ Below W.heap.size W w' := by
  have HO := hidF (of_ret (k : Int) a.1 a.2 la.2)
  rw [show ofB (k : Int) (a.1 : Int) (a.2 : Int) = true from oa] at HO
  have HL := hidF (level_ret a.1 a.2 la.2)
  have HON := hidF one_any
  have hmix : Try.prog.follows .mixedOrders = true := by kernel_rfl
  refine (callsIn_wide (n := 3)).1 ?_
  have h1 : 1 ≤ 3 := by omega
  refine callsIn_of_wp_marks Try.func30 rfl trivial ?_ rfl
  simp only [Try.ntmps30, List.size_toArray, List.length_cons, List.length_nil, Nat.reduceAdd, Nat.reduceSub, Array.replicate_succ, Array.replicate_zero, List.push_toArray, List.append_toArray, List.nil_append, List.cons_append]
  have HI := fun w => conj_in (3 - 1) (lvl a.1 a.2) 0 a w
  unfold enE at HI
  have HI' := hidF HI
  clear HI
  gi_wp2_with (first
    | (refine ⟨trivial, ?_⟩; gi_at_call 15; refine (callsIn_wide.2 (HO.out.go _)).mono ?_; rintro e w1 ⟨rfl, hb1⟩; have ea : El w1 (W.heap.size + 1) a.1 a.2 := El.below ⟨by simp [go_sem], by simp [go_sem]⟩ hb1; have ev : w1.cell? ⟨W.heap.size, 0, none⟩ = some (.int .i64 (k : Int)) := cellB hb1 (by simp [go_sem]); have eb : Below W.heap.size W w1 := (((Below.refl _ _).alloc (Nat.le_refl _) _).alloc (by simp) _).trans (hb1.mono (by simp; omega)); have EK := hidF (And.intro ea (And.intro ev eb)); clear hb1 eb ea ev)
    | (refine ⟨trivial, ?_⟩; gi_at_call 35; refine (callsIn_wide.2 (HON.out _)).mono ?_; rintro e w2 ⟨rfl, hb2⟩; have EK2 := hidF (And.intro (EK.out.1.below hb2) (And.intro (cellB hb2 EK.out.2.1) (EK.out.2.2.trans (hb2.mono EK.out.2.2.size)))); clear hb2 EK))
  obtain ⟨Y, hY⟩ : ∃ Y, Y = ((w2.alloc (Obj.cells #[.int .u64 0, .int .u64 1] 24)).alloc (Obj.cells #[.slice (some ⟨w2.heap.size, 0, none⟩) 1 1] 35)) := ⟨_, rfl⟩
  have YB : Below w2.heap.size w2 Y := by rw [hY]; exact ((Below.refl _ _).alloc (Nat.le_refl _) _).alloc (by simp) _
  have YA : El Y (W.heap.size + 1) a.1 a.2 := EK2.out.1.below YB
  have YL : Y.cell? ⟨W.heap.size, 0, none⟩ = some (.int .i64 (k : Int)) := cellB YB EK2.out.2.1
  have YC : Bv Y (w2.heap.size + 1) (.slice (some ⟨w2.heap.size, 0, none⟩) 1 1) := by rw [hY]; exact ⟨by simp [go_sem], by simp [go_sem]⟩
  have YR : ERow Y (some ⟨w2.heap.size, 0, none⟩) [(0, 1)] := by
    rw [hY]
    refine ⟨fun i hi => ?_⟩
    obtain rfl : i = 0 := by simp at hi; omega
    exact ⟨w2.heap.size, 0, rfl, by simp; omega, by simp [go_sem], by simp [go_sem]⟩
  have YW : Below W.heap.size W Y := EK2.out.2.2.trans (YB.mono EK2.out.2.2.size)
  have YZ : W.heap.size + 1 < w2.heap.size := cell_ltF EK2.out.1.hi
  rw [← hY]
  have KY := hidF (And.intro YA (And.intro YL (And.intro YC (And.intro YR YW))))
  have ya1 := YA.hi
  have ya0 := YA.lo
  clear hY YB YA YL YC YR YW EK2 HO HON
  obtain ⟨p, hp⟩ : ∃ p, p = w2.heap.size + 1 := ⟨_, rfl⟩
  rw [← hp] at KY ⊢
  have hpz : W.heap.size + 1 + 1 < p := by omega
  obtain ⟨g0, hg0⟩ : ∃ g0, g0 = w2.heap.size := ⟨_, rfl⟩
  rw [← hg0] at KY ⊢
  have hgp : W.heap.size + 1 < g0 ∧ g0 < p := by omega
  clear hg0 hp YZ
  gi_region_with_o (first
    | (refine ⟨trivial, ?_⟩; gi_at_call 45; refine (callsIn_wide.2 (HL.out.go _)).mono ?_; rintro e w3 ⟨rfl, hb3⟩; have KX := hidF (And.intro (KY.out.1.below (below_drewF hb3)) (And.intro (cellB (below_drewF hb3) KY.out.2.1) (And.intro (KY.out.2.2.1.below (below_drewF hb3)) (And.intro (KY.out.2.2.2.1.below (below_drewF hb3)) (KY.out.2.2.2.2.trans ((below_drewF hb3).mono KY.out.2.2.2.2.size)))))); clear hb3 ya1 ya0; have ya1 := KX.out.1.hi; have ya0 := KX.out.1.lo)
    | (refine ⟨trivial, ?_⟩; gi_at_call 39; refine (HI'.out _).mono ?_; rintro e w4 ⟨rfl, hc4, hb4, hs4⟩))
  all_goals (
    have hz3 : p < w3.heap.size := KX.out.2.2.1.lt
    have KZ := hidF (And.intro (cellB hb4 KX.out.2.1) (And.intro (KX.out.2.2.1.below hb4) (And.intro (KX.out.2.2.2.1.below hb4) (KX.out.2.2.2.2.trans (hb4.mono KX.out.2.2.2.2.size)))))
    clear KX KY ya1 ya0 HI' HL hb4
    have HZ := hidF hs4
    clear hs4
    generalize w3.heap.size = r3 at *
    have hCap : ∀ i, capB r3 (r3 + 1) (r3 + 1 + 1) i → p < i ∧ i < w4.heap.size := fun i hi => by
      have := HZ.out
      rcases hi with h | h | h <;> omega
    gi_wp2
    refine rangePriv (xs := xs) rfl h1 (gf := 50) (lb := #[.pointer (some ⟨r3, 0, none⟩), .pointer (some ⟨r3 + 1, 0, none⟩), .pointer (some ⟨r3 + 1 + 1, 0, none⟩)]) rfl trivial (enters_of Try.func50 (by kernel_rfl) rfl) (encs := fun x : Ek kk => #[enE x.1]) (fun _ => rfl) (fun i hi => (hCap i hi).2) (HS w4 _ _ _ hc4)
      (fun q pre X => ∃ g, Bv X p (.slice (some ⟨g, 0, none⟩) (pre.length + 1) (pre.length + 1)) ∧ ERow X (some ⟨g, 0, none⟩) (cfl pre) ∧ (g < X.heap.size ∧ g ≠ q ∧ g ≠ p ∧ g ≠ w4.heap.size ∧ g ≠ w4.heap.size + 1) ∧ X.cell? ⟨W.heap.size, 0, none⟩ = some (.int .i64 (k : Int)) ∧ Below W.heap.size W X) ?_ ?_ ?_ ?_
    · rintro q pre A B hq ⟨g, s, r, hg, c, b⟩ hb ho
      have hA := s.lt
      have := HZ.out
      exact ⟨g, s.blkF (ho _ hA (by omega) (by omega) (by omega)), r.blkF (ho _ hg.1 hg.2.1 hg.2.2.2.1 hg.2.2.2.2) (Nat.lt_of_lt_of_le hg.1 hb.size), ⟨Nat.lt_of_lt_of_le hg.1 hb.size, hg.2⟩, (World.cell?_of_block (ho W.heap.size (by omega) (by omega) (by omega) (by omega))).trans c, b.trans (hb.mono (by omega))⟩
    · intro q A hq hA
      have := HZ.out
      have hsz := hA.size
      exact ⟨g0, KZ.out.2.1.below hA, KZ.out.2.2.1.below hA, ⟨by omega, by omega, by omega, by omega, by omega⟩, cellB hA KZ.out.1, KZ.out.2.2.2.trans (hA.mono KZ.out.2.2.2.size)⟩
    · rintro y q pre x X hq hqX hlx ⟨g, s, r, hg, c, b⟩
      unfold enE
      have hz1 : p < w4.heap.size := (by have := HZ.out; omega)
      gi_wp2
      refine ⟨Kept.below ((Below.refl _ _).alloc (Nat.le_refl _) _), fun o => ?_⟩
      obtain ⟨X2, hX2⟩ : ∃ X2, X2 = (X.alloc (Obj.cells #[.int .u64 (x.1.1 : Int), .int .u64 (x.1.2 : Int)] 24)).putObj (w4.heap.size + 1) o := ⟨_, rfl⟩
      have P2 : ∀ i, i < X.heap.size → i ≠ w4.heap.size + 1 → X2.heap[i]? = X.heap[i]? := fun i hi hn => by rw [hX2]; exact (World.putObj_heap_other hn).trans (Below.heap_alloc _ _ _ hi)
      have ez2 : X2.heap.size = X.heap.size + 1 := by rw [hX2]; simp [World.putObj]
      have es2 : Bv X2 p (.slice (some ⟨g, 0, none⟩) (pre.length + 1) (pre.length + 1)) := s.blkF (P2 _ s.lt (by omega))
      have er2 : ERow X2 (some ⟨g, 0, none⟩) (cfl pre) := r.blkF (P2 _ hg.1 hg.2.2.2.2) (by omega)
      have ec2 : X2.cell? ⟨W.heap.size, 0, none⟩ = some (.int .i64 (k : Int)) := (World.cell?_of_block (P2 W.heap.size (by have := s.lt; omega) (by omega))).trans c
      have ex2 : El X2 X.heap.size x.1.1 x.1.2 := by rw [hX2]; exact (Ew.newF X x.1 _).toEl.blkF (World.putObj_heap_other (by omega))
      have eb2 : Below W.heap.size W X2 := by
        rw [hX2]; exact (b.alloc b.size _).trans (below_putF _ _ _ (by simp; omega) (by omega))
      rw [← hX2]
      have hf := cfl_fine hk hup pre
      have hlen : pre.length + 1 ≤ 1000 := by omega
      have HA := hidF (times_ok k hk (some ⟨g, 0, none⟩) (pre.length + 1) (pre.length + 1) (pre.length + 1 + 1) (cfl pre) x.1 (cfl_len pre) rfl hlen hf.1 hf.2 x.2.1 (hup x) X2 er2 (fun g' off e => by injection e with e; injection e with e1 e2; omega))
      rw [← cfl_snoc] at HA
      have K2 := hidF (And.intro es2 (And.intro ec2 (And.intro eb2 (And.intro hg ez2))))
      have es1 := es2.c
      have ex1 := ex2.hi
      have ex0 := ex2.lo
      clear hX2 s r b c P2 es2 er2 ex2 eb2 hf hg ez2
      gi_wp2_with (refine ⟨trivial, ?_⟩; gi_at_call 46; refine (CallsIn.inRound y (callsIn_wide.2 HA.out)).mono ?_; rintro e w5 ⟨g', rfl, hg', hr5, hb5⟩; have K5 := hidF (And.intro (K2.out.1.below hb5) (And.intro (cellB hb5 K2.out.2.1) (And.intro (Kept.below (C := Held q w4.heap.size (capB r3 (r3 + 1) (r3 + 1 + 1))) hb5) (And.intro (K2.out.2.2.1.trans (hb5.mono K2.out.2.2.1.size)) (And.intro hr5 hg'))))); have es5 := K5.out.1.c; have ef5 := K5.out.1.f; clear hb5 es1 ex1 ex0 ec2 hr5 hg')
      have hzx : X2.heap.size = X.heap.size + 1 := K2.out.2.2.2.2
      have hgx := K5.out.2.2.2.2.2
      have hgl : g' < w5.heap.size := by
        obtain ⟨b', off', e1, hb', _⟩ := K5.out.2.2.2.2.1.cells 0 (by rw [cfl_len]; omega)
        injection e1 with e2
        injection e2 with e3 e4
        rw [e3]; exact hb'
      have nH : ¬ Held q w4.heap.size (capB r3 (r3 + 1) (r3 + 1 + 1)) p := by
        rintro ((h | h) | h | h)
        · omega
        · have := hCap _ h; omega
        · omega
        · omega
      have hbs := Below.heap_setCell w5 ⟨p, 0, none⟩ (.slice (some ⟨g', 0, none⟩) (pre.length + 1 + 1) (pre.length + 1 + 1)) g' (by simp; omega)
      have hss : (w5.setCell ⟨p, 0, none⟩ (.slice (some ⟨g', 0, none⟩) (pre.length + 1 + 1) (pre.length + 1 + 1))).heap.size = w5.heap.size := by simp [World.setCell]
      refine ⟨K5.out.2.2.1.trans (Kept.set _ _ _ _ nH), g', ⟨World.cell?_setCell_same' _ _ _ (by rw [es5]; rfl), by rw [World.frozen?_setCell]; exact ef5⟩, ?_, ⟨by omega, by omega, by omega, by omega, by omega⟩, ?_, K5.out.2.2.2.1.setCell (by simp; omega) _⟩
      · exact K5.out.2.2.2.2.1.blkF hbs (by omega)
      · exact K5.out.2.1
    · rintro q X hq ⟨g, s, r, hg, c, b⟩ hD
      rw [hn] at s
      rw [hones] at r
      obtain ⟨i0, hi, hz0, hz1, hz2⟩ := info_parts info_boolF
      have es1 := s.c
      have HD := hidF hD
      have HK := hidF (And.intro s (And.intro r (And.intro hg b)))
      have hz1' : p < w4.heap.size := (by have := HZ.out; omega)
      clear s r c b hD KZ
      gi_wp2_with (gi_at_make; refine wpListIn_make_fullF _ rfl _ _ 53 rfl 0 4 i0 (.bool false) 1 Try.underlying53 hi hz0 hz1 .i64 .i64 _ _ n rfl rfl rfl rfl (by rw [hz2]; omega) (by simp only [maxLen]; omega) (Nat.zero_le _) ?_; intro w6 own6 hgr6; have hb6 : Below X.heap.size X w6 := (Below.refl _ _).grown hgr6 (Nat.le_refl _) (fun k hk => by cases hk); obtain ⟨f6, R6⟩ := own_rowF own6; have es6 := cellB hb6 es1; have K6 := hidF (And.intro (hb6.block w4.heap.size (Array.getElem?_eq_some_iff.1 HD.out).1 |>.trans HD.out) (And.intro (HK.out.2.1.below hb6) (HK.out.2.2.2.trans (hb6.mono HK.out.2.2.2.size)))); clear own6 hgr6 hb6 es1)
      gi_loopw [30] (fun u wr => ∃ (i : Nat) (f : Nat → Value), i ≤ n ∧ u = .int .i64 i ∧ Hid (wr.rowIs X.heap.size 4 n f ∧ (∀ j, j < i → f j = .bool true) ∧ wr.heap[w4.heap.size]? = some (.deferred (some [])) ∧ ERow wr (some ⟨g, 0, none⟩) (List.replicate n (0, 1)) ∧ Below W.heap.size W wr)) (fun u _ => n - (intOf u).toNat)
      case atStart => exact ⟨0, f6, Nat.zero_le _, rfl, R6, fun j hj => absurd hj (Nat.not_lt_zero _), K6.out.1, K6.out.2.1, K6.out.2.2⟩
      case round =>
        obtain ⟨i, f, hi', rfl, HR⟩ := hrel
        have hgx := HK.out.2.2.1
        have hXs : X.heap.size < wr.heap.size := HR.out.1.lt
        have hXd : w4.heap.size < X.heap.size := (Array.getElem?_eq_some_iff.1 HD.out).1
        have hWX : W.heap.size ≤ X.heap.size := HK.out.2.2.2.size
        clear K6 R6 es6 HK HD hi hz0 hz1 hz2 hg
        by_cases hlt : i < n
        · obtain ⟨b', off', e1, hb', c1, c0⟩ := HR.out.2.2.2.1.cells i (by simp; exact hlt)
          injection e1 with e2
          injection e2 with e3 e4
          subst e3 e4
          have hv : (List.replicate n ((0 : Nat), (1 : Nat))).getD i (0, 0) = (0, 1) := by simp [List.getD, hlt]
          rw [hv] at c1 c0
          have c1' : wr.cell? ⟨g, i * 2, none⟩ = some (.int .u64 0) := by rw [Nat.zero_add] at c1; exact c1
          have c0' : wr.cell? ⟨g, i * 2 + 1, none⟩ = some (.int .u64 1) := by rw [Nat.zero_add] at c0; exact c0
          have i1 : (i : Int) < (n : Int) := by omega
          have i0' : (0 : Int) ≤ (i : Int) := by omega
          have HON := hidF one_any
          clear c1 c0 hv hb'
          gi_wp2
          obtain ⟨Z, hZ⟩ : ∃ Z, Z = wr.alloc (Obj.cells #[.int .u64 0, .int .u64 1] 24) := ⟨_, rfl⟩
          have ZB : Below wr.heap.size wr Z := by rw [hZ]; exact below_alF _ _
          have ZX : El Z wr.heap.size 0 1 := by rw [hZ]; exact ⟨by simp [go_sem], by simp [go_sem]⟩
          have HZR := hidF (And.intro (HR.out.1.of_block (ZB.block _ hXs)) (And.intro ((ZB.block _ (by omega)).trans HR.out.2.2.1) (And.intro (HR.out.2.2.2.1.below ZB) (HR.out.2.2.2.2.trans (ZB.mono HR.out.2.2.2.2.size)))))
          rw [← hZ]
          have zx1 : Z.cell? ⟨wr.heap.size, 0, none⟩ = some (.int .u64 0) := ZX.hi
          have zx0 : Z.cell? ⟨wr.heap.size, 1, none⟩ = some (.int .u64 1) := ZX.lo
          have zr := HZR.out.1.cell hlt
          have zf := HZR.out.1.frozen i
          clear c1' c0' hZ ZB ZX
          refine wpIn_mono (Q := NoP _) ?_ NoP.out
          gi_region_with_o (refine ⟨trivial, ?_⟩; gi_at_call 35; refine (callsIn_wide.2 (HON.out _)).mono ?_; rintro e w7 ⟨rfl, hb7⟩; have K7 := hidF (And.intro (HZR.out.1.of_block ((below_drewF hb7).block _ HZR.out.1.lt)) (And.intro (((below_drewF hb7).block _ (Array.getElem?_eq_some_iff.1 HZR.out.2.1).1).trans HZR.out.2.1) (And.intro (HZR.out.2.2.1.below (below_drewF hb7)) (HZR.out.2.2.2.trans ((below_drewF hb7).mono HZR.out.2.2.2.size))))); have zx1' := cellB (below_drewF hb7) zx1; have zx0' := cellB (below_drewF hb7) zx0; have zr' := K7.out.1.cell hlt; have zf' := K7.out.1.frozen i; clear hb7 zx1 zx0 zr zf)
          all_goals (
            refine NoP.normal ?_
            gi_wp2
            have hw7 := K7.out.1.lt
            refine ⟨⟨i + 1, _, hlt, by simp, K7.out.1.set i _, fun j hj => ?_, ?_, ?_, K7.out.2.2.2.setCell (by simp; omega) _⟩, by simp [intOf]; omega⟩
            · by_cases h : j = i
              · rw [if_pos h]
              · rw [if_neg h]; exact HR.out.2.1 j (by omega)
            · exact (Below.heap_setCell _ _ _ _ (by simp; omega)).trans K7.out.2.1
            · exact K7.out.2.2.1.blkF (Below.heap_setCell _ _ _ _ (by simp; omega)) (by simp [World.setCell]; omega))
        · obtain rfl : i = n := by omega
          gi_wp2
          refine ⟨by simp, .inl ⟨_, _, rfl, run_takeDeferred HR.out.2.2.1, ?_⟩⟩
          refine ⟨_, results_tmp rfl _ _ _, X.heap.size, rfl, fun j hj => ?_, HR.out.2.2.2.2.trans (below_putF _ w4.heap.size (.deferred none) (by omega) (by have := HZ.out; omega))⟩
          rw [World.cell?_of_block (World.putObj_heap_other (show X.heap.size ≠ w4.heap.size by omega)), HR.out.1.cell hj, HR.out.2.1 j hj])
end Go.Proofs.Ytakaconhoodigaa
