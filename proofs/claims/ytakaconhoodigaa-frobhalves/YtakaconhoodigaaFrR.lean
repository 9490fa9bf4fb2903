/- The contract of frob.Conjugates over the seat's translation. -/
import Derived.Test.YtakaconhoodigaaFrF
import Derived.Maps.AppendAt
namespace Go.Proofs.Ytakaconhoodigaa
open Go.RowKit Go.Shelf
open Cb
open Tw (pm)

attribute [local go_sem] Oper.semAt_some

theorem wpListIn_appF {F : Fence} {n : Nat} {P : Program} (w : World) {ops : Array Oper} {rest : List Oper} {o : Oper} {a : Act} {Q : Exit → Act → World → Prop}
    (hg : o.guard = none) (s x : Operand) (t : TypeId) (hop : o.op = Op.call { callee := Callee.builtin Builtin.append, args := #[s, x], argTypes := #[t, t] })
    (base : Nat) (e : TypeId) (i : TypeInfo) (z : Value) (size bytes : Nat) (h1 : P.underlying t = some (.slice e)) (h2 : P.info? e = some i) (h3 : i.zero = some z) (h4 : i.size = size) (h5 : i.bytes = bytes) (h6 : z.cells.size = size) (h7 : 0 < size)
    (v : Value) (k : Nat) (xs : List Value) (hs : a.eval s = v) (hown : w.ownsRow base e size v k xs) (ad : Addr) (m c : Nat) (news : List Value) (hx : a.eval x = .slice (some ad) m c) (hn : news.length = m * size)
    (hc : ∀ j u, news[j]? = some u → w.cell? (ad.add j) = some u) (h1c : ∀ u ∈ news, u.oneCell' = true) (b1 : k + m ≤ maxLen) (b2 : (k + m) * bytes ≤ 140737488355328) (b3 : base ≤ w.heap.size)
    (hK : ∀ v' w', w'.ownsRow base e size v' (k + m) (xs ++ news) → w.grownBy w' v.ownBlock → (v'.ownBlock = v.ownBlock ∨ v'.ownBlock = some w.heap.size) → wpListIn F n P ops Q rest (a.put o.dst v') w') :
    wpListIn F n P ops Q (o :: rest) a w := by
  refine wpListIn_plain hg fun K hK' => ?_
  obtain ⟨v', w', hrun, r1, r2, _, r4⟩ := run_append_own_at (P := P) w base t o.type e i z size bytes h1 h2 h3 h4 h5 h6 h7 v k xs hown ad m c news hn hc h1c b1 b2 b3
  unfold Oper.wpIn
  refine ⟨by simp [Oper.about, hop, resolve, Target.leads, Sem.run_pure], ?_⟩
  rw [Oper.semAt_plain F _ _ (by rw [hop]; intro c hc'; cases hc')]
  simp [execOp, hop, resolve, invoke, builtin, hs, hx, hrun, Result.andThen]
  exact hK' _ _ (hK v' w' r1 r2 r4)
theorem own_blkF {A B : World} {base : Nat} {e : TypeId} {size : Nat} {v : Value} {n : Nat} {xs : List Value} (h : A.ownsRow base e size v n xs) (hb : ∀ g, v.ownBlock = some g → B.heap[g]? = A.heap[g]?) : B.ownsRow base e size v n xs := by
  refine ⟨h.1, ?_⟩
  rcases h.2 with h0 | ⟨g, cap, cur, rfl, h1, h2, h3⟩
  · exact .inl h0
  · exact .inr ⟨g, cap, cur, rfl, h1, (hb g rfl).trans h2, h3⟩
theorem own_ltF {A : World} {base : Nat} {e : TypeId} {size : Nat} {v : Value} {n : Nat} {xs : List Value} (h : A.ownsRow base e size v n xs) {g : Nat} (hg : v.ownBlock = some g) : g < A.heap.size := by
  rcases h.2 with ⟨rfl, _⟩ | ⟨g', cap, cur, rfl, _, h2, _⟩
  · cases hg
  · injection hg with hg
    rw [← hg]; exact (Array.getElem?_eq_some_iff.1 h2).1
/-- The values of some elements. -/
def vls33 {k : Nat} (xs : List (Ek k)) : List (Nat × Nat) := xs.map fun x => x.1
theorem flat_snocF (es : List (Nat × Nat)) (x : Nat × Nat) : flat (es ++ [x]) = flat es ++ [.int .u64 (x.1 : Int), .int .u64 (x.2 : Int)] := by
  simp [flat]

set_option maxRecDepth 100000 in
set_option maxHeartbeats 8000000 in
theorem conjs_core (k : Nat) (l t : Int) (a : Nat × Nat) (xs : List (Ek k)) (hxs : xs.length ≤ 200) (HS : ∀ (w : World) (b1 b2 b3 : Nat), Caught w b1 b2 b3 l t a → SeqPriv Fence.wide (3 - 1) Try.prog 50 #[.pointer (some ⟨b1, 0, none⟩), .pointer (some ⟨b2, 0, none⟩), .pointer (some ⟨b3, 0, none⟩)] (fun x : Ek k => #[enE x.1]) (capB b1 b2 b3) xs w) (W : World) :
    Calls Try.prog 17 #[.int .i64 l, .int .i64 t, .agg #[.int .u64 (a.1 : Int), .int .u64 (a.2 : Int)]] W fun e w' => ∃ v, e = .returned v ∧ w'.ownsRow W.heap.size 24 2 v xs.length (flat (vls33 xs)) ∧ Below W.heap.size W w' := by
  obtain ⟨i0, hi, hz0, hz1, hz2⟩ := info_elem
  refine (callsIn_wide (n := 3)).1 ?_
  have h1 : 1 ≤ 3 := by omega
  refine callsIn_of_wp_marks Try.func17 rfl trivial ?_ rfl
  simp only [Try.ntmps17, List.size_toArray, List.length_cons, List.length_nil, Nat.reduceAdd, Nat.reduceSub, Array.replicate_succ, Array.replicate_zero, List.push_toArray, List.append_toArray, List.nil_append, List.cons_append]
  have HI := fun w => conj_in (3 - 1) l t a w
  unfold enE at HI
  have HI' := hidF HI
  clear HI
  gi_wp2_with (refine ⟨trivial, ?_⟩; gi_at_call 39; refine (HI'.out _).mono ?_; rintro e w1 ⟨rfl, hc1, hb1, hs1⟩)
  simp only [World.size_alloc] at hc1 hb1 hs1
  obtain ⟨w0, hw0⟩ : ∃ w0, w0 = ((W.alloc (Obj.cells #[.int .u64 (a.1 : Int), .int .u64 (a.2 : Int)] 24)).alloc (Obj.cells #[.slice none 0 0] 35)) := ⟨_, rfl⟩
  have B0 : Below W.heap.size W w0 := by rw [hw0]; exact ((Below.refl _ _).alloc (Nat.le_refl _) _).alloc (by simp) _
  have ez0 : w0.heap.size = W.heap.size + 1 + 1 := by rw [hw0]; simp
  have S0 : Bv w0 (W.heap.size + 1) (.slice none 0 0) := by rw [hw0]; exact ⟨by simp [go_sem], by simp [go_sem]⟩
  rw [← hw0] at hb1
  have hb1' : Below w0.heap.size w0 w1 := by rw [ez0]; exact hb1
  have S1 := S0.below hb1'
  have B1 := B0.trans (hb1'.mono B0.size)
  clear hw0 hb1 hb1' S0 B0 ez0 HI'
  have HZ := hidF hs1
  clear hs1
  have hCap : ∀ i, capB (W.heap.size + 1 + 1) (W.heap.size + 1 + 1 + 1) (W.heap.size + 1 + 1 + 1 + 1) i → W.heap.size + 1 < i ∧ i < w1.heap.size := fun i hi => by
    have := HZ.out
    rcases hi with h | h | h <;> omega
  refine rangePriv (xs := xs) rfl h1 (gf := 50) (lb := #[.pointer (some ⟨W.heap.size + 1 + 1, 0, none⟩), .pointer (some ⟨W.heap.size + 1 + 1 + 1, 0, none⟩), .pointer (some ⟨W.heap.size + 1 + 1 + 1 + 1, 0, none⟩)]) rfl trivial (enters_of Try.func50 (by kernel_rfl) rfl) (encs := fun x : Ek k => #[enE x.1]) (fun _ => rfl) (fun i hi => (hCap i hi).2) (HS w1 _ _ _ hc1)
    (fun q pre X => (∃ v, Bv X (W.heap.size + 1) v ∧ X.ownsRow W.heap.size 24 2 v pre.length (flat (vls33 pre)) ∧ ∀ g, v.ownBlock = some g → w1.heap.size + 2 ≤ g ∧ g ≠ q) ∧ Below W.heap.size W X) ?_ ?_ ?_ ?_
  · rintro q pre A B hq ⟨⟨v, s, r, hg⟩, b⟩ hb ho
    have hA := s.lt
    have := HZ.out
    exact ⟨⟨v, s.blkF (ho _ hA (by omega) (by omega) (by omega)), own_blkF r fun g e => ho g (own_ltF r e) (hg g e).2 (by have := (hg g e).1; omega) (by have := (hg g e).1; omega), hg⟩, b.trans (hb.mono (by omega))⟩
  · intro q A hq hA
    exact ⟨⟨.slice none 0 0, S1.below hA, ⟨rfl, .inl ⟨rfl, rfl⟩⟩, fun g e => by cases e⟩, B1.trans (hA.mono B1.size)⟩
  · rintro y q pre x X hq hqX hlx ⟨⟨v, s, r, hg⟩, b⟩
    unfold enE
    have hzw : W.heap.size + 1 + 1 < w1.heap.size := (by have := HZ.out; omega)
    gi_wp2
    refine ⟨Kept.below ((Below.refl _ _).alloc (Nat.le_refl _) _), fun o => ?_⟩
    obtain ⟨X2, hX2⟩ : ∃ X2, X2 = (X.alloc (Obj.cells #[.int .u64 (x.1.1 : Int), .int .u64 (x.1.2 : Int)] 24)).putObj (w1.heap.size + 1) o := ⟨_, rfl⟩
    have P2 : ∀ i, i < X.heap.size → i ≠ w1.heap.size + 1 → X2.heap[i]? = X.heap[i]? := fun i hi hn => by rw [hX2]; exact (World.putObj_heap_other hn).trans (Below.heap_alloc _ _ _ hi)
    have ez2 : X2.heap.size = X.heap.size + 1 := by rw [hX2]; simp [World.putObj]
    have es2 : Bv X2 (W.heap.size + 1) v := s.blkF (P2 _ s.lt (by omega))
    have er2 : X2.ownsRow W.heap.size 24 2 v pre.length (flat (vls33 pre)) := own_blkF r fun g e => P2 g (own_ltF r e) (by have := (hg g e).1; omega)
    have ex2 : El X2 X.heap.size x.1.1 x.1.2 := by rw [hX2]; exact (Ew.newF X x.1 _).toEl.blkF (World.putObj_heap_other (by omega))
    have eb2 : Below W.heap.size W X2 := by
      rw [hX2]; exact (b.alloc b.size _).trans (below_putF _ _ _ (by simp; omega) (by omega))
    rw [← hX2]
    have K2 := hidF (And.intro es2 (And.intro er2 (And.intro eb2 (And.intro hg ez2))))
    have es1 := es2.c
    have ex1 := ex2.hi
    have ex0 := ex2.lo
    clear hX2 s r b P2 es2 er2 ex2 eb2 hg ez2
    have HOWN : Hid ((X2.alloc (Obj.cells #[.int .u64 (x.1.1 : Int), .int .u64 (x.1.2 : Int)] 24)).ownsRow W.heap.size 24 2 v pre.length (flat (vls33 pre))) := own_blkF K2.out.2.1 fun g e => Below.heap_alloc _ _ _ (own_ltF K2.out.2.1 e)
    have HCEL : Hid (∀ j u, [Value.int .u64 (x.1.1 : Int), .int .u64 (x.1.2 : Int)][j]? = some u → (X2.alloc (Obj.cells #[.int .u64 (x.1.1 : Int), .int .u64 (x.1.2 : Int)] 24)).cell? ((⟨X2.heap.size, 0, none⟩ : Addr).add j) = some u) := fun j u hj => by
      rcases j with _ | _ | j
      · simp at hj; subst hj; simp [go_sem, Addr.add]
      · simp at hj; subst hj; simp [go_sem, Addr.add]
      · simp at hj
    have hW2 : W.heap.size ≤ X2.heap.size := K2.out.2.2.1.size
    gi_wp2_with (gi_at_builtin; refine wpListIn_appF _ rfl _ _ 35 rfl W.heap.size 24 i0 (.agg #[.int .u64 0, .int .u64 0]) 2 16 Try.underlying35 hi hz0 hz1 hz2 rfl (by decide) v pre.length (flat (vls33 pre)) rfl HOWN.out ⟨X2.heap.size, 0, none⟩ 1 1 [.int .u64 (x.1.1 : Int), .int .u64 (x.1.2 : Int)] rfl rfl HCEL.out (by simp [Value.oneCell']) (by simp only [maxLen]; omega) (by omega) (by simp; omega) ?_; intro v' w5 hown' hgrow hblk; obtain ⟨g', cap', rfl⟩ := ownsRow_succ hown'; have hbl : ∀ i, i < X2.heap.size → v.ownBlock ≠ some i → w5.heap[i]? = X2.heap[i]? := fun i hi hn => (hgrow.block i (by simp; omega) (fun e => hn e.symm)).trans (Below.heap_alloc _ _ _ hi); have s5 : Bv w5 (W.heap.size + 1) v := K2.out.1.blkF (hbl _ K2.out.1.lt (fun e => by have := (K2.out.2.2.2.1 _ e).1; omega)); have K5 := hidF (And.intro hown' (And.intro hgrow (And.intro hblk (And.intro hbl s5)))); have es5 := s5.c; have ef5 := s5.f; clear hown' hgrow hblk hbl s5 es1 ex1 ex0)
    obtain ⟨hown', hgrow, hblk, hbl, s5⟩ := K5.out
    obtain ⟨es2, er2, eb2, hg, ez2⟩ := K2.out
    have hg' : w1.heap.size + 2 ≤ g' ∧ g' ≠ q := by
      rcases hblk with e | e
      · exact hg g' e.symm
      · have e2 : g' = X2.heap.size + 1 := by simpa [Value.ownBlock] using e
        omega
    have hbe : Below W.heap.size W w5 := (eb2.alloc hW2 _).grown hgrow (by simp; omega) (fun i e => by have := (hg i e).1; omega)
    refine ⟨⟨by have := hgrow.size; simp [World.setCell] at this ⊢; omega, fun i hi hlt => ?_⟩, ⟨.slice (some ⟨g', 0, none⟩) (pre.length + 1) cap', ⟨World.cell?_setCell_same' _ _ _ (by rw [es5]; rfl), by rw [World.frozen?_setCell]; exact ef5⟩, ?_, fun g e => ?_⟩, hbe.setCell (by simp) _⟩
    · have n1 : i ≠ W.heap.size + 1 := by
        rcases hi with (h | h) | h | h
        · omega
        · have := hCap _ h; omega
        · omega
        · omega
      have n2 : v.ownBlock ≠ some i := fun e => by
        have h9 := hg i e
        rcases hi with (h | h) | h | h
        · exact h9.2 h
        · have := hCap _ h; omega
        · omega
        · omega
      exact (Below.heap_setCell _ _ _ _ (by simpa using n1)).trans (hbl i hlt n2)
    · have hfl : flat (vls33 (pre ++ [x])) = flat (vls33 pre) ++ [.int .u64 (x.1.1 : Int), .int .u64 (x.1.2 : Int)] := by
        unfold vls33
        rw [List.map_append, List.map_cons, List.map_nil, flat_snocF]
      rw [hfl]
      exact own_blkF hown' fun g e => Below.heap_setCell _ _ _ _ (by have e2 : g' = g := (by simpa [Value.ownBlock] using e); simp; omega)
    · have e2 : g' = g := by simpa [Value.ownBlock] using e
      rw [← e2]; exact hg'
  · rintro q X hq ⟨⟨v, s, r, hg⟩, b⟩ hD
    have es1 := s.c
    have hzw : W.heap.size + 1 + 1 < w1.heap.size := (by have := HZ.out; omega)
    gi_wp2
    refine ⟨by simp, .inl ⟨_, _, rfl, run_takeDeferred hD, ?_⟩⟩
    refine ⟨_, results_tmp rfl _ _ _, v, rfl, own_blkF r fun g e => World.putObj_heap_other (by have := (hg g e).1; omega), b.trans (below_putF _ w1.heap.size (.deferred none) (Array.getElem?_eq_some_iff.1 hD).1 (by omega))⟩
end Go.Proofs.Ytakaconhoodigaa
