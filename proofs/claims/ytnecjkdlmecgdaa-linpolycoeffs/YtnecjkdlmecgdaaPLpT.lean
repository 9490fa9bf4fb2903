/- Rows of a list of one element: contracts of span's long, reduce and add over the seat's translation. -/
import Derived.Test.YtnecjkdlmecgdaaPSlA
import Derived.Test.YtnecjkdlmecgdaaPLpE
import Derived.Test.YtnecjkdlmecgdaaPTwT
import Derived.Test.YtnecjkdlmecgdaaLpL
namespace Go.Proofs.Ytnecjkdlmecgdaa
open Go.RowKit

theorem long_one : Ret 75 #[.agg #[.int .u64 0, .int .u64 1]] (.int .i64 1) := by
  have := long_low 1 1 (fun W => by have := len64_any 1 W (by decide) (by decide); exact this)
  exact this
set_option maxHeartbeats 1000000 in
/-- Nothing is taken where there are no rows. -/
theorem reduce_none (v : Value) (xh xl : Nat) : Ret 57 #[.agg #[.slice none 0 0, v], .agg #[.int .u64 (xh : Int), .int .u64 (xl : Int)]] (.tuple #[.agg #[.int .u64 (xh : Int), .int .u64 (xl : Int)], .agg #[.int .u64 0, .int .u64 0]]) := by
  intro W
  go_enter Try.func57, Try.ntmps57
  go_wp2_with fail
  go_rounds 1
  go_region
  all_goals
    go_wp2
    refine bodyPost_ret (v := .tuple #[.agg #[.int .u64 (xh : Int), .int .u64 (xl : Int)], .agg #[.int .u64 0, .int .u64 0]]) (by simp [results, Try.results57, go_sem]) rfl ⟨rfl, ?_⟩
    go_grown
end Go.Proofs.Ytnecjkdlmecgdaa

/- Rows of any list: contracts of span's long and has over the seat's translation (SnA). -/
namespace Go.Proofs.Ytnecjkdlmecgdaa
theorem lp_s : True := trivial
end Go.Proofs.Ytnecjkdlmecgdaa

/- As Peel, for a region whose last two operations wait for all others. -/
namespace Go
section
variable {P : Program} {Q : Exit → Act → World → Prop}

/-- A region that draws its order, without its last two operations: what S says need not hold behind the first of them. -/
theorem wp_region_peel2 {id : Nat} {ops' : Array Oper} {a : Act} {w : World} {S : World → Prop} (n : Nat) (hm : P.follows .mixedOrders = true) (hn : ops'.size = n + 1 + 1) (hp : peelsB ops' (n + 1) = true) (hp2 : peelsB ops'.pop n = true) (hS : S w.drew)
    (h : S w.drew → wpAnyH P .any ops'.pop.pop (peelQ P ops'.pop n (peelQ P ops' (n + 1) Q)) S n (Array.replicate n false) a w.drew) : (Code.region id ops' true).wp P Q a w := by
  obtain ⟨st, p⟩ := peels_of hn hp
  have hn2 : ops'.pop.size = n + 1 := by rw [Array.size_pop, hn]; omega
  obtain ⟨st2, p2⟩ := peels_of hn2 hp2
  refine wp_region_any hm ?_
  have cl : ∀ (ops : Array Oper) k, Closed .any ops (Array.replicate k false) := fun ops k i o _ hi => by
    simp only [Array.getD_eq_getD_getElem?, Array.getElem?_replicate] at hi
    split at hi <;> cases hi
  have h1 := wpAny_peel p2 n (Array.replicate n false) a w.drew (by simp) (cl _ _) (wpAny_of_held _ _ _ _ (h hS))
  rw [← Array.replicate_succ] at h1
  have := wpAny_peel p (n + 1) (Array.replicate (n + 1) false) a w.drew (by simp) (cl _ _) h1
  rw [hn, Array.replicate_succ]
  exact this
end
end Go

/- Rows of any list: the contract of span's reduce over the seat's translation. -/
namespace Go.Proofs.Ytnecjkdlmecgdaa
open Go.RowKit

/-- Rows in memory: each a sum and what it is of. -/
structure RRow (w : World) (a : Option Addr) (rs : List ((Nat × Nat) × (Nat × Nat))) : Prop where
  cells : ∀ i, i < rs.length → ∃ b off, a = some ⟨b, off, none⟩ ∧ b < w.heap.size ∧
    w.cell? ⟨b, off + i * 4, none⟩ = some (.int .u64 ((rs.getD i ((0, 0), (0, 0))).1.1 : Nat)) ∧ w.cell? ⟨b, off + i * 4 + 1, none⟩ = some (.int .u64 ((rs.getD i ((0, 0), (0, 0))).1.2 : Nat)) ∧
    w.cell? ⟨b, off + i * 4 + 2, none⟩ = some (.int .u64 ((rs.getD i ((0, 0), (0, 0))).2.1 : Nat)) ∧ w.cell? ⟨b, off + i * 4 + 3, none⟩ = some (.int .u64 ((rs.getD i ((0, 0), (0, 0))).2.2 : Nat))
/-- What is left, and of what was taken, behind the first m rows. -/
def redv (rs : List ((Nat × Nat) × (Nat × Nat))) (x : Nat × Nat) : Nat → (Nat × Nat) × (Nat × Nat)
  | 0 => (x, (0, 0))
  | m + 1 => if hasE (redv rs x m).1 (lngE (rs.getD m ((0, 0), (0, 0))).1 - 1) = true then
      (((redv rs x m).1.1 ^^^ (rs.getD m ((0, 0), (0, 0))).1.1, (redv rs x m).1.2 ^^^ (rs.getD m ((0, 0), (0, 0))).1.2), ((redv rs x m).2.1 ^^^ (rs.getD m ((0, 0), (0, 0))).2.1, (redv rs x m).2.2 ^^^ (rs.getD m ((0, 0), (0, 0))).2.2))
      else redv rs x m
/-- While rows are taken: what is left, of what was taken, the row at hand. -/
structure Rst (W w : World) (q : Nat) (l o : Nat × Nat) (r : (Nat × Nat) × (Nat × Nat)) : Prop where
  l : Ew w (W.heap.size + 1 + 1) l.1 l.2
  o : Ew w (W.heap.size + 1 + 1 + 1) o.1 o.2
  r0 : w.cell? ⟨q, 0, none⟩ = some (.int .u64 (r.1.1 : Nat))
  r1 : w.cell? ⟨q, 1, none⟩ = some (.int .u64 (r.1.2 : Nat))
  r2 : w.cell? ⟨q, 2, none⟩ = some (.int .u64 (r.2.1 : Nat))
  r3 : w.cell? ⟨q, 3, none⟩ = some (.int .u64 (r.2.2 : Nat))
  d : Below W.heap.size W w
theorem Rst.below {W w w' : World} {q : Nat} {l o : Nat × Nat} {r : (Nat × Nat) × (Nat × Nat)} (h : Rst W w q l o r) (k : Below w.heap.size w w') : Rst W w' q l o r :=
  ⟨h.l.below k, h.o.below k, keepc k h.r0, keepc k h.r1, keepc k h.r2, keepc k h.r3, h.d.trans (k.mono h.d.size)⟩
set_option maxHeartbeats 4000000 in
set_option maxRecDepth 100000 in
theorem reduce_core (a : Option Addr) (n cap : Nat) (v : Value) (rs : List ((Nat × Nat) × (Nat × Nat))) (x : Nat × Nat) (rv : Nat → (Nat × Nat) × (Nat × Nat)) (b : Nat → Bool) (L : Nat → Nat) (W : World) (hr : RRow W a rs) (hn : rs.length = n) (h1 : n ≤ 1000)
    (R0 : rv 0 = (x, (0, 0))) (HT : Hid (∀ m, m < n → L m < 128))
    (HL : Hid (∀ m, m < n → Ret 75 #[.agg #[.int .u64 ((rs.getD m ((0, 0), (0, 0))).1.1 : Int), .int .u64 ((rs.getD m ((0, 0), (0, 0))).1.2 : Int)]] (.int .i64 ((L m + 1 : Nat) : Int))))
    (HH : Hid (∀ m, m < n → Ret 74 #[.agg #[.int .u64 ((rv m).1.1 : Int), .int .u64 ((rv m).1.2 : Int)], .int .i64 (L m : Int)] (.bool (b m))))
    (HS : Hid (∀ m, m < n → b m = false → rv (m + 1) = rv m))
    (HA : Hid (∀ m, m < n → b m = true → Ret 20 #[.agg #[.int .u64 ((rv m).1.1 : Int), .int .u64 ((rv m).1.2 : Int)], .agg #[.int .u64 ((rs.getD m ((0, 0), (0, 0))).1.1 : Int), .int .u64 ((rs.getD m ((0, 0), (0, 0))).1.2 : Int)]] (.agg #[.int .u64 ((rv (m + 1)).1.1 : Int), .int .u64 ((rv (m + 1)).1.2 : Int)])))
    (HB : Hid (∀ m, m < n → b m = true → Ret 20 #[.agg #[.int .u64 ((rv m).2.1 : Int), .int .u64 ((rv m).2.2 : Int)], .agg #[.int .u64 ((rs.getD m ((0, 0), (0, 0))).2.1 : Int), .int .u64 ((rs.getD m ((0, 0), (0, 0))).2.2 : Int)]] (.agg #[.int .u64 ((rv (m + 1)).2.1 : Int), .int .u64 ((rv (m + 1)).2.2 : Int)]))) :
    Calls Try.prog 57 #[.agg #[.slice a n cap, v], .agg #[.int .u64 (x.1 : Int), .int .u64 (x.2 : Int)]] W fun e w' => e = .returned (.tuple #[.agg #[.int .u64 ((rv n).1.1 : Int), .int .u64 ((rv n).1.2 : Int)], .agg #[.int .u64 ((rv n).2.1 : Int), .int .u64 ((rv n).2.2 : Int)]]) ∧ Below W.heap.size W w' := by
  have HR : Hid (RRow W a rs) := hr
  clear hr
  go_enter Try.func57, Try.ntmps57
  go_wp2_with fail
  go_loopw [12] (fun u wr => ∃ m : Nat, m ≤ n ∧ u = .int .i64 m ∧ Ew wr (W.heap.size + 1 + 1) (rv m).1.1 (rv m).1.2 ∧ Ew wr (W.heap.size + 1 + 1 + 1) (rv m).2.1 (rv m).2.2 ∧ Below W.heap.size W wr) (fun u _ => n - (intOf u).toNat)
  case atStart => exact ⟨0, Nat.zero_le _, rfl, by rw [R0]; exact ⟨⟨by simp [go_sem], by simp [go_sem]⟩, by simp [go_sem], by simp [go_sem]⟩, by rw [R0]; exact ⟨⟨by simp [go_sem], by simp [go_sem]⟩, by simp [go_sem], by simp [go_sem]⟩, by go_grown⟩
  case round =>
    obtain ⟨m, hmn, rfl, hl, ho, hD⟩ := hrel
    by_cases hlt : m < n
    · obtain ⟨g, off, rfl, hb, d0, d1, d2, d3⟩ := HR.out.cells m (by omega)
      have b0 : wr.cell? ⟨g, off + m * 4, none⟩ = _ := (hD.cell (p := ⟨g, off + m * 4, none⟩) hb).trans d0
      have b1 : wr.cell? ⟨g, off + m * 4 + 1, none⟩ = _ := (hD.cell (p := ⟨g, off + m * 4 + 1, none⟩) hb).trans d1
      have b2 : wr.cell? ⟨g, off + m * 4 + 2, none⟩ = _ := (hD.cell (p := ⟨g, off + m * 4 + 2, none⟩) hb).trans d2
      have b3 : wr.cell? ⟨g, off + m * 4 + 3, none⟩ = _ := (hD.cell (p := ⟨g, off + m * 4 + 3, none⟩) hb).trans d3
      have hT := HT.out m hlt
      have hwL : IntKind.i64.wrap (L m : Int) = (L m : Int) := by rw [IntKind.wrap_i64]; omega
      have H1 := HL.out m hlt
      have H2 := HH.out m hlt
      have H3 := HS.out m hlt
      have H4 := HA.out m hlt
      have H5 := HB.out m hlt
      have Kl : Hid (Ew wr (W.heap.size + 1 + 1) (rv m).1.1 (rv m).1.2) := hl
      have Ko : Hid (Ew wr (W.heap.size + 1 + 1 + 1) (rv m).2.1 (rv m).2.2) := ho
      have KD : Hid (Below W.heap.size W wr) := hD
      clear HT HL HH HS HA HB hl ho hD d0 d1 d2 d3 HR
      generalize rs.getD m ((0, 0), (0, 0)) = r at *
      go_upto_region 5 with fail
      have K5 : Hid (Rst W (wr.alloc (Obj.cells #[.int .u64 (r.1.1 : Int), .int .u64 (r.1.2 : Int), .int .u64 (r.2.1 : Int), .int .u64 (r.2.2 : Int)] 103)) wr.heap.size (rv m).1 (rv m).2 r) := ⟨Kl.out.alloc _, Ko.out.alloc _, by simp [go_sem], by simp [go_sem], by simp [go_sem], by simp [go_sem], KD.out.alloc KD.out.size _⟩
      clear b0 b1 b2 b3 Kl Ko KD
      generalize wr.alloc (Obj.cells #[.int .u64 (r.1.1 : Int), .int .u64 (r.1.2 : Int), .int .u64 (r.2.1 : Int), .int .u64 (r.2.2 : Int)] 103) = w5 at *
      generalize wr.heap.size = q at *
      refine wp_region_noPanic ?_
      refine wp_region_peel (S := fun w => w.cell? ⟨W.heap.size + 1 + 1, 0, none⟩ = some (.int .u64 ((rv m).1.1 : Nat)) ∧ w.cell? ⟨W.heap.size + 1 + 1, 1, none⟩ = some (.int .u64 ((rv m).1.2 : Nat)) ∧ w.cell? ⟨q, 0, none⟩ = some (.int .u64 (r.1.1 : Nat)) ∧ w.cell? ⟨q, 1, none⟩ = some (.int .u64 (r.1.2 : Nat))) 5 (by kernel_rfl) rfl (by kernel_rfl) ?_ (fun hHeld => ?_)
      · exact ⟨K5.out.l.hi, K5.out.l.lo, K5.out.r0, K5.out.r1⟩
      refine wpAnyH_take (i := 0) (oi := _) (v := ?_) rfl (by kernel_rfl) (by kernel_rfl) (by kernel_rfl) (fun _ _ _ h => h) (Or.inl ⟨by rfl, ?_⟩) (by assumption) ?_
      rotate_left
      · ((intro w hSw; (try dsimp only at hSw); go_simp) <;> (try with_reducible rfl))
      try simp only [Act.put]
      refine wpAnyH_take (i := 1) (oi := _) (v := ?_) rfl (by kernel_rfl) (by kernel_rfl) (by kernel_rfl) (fun _ _ _ h => h) (Or.inl ⟨by rfl, ?_⟩) (by assumption) ?_
      rotate_left
      · ((intro w hSw; (try dsimp only at hSw); go_simp) <;> (try with_reducible rfl))
      try simp only [Act.put]
      refine wpAnyH_take (i := 2) (oi := _) (v := ?_) rfl (by kernel_rfl) (by kernel_rfl) (by kernel_rfl) (fun _ _ _ h => h) (Or.inl ⟨by rfl, ?_⟩) (by assumption) ?_
      rotate_left
      · ((intro w hSw; (try dsimp only at hSw); go_simp) <;> (try with_reducible rfl))
      try simp only [Act.put]
      refine wpAnyH_ready (rs := [3]) (by kernel_rfl) (by simp) ?_
      refine AllReadyH.cons (o := _) rfl (fun KK hKK => ?_) AllReadyH.nil
      go_simp
      (go_at_call 75; refine (H1.go _).mono ?_; rintro e w6 ⟨rfl, hb6⟩)
      have hb6' : Below w5.heap.size w5 w6 := (Below.refl _ _).drew.trans hb6
      have K6 : Hid (Rst W w6 q (rv m).1 (rv m).2 r) := K5.out.below hb6'
      clear hb6 hb6' K5 H1
      refine hKK.out _ _ ?_ (fun hHeld => ?_)
      · exact ⟨K6.out.l.hi, K6.out.l.lo, K6.out.r0, K6.out.r1⟩
      clear hKK KK
      try simp only [Act.put]
      refine wpAnyH_take (i := 4) (oi := _) (v := ?_) rfl (by kernel_rfl) (by kernel_rfl) (by kernel_rfl) (fun _ _ _ h => h) (Or.inl ⟨by rfl, ?_⟩) (by assumption) ?_
      rotate_left
      · ((intro w hSw; (try dsimp only at hSw); go_simp) <;> (try with_reducible rfl))
      try simp only [Act.put]
      refine wpAnyH_done (by kernel_rfl) ?_ _
      refine peel_last rfl (fun KK hKK => ?_)
      clear hHeld
      go_simp
      (go_at_call 74; refine (H2.go _).mono ?_; rintro e w7 ⟨rfl, hb7⟩)
      have K7 : Hid (Rst W w7 q (rv m).1 (rv m).2 r) := K6.out.below hb7
      clear hb7 K6 H2 hwL hT
      refine hKK _ _ ?_
      refine NoPanic.normal ?_
      clear hKK KK
      cases hbm : b m
      · have hE := H3 hbm
        clear H3 H4 H5
        go_wp2
        exact ⟨⟨m + 1, hlt, by simp, by rw [hE]; exact K7.out.l, by rw [hE]; exact K7.out.o, K7.out.d⟩, by simp [intOf]; omega⟩
      have A1 := H4 hbm
      have A2 := H5 hbm
      clear H3 H4 H5
      go_upto_region 6 with fail
      refine wp_region_noPanic ?_
      refine wp_region_peel2 (S := fun w => w.cell? ⟨W.heap.size + 1 + 1, 0, none⟩ = some (.int .u64 ((rv m).1.1 : Nat)) ∧ w.cell? ⟨W.heap.size + 1 + 1, 1, none⟩ = some (.int .u64 ((rv m).1.2 : Nat)) ∧ w.cell? ⟨W.heap.size + 1 + 1 + 1, 0, none⟩ = some (.int .u64 ((rv m).2.1 : Nat)) ∧ w.cell? ⟨W.heap.size + 1 + 1 + 1, 1, none⟩ = some (.int .u64 ((rv m).2.2 : Nat)) ∧ w.cell? ⟨q, 0, none⟩ = some (.int .u64 (r.1.1 : Nat)) ∧ w.cell? ⟨q, 1, none⟩ = some (.int .u64 (r.1.2 : Nat)) ∧ w.cell? ⟨q, 2, none⟩ = some (.int .u64 (r.2.1 : Nat)) ∧ w.cell? ⟨q, 3, none⟩ = some (.int .u64 (r.2.2 : Nat))) 8 (by kernel_rfl) rfl (by kernel_rfl) (by kernel_rfl) ?_ (fun hHeld => ?_)
      · exact ⟨K7.out.l.hi, K7.out.l.lo, K7.out.o.hi, K7.out.o.lo, K7.out.r0, K7.out.r1, K7.out.r2, K7.out.r3⟩
      refine wpAnyH_take (i := 0) (oi := _) (v := ?_) rfl (by kernel_rfl) (by kernel_rfl) (by kernel_rfl) (fun _ _ _ h => h) (Or.inl ⟨by rfl, ?_⟩) (by assumption) ?_
      rotate_left
      · ((intro w hSw; (try dsimp only at hSw); go_simp) <;> (try with_reducible rfl))
      try simp only [Act.put]
      refine wpAnyH_take (i := 1) (oi := _) (v := ?_) rfl (by kernel_rfl) (by kernel_rfl) (by kernel_rfl) (fun _ _ _ h => h) (Or.inl ⟨by rfl, ?_⟩) (by assumption) ?_
      rotate_left
      · ((intro w hSw; (try dsimp only at hSw); go_simp) <;> (try with_reducible rfl))
      try simp only [Act.put]
      refine wpAnyH_take (i := 2) (oi := _) (v := ?_) rfl (by kernel_rfl) (by kernel_rfl) (by kernel_rfl) (fun _ _ _ h => h) (Or.inl ⟨by rfl, ?_⟩) (by assumption) ?_
      rotate_left
      · ((intro w hSw; (try dsimp only at hSw); go_simp) <;> (try with_reducible rfl))
      try simp only [Act.put]
      refine wpAnyH_take (i := 4) (oi := _) (v := ?_) rfl (by kernel_rfl) (by kernel_rfl) (by kernel_rfl) (fun _ _ _ h => h) (Or.inl ⟨by rfl, ?_⟩) (by assumption) ?_
      rotate_left
      · ((intro w hSw; (try dsimp only at hSw); go_simp) <;> (try with_reducible rfl))
      try simp only [Act.put]
      refine wpAnyH_take (i := 5) (oi := _) (v := ?_) rfl (by kernel_rfl) (by kernel_rfl) (by kernel_rfl) (fun _ _ _ h => h) (Or.inl ⟨by rfl, ?_⟩) (by assumption) ?_
      rotate_left
      · ((intro w hSw; (try dsimp only at hSw); go_simp) <;> (try with_reducible rfl))
      try simp only [Act.put]
      refine wpAnyH_take (i := 6) (oi := _) (v := ?_) rfl (by kernel_rfl) (by kernel_rfl) (by kernel_rfl) (fun _ _ _ h => h) (Or.inl ⟨by rfl, ?_⟩) (by assumption) ?_
      rotate_left
      · ((intro w hSw; (try dsimp only at hSw); go_simp) <;> (try with_reducible rfl))
      try simp only [Act.put]
      refine wpAnyH_ready (rs := [3]) (by kernel_rfl) (by simp) ?_
      refine AllReadyH.cons (o := _) rfl (fun KK hKK => ?_) AllReadyH.nil
      go_simp
      (go_at_call 20; refine (A1.go _).mono ?_; rintro e w8 ⟨rfl, hbn⟩)
      have hbn' : Below w7.heap.size w7 w8 := by first | exact hbn | exact (Below.refl _ _).drew.trans hbn
      have K8 : Hid (Rst W w8 q (rv m).1 (rv m).2 r) := K7.out.below hbn'
      clear hbn hbn' K7 A1
      refine hKK.out _ _ ?_ (fun hHeld => ?_)
      · exact ⟨K8.out.l.hi, K8.out.l.lo, K8.out.o.hi, K8.out.o.lo, K8.out.r0, K8.out.r1, K8.out.r2, K8.out.r3⟩
      clear hKK KK
      try simp only [Act.put]
      refine wpAnyH_ready (rs := [7]) (by kernel_rfl) (by simp) ?_
      refine AllReadyH.cons (o := _) rfl (fun KK hKK => ?_) AllReadyH.nil
      go_simp
      (go_at_call 20; refine (A2.go _).mono ?_; rintro e w9 ⟨rfl, hbn⟩)
      have hbn' : Below w8.heap.size w8 w9 := by first | exact hbn | exact (Below.refl _ _).drew.trans hbn
      have K9 : Hid (Rst W w9 q (rv m).1 (rv m).2 r) := K8.out.below hbn'
      clear hbn hbn' K8 A2
      refine hKK.out _ _ ?_ (fun hHeld => ?_)
      · exact ⟨K9.out.l.hi, K9.out.l.lo, K9.out.o.hi, K9.out.o.lo, K9.out.r0, K9.out.r1, K9.out.r2, K9.out.r3⟩
      clear hKK KK
      try simp only [Act.put]
      refine wpAnyH_done (by kernel_rfl) ?_ _
      refine peel_last rfl (fun KK hKK => ?_)
      clear hHeld
      have s1 := K9.out.l.hi
      have s0 := K9.out.l.lo
      have f1 := K9.out.l.fhi
      have f0 := K9.out.l.flo
      go_simp
      refine hKK _ _ ?_
      refine peel_last rfl (fun KK hKK => ?_)
      have M1 : Ew ((w9.setCell ⟨W.heap.size + 1 + 1, 0, none⟩ (.int .u64 ((rv (m + 1)).1.1 : Int))).setCell ⟨W.heap.size + 1 + 1, 1, none⟩ (.int .u64 ((rv (m + 1)).1.2 : Int))) (W.heap.size + 1 + 1) (rv (m + 1)).1.1 (rv (m + 1)).1.2 := K9.out.l.set _ _
      have M2 : Ew ((w9.setCell ⟨W.heap.size + 1 + 1, 0, none⟩ (.int .u64 ((rv (m + 1)).1.1 : Int))).setCell ⟨W.heap.size + 1 + 1, 1, none⟩ (.int .u64 ((rv (m + 1)).1.2 : Int))) (W.heap.size + 1 + 1 + 1) (rv m).2.1 (rv m).2.2 := K9.out.o.other (by omega) _ _
      have M3 : Below W.heap.size W ((w9.setCell ⟨W.heap.size + 1 + 1, 0, none⟩ (.int .u64 ((rv (m + 1)).1.1 : Int))).setCell ⟨W.heap.size + 1 + 1, 1, none⟩ (.int .u64 ((rv (m + 1)).1.2 : Int))) := (K9.out.d.setCell (by show W.heap.size ≤ W.heap.size + 1 + 1; omega) _).setCell (by show W.heap.size ≤ W.heap.size + 1 + 1; omega) _
      clear s1 s0 f1 f0 K9
      generalize (w9.setCell ⟨W.heap.size + 1 + 1, 0, none⟩ (.int .u64 ((rv (m + 1)).1.1 : Int))).setCell ⟨W.heap.size + 1 + 1, 1, none⟩ (.int .u64 ((rv (m + 1)).1.2 : Int)) = w10 at *
      have s1 := M2.hi
      have s0 := M2.lo
      have f1 := M2.fhi
      have f0 := M2.flo
      have N1 : Hid (Ew ((w10.setCell ⟨W.heap.size + 1 + 1 + 1, 0, none⟩ (.int .u64 ((rv (m + 1)).2.1 : Int))).setCell ⟨W.heap.size + 1 + 1 + 1, 1, none⟩ (.int .u64 ((rv (m + 1)).2.2 : Int))) (W.heap.size + 1 + 1) (rv (m + 1)).1.1 (rv (m + 1)).1.2) := M1.other (by omega) _ _
      have N2 : Hid (Ew ((w10.setCell ⟨W.heap.size + 1 + 1 + 1, 0, none⟩ (.int .u64 ((rv (m + 1)).2.1 : Int))).setCell ⟨W.heap.size + 1 + 1 + 1, 1, none⟩ (.int .u64 ((rv (m + 1)).2.2 : Int))) (W.heap.size + 1 + 1 + 1) (rv (m + 1)).2.1 (rv (m + 1)).2.2) := M2.set _ _
      have N3 : Hid (Below W.heap.size W ((w10.setCell ⟨W.heap.size + 1 + 1 + 1, 0, none⟩ (.int .u64 ((rv (m + 1)).2.1 : Int))).setCell ⟨W.heap.size + 1 + 1 + 1, 1, none⟩ (.int .u64 ((rv (m + 1)).2.2 : Int)))) := (M3.setCell (by show W.heap.size ≤ W.heap.size + 1 + 1 + 1; omega) _).setCell (by show W.heap.size ≤ W.heap.size + 1 + 1 + 1; omega) _
      clear M1 M2 M3
      go_simp
      refine hKK _ _ ?_
      refine NoPanic.normal ?_
      clear hKK KK s1 s0 f1 f0
      generalize (w10.setCell ⟨W.heap.size + 1 + 1 + 1, 0, none⟩ (.int .u64 ((rv (m + 1)).2.1 : Int))).setCell ⟨W.heap.size + 1 + 1 + 1, 1, none⟩ (.int .u64 ((rv (m + 1)).2.2 : Int)) = w11 at *
      go_wp2
      exact ⟨⟨m + 1, hlt, by simp, N1.out, N2.out, N3.out⟩, by simp [intOf]; omega⟩
    · obtain rfl : m = n := by omega
      have Kl : Hid (Ew wr (W.heap.size + 1 + 1) (rv m).1.1 (rv m).1.2) := hl
      have Ko : Hid (Ew wr (W.heap.size + 1 + 1 + 1) (rv m).2.1 (rv m).2.2) := ho
      have KD : Hid (Below W.heap.size W wr) := hD
      have s1 := hl.hi
      have s0 := hl.lo
      have o1 := ho.hi
      have o0 := ho.lo
      have f1 := hl.fhi
      have f0 := hl.flo
      have z1 := ho.fhi
      have z0 := ho.flo
      clear HT HL HH HS HA HB hl ho hD HR
      go_wp2_with fail
      go_region
      all_goals
        go_wp2
        refine bodyPost_ret (v := .tuple #[.agg #[.int .u64 ((rv m).1.1 : Int), .int .u64 ((rv m).1.2 : Int)], .agg #[.int .u64 ((rv m).2.1 : Int), .int .u64 ((rv m).2.2 : Int)]]) (by simp [results, Try.results57, go_sem, *]) rfl ⟨rfl, ?_⟩
        repeat' (first | exact KD.out | refine Below.drew ?_ | refine Below.setCell ?_ ?_ _ | (simp only; omega))
/-- Rows whose words are words, and whose sums are not 0. -/
def ltR (rs : List ((Nat × Nat) × (Nat × Nat))) : Prop := ∀ r ∈ rs, (r.1.1 < 2 ^ 64 ∧ r.1.2 < 2 ^ 64) ∧ (r.2.1 < 2 ^ 64 ∧ r.2.2 < 2 ^ 64) ∧ r.1 ≠ (0, 0)
theorem ltR.at {rs : List ((Nat × Nat) × (Nat × Nat))} (h : ltR rs) {m : Nat} (hm : m < rs.length) : ((rs.getD m ((0, 0), (0, 0))).1.1 < 2 ^ 64 ∧ (rs.getD m ((0, 0), (0, 0))).1.2 < 2 ^ 64) ∧ ((rs.getD m ((0, 0), (0, 0))).2.1 < 2 ^ 64 ∧ (rs.getD m ((0, 0), (0, 0))).2.2 < 2 ^ 64) ∧ (rs.getD m ((0, 0), (0, 0))).1 ≠ (0, 0) := by
  have e : rs.getD m ((0, 0), (0, 0)) = rs[m] := by simp [List.getD, hm]
  rw [e]
  exact h _ (List.getElem_mem hm)
theorem redv_lt {rs : List ((Nat × Nat) × (Nat × Nat))} (h : ltR rs) (x : Nat × Nat) (h1 : x.1 < 2 ^ 64) (h2 : x.2 < 2 ^ 64) : ∀ m, m ≤ rs.length → ((redv rs x m).1.1 < 2 ^ 64 ∧ (redv rs x m).1.2 < 2 ^ 64) ∧ ((redv rs x m).2.1 < 2 ^ 64 ∧ (redv rs x m).2.2 < 2 ^ 64)
  | 0, _ => ⟨⟨h1, h2⟩, Nat.two_pow_pos 64, Nat.two_pow_pos 64⟩
  | m + 1, hm => by
    have i := redv_lt h x h1 h2 m (by omega)
    have t := h.at (m := m) (by omega)
    unfold redv
    split
    · exact ⟨⟨Nat.xor_lt_two_pow i.1.1 t.1.1, Nat.xor_lt_two_pow i.1.2 t.1.2⟩, Nat.xor_lt_two_pow i.2.1 t.2.1.1, Nat.xor_lt_two_pow i.2.2 t.2.1.2⟩
    · exact i
theorem reduce_any (a : Option Addr) (cap : Nat) (v : Value) (rs : List ((Nat × Nat) × (Nat × Nat))) (x : Nat × Nat) (W : World) (hr : RRow W a rs) (hn : rs.length ≤ 1000) (ht : ltR rs) (h1 : x.1 < 2 ^ 64) (h2 : x.2 < 2 ^ 64) :
    Calls Try.prog 57 #[.agg #[.slice a rs.length cap, v], .agg #[.int .u64 (x.1 : Int), .int .u64 (x.2 : Int)]] W fun e w' => e = .returned (.tuple #[.agg #[.int .u64 ((redv rs x rs.length).1.1 : Int), .int .u64 ((redv rs x rs.length).1.2 : Int)], .agg #[.int .u64 ((redv rs x rs.length).2.1 : Int), .int .u64 ((redv rs x rs.length).2.2 : Int)]]) ∧ Below W.heap.size W w' := by
  have hl : ∀ m, m < rs.length → 1 ≤ lngE (rs.getD m ((0, 0), (0, 0))).1 ∧ lngE (rs.getD m ((0, 0), (0, 0))).1 ≤ 128 := fun m hm => by
    have t := ht.at hm
    have := lngE_lead _ t.1.1 t.1.2 t.2.2
    exact ⟨this.1, this.2.1⟩
  refine reduce_core a rs.length cap v rs x (redv rs x) (fun m => hasE (redv rs x m).1 (lngE (rs.getD m ((0, 0), (0, 0))).1 - 1)) (fun m => lngE (rs.getD m ((0, 0), (0, 0))).1 - 1) W hr rfl hn rfl (fun m hm => by have := hl m hm; omega) (fun m hm => ?_) (fun m hm => ?_) (fun m hm hb => ?_) (fun m hm hb W => ?_) (fun m hm hb W => ?_)
  · have t := ht.at hm
    rw [show lngE (rs.getD m ((0, 0), (0, 0))).1 - 1 + 1 = lngE (rs.getD m ((0, 0), (0, 0))).1 by have := hl m hm; omega]
    exact long_any _ t.1.1 t.1.2
  · have i := redv_lt ht x h1 h2 m (by omega)
    exact shas_any _ _ i.1.1 i.1.2 (by have := hl m hm; omega)
  · exact if_neg (by rw [hb]; decide)
  · have i := redv_lt ht x h1 h2 m (by omega)
    have t := ht.at hm
    rw [show redv rs x (m + 1) = _ from if_pos hb]
    exact add_any _ _ _ _ i.1.1 i.1.2 t.1.1 t.1.2 W
  · have i := redv_lt ht x h1 h2 m (by omega)
    have t := ht.at hm
    rw [show redv rs x (m + 1) = _ from if_pos hb]
    exact add_any _ _ _ _ i.2.1 i.2.2 t.2.1.1 t.2.1.2 W
end Go.Proofs.Ytnecjkdlmecgdaa
