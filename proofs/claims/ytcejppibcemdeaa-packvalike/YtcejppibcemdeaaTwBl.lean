/- The contracts of tower's calls of two words, over the seat's translation; what a call keeps; products as sums of products with bits. -/
import Derived.Test.YtcejppibcemdeaaPTwO
import Derived.Deep.RegionHeld3
import Derived.Deep.DeepCutAuto
namespace Go.Proofs.Ytcejppibcemdeaa
open Go.RowKit

theorem one_any (W : World) : Calls Try.prog 35 #[] W fun e w' => e = .returned (.agg #[.int .u64 0, .int .u64 1]) ∧ Below W.heap.size W w' := by
  go_enter Try.func35, Try.ntmps35
  go_wp2
  refine bodyPost_ret (v := .agg #[.int .u64 0, .int .u64 1]) (by simp [results, Try.results35, go_sem]) rfl ⟨rfl, ?_⟩
  go_grown

/-- An element lies at a block's first cells. -/
structure El (w : World) (b h l : Nat) : Prop where
  hi : w.cell? ⟨b, 0, none⟩ = some (.int .u64 (h : Int))
  lo : w.cell? ⟨b, 1, none⟩ = some (.int .u64 (l : Int))
theorem El.below {w w' : World} {b h l : Nat} (e : El w b h l) (hb : Below w.heap.size w w') : El w' b h l := ⟨keepc hb e.hi, keepc hb e.lo⟩
/-- And can be written. -/
structure Ew (w : World) (b h l : Nat) : Prop extends El w b h l where
  fhi : w.frozen? ⟨b, 0, none⟩ = false
  flo : w.frozen? ⟨b, 1, none⟩ = false
theorem Ew.below {w w' : World} {b h l : Nat} (e : Ew w b h l) (hb : Below w.heap.size w w') : Ew w' b h l := ⟨e.toEl.below hb, keepf hb e.hi e.fhi, keepf hb e.lo e.flo⟩
theorem El.lt {w : World} {b h l : Nat} (e : El w b h l) : b < w.heap.size := by
  rcases Nat.lt_or_ge b w.heap.size with h1 | h1
  · exact h1
  · have := e.hi; simp [World.cell?, Array.getElem?_eq_none h1] at this

theorem El.alloc {w : World} {b h l : Nat} (e : El w b h l) (o : Obj) : El (w.alloc o) b h l := e.below ((Below.refl _ _).alloc (Nat.le_refl _) o)
theorem Ew.alloc {w : World} {b h l : Nat} (e : Ew w b h l) (o : Obj) : Ew (w.alloc o) b h l := e.below ((Below.refl _ _).alloc (Nat.le_refl _) o)
theorem El.drew {w : World} {b h l : Nat} (e : El w b h l) : El w.drew b h l := ⟨e.hi, e.lo⟩
theorem Ew.drew {w : World} {b h l : Nat} (e : Ew w b h l) : Ew w.drew b h l := ⟨⟨e.hi, e.lo⟩, e.fhi, e.flo⟩
theorem Ew.set {w : World} {b h l : Nat} (e : Ew w b h l) (h' l' : Nat) : Ew ((w.setCell ⟨b, 0, none⟩ (.int .u64 (h' : Int))).setCell ⟨b, 1, none⟩ (.int .u64 (l' : Int))) b h' l' := by
  obtain ⟨⟨e1, e0⟩, f1, f0⟩ := e
  exact ⟨⟨by simp [go_sem, *], by simp [go_sem, *]⟩, by simp [go_sem, *], by simp [go_sem, *]⟩
theorem Ew.other {w : World} {b c h l : Nat} (e : Ew w c h l) (hn : b ≠ c) (u v : Value) : Ew ((w.setCell ⟨b, 0, none⟩ u).setCell ⟨b, 1, none⟩ v) c h l := by
  obtain ⟨⟨e1, e0⟩, f1, f0⟩ := e
  have hn' : c ≠ b := fun h => hn h.symm
  exact ⟨⟨by simp [go_sem, *], by simp [go_sem, *]⟩, by simp [go_sem, *], by simp [go_sem, *]⟩

/-- All added. -/
def xsum (es : List (Nat × Nat)) : Nat × Nat := es.foldl (fun s e => (s.1 ^^^ e.1, s.2 ^^^ e.2)) (0, 0)
theorem xsum_snoc (es : List (Nat × Nat)) (e : Nat × Nat) : xsum (es ++ [e]) = ((xsum es).1 ^^^ e.1, (xsum es).2 ^^^ e.2) := by simp [xsum]
theorem xsum_lt (es : List (Nat × Nat)) (h : ∀ e ∈ es, e.1 < 2 ^ 64 ∧ e.2 < 2 ^ 64) : ∀ k, (xsum (es.take k)).1 < 2 ^ 64 ∧ (xsum (es.take k)).2 < 2 ^ 64 := by
  intro k
  induction k with
  | zero => simp [xsum]
  | succ k ih =>
    by_cases hk : k < es.length
    · rw [take_sn es k hk, xsum_snoc]
      have hm : es.getD k (0, 0) ∈ es := by rw [show es.getD k (0, 0) = es[k] by simp [hk]]; exact List.getElem_mem hk
      exact ⟨Nat.xor_lt_two_pow ih.1 (h _ hm).1, Nat.xor_lt_two_pow ih.2 (h _ hm).2⟩
    · rw [List.take_of_length_le (by omega)]; rw [List.take_of_length_le (by omega)] at ih; exact ih

namespace Tw

theorem pm_of {ah al bh bl rh rl : Nat} (h1 : rh < 2 ^ 64) (h2 : rl < 2 ^ 64) (h : mul 7 (d7 ah al) (d7 bh bl) = d7 rh rl) : pmh ah al bh bl = rh ∧ pml ah al bh bl = rl :=
  d7_inj (pmh_lt _ _ _ _) (pml_lt _ _ _ _) h1 h2 (by rw [d7_mul]; exact h)
theorem pm_comm (ah al bh bl : Nat) : pmh bh bl ah al = pmh ah al bh bl ∧ pml bh bl ah al = pml ah al bh bl :=
  d7_inj (pmh_lt _ _ _ _) (pml_lt _ _ _ _) (pmh_lt _ _ _ _) (pml_lt _ _ _ _) (by rw [d7_mul, d7_mul, mul_comm])
theorem pm_assoc (ah al bh bl ch cl : Nat) : pmh (pmh ah al bh bl) (pml ah al bh bl) ch cl = pmh ah al (pmh bh bl ch cl) (pml bh bl ch cl) ∧ pml (pmh ah al bh bl) (pml ah al bh bl) ch cl = pml ah al (pmh bh bl ch cl) (pml bh bl ch cl) :=
  d7_inj (pmh_lt _ _ _ _) (pml_lt _ _ _ _) (pmh_lt _ _ _ _) (pml_lt _ _ _ _) (by rw [d7_mul, d7_mul, d7_mul, d7_mul, mul_assoc])
theorem pm_add (ah al bh bl ch cl : Nat) : pmh ah al (bh ^^^ ch) (bl ^^^ cl) = pmh ah al bh bl ^^^ pmh ah al ch cl ∧ pml ah al (bh ^^^ ch) (bl ^^^ cl) = pml ah al bh bl ^^^ pml ah al ch cl :=
  d7_inj (pmh_lt _ _ _ _) (pml_lt _ _ _ _) (Nat.xor_lt_two_pow (pmh_lt _ _ _ _) (pmh_lt _ _ _ _)) (Nat.xor_lt_two_pow (pml_lt _ _ _ _) (pml_lt _ _ _ _)) (by rw [d7_mul, d7_add, d7_add, d7_mul, d7_mul, mul_add])
theorem d7_one : d7 0 1 = one 7 := by
  unfold d7; rw [dec_one, dec_zero]; rfl
theorem d7_zero : d7 0 0 = zero 7 := by
  unfold d7; rw [dec_zero]; rfl
theorem pm_one {ah al : Nat} (h1 : ah < 2 ^ 64) (h2 : al < 2 ^ 64) : pmh ah al 0 1 = ah ∧ pml ah al 0 1 = al :=
  d7_inj (pmh_lt _ _ _ _) (pml_lt _ _ _ _) h1 h2 (by rw [d7_mul, d7_one, mul_one])
theorem pm_sq_add (ah al bh bl : Nat) : pmh (ah ^^^ bh) (al ^^^ bl) (ah ^^^ bh) (al ^^^ bl) = pmh ah al ah al ^^^ pmh bh bl bh bl ∧ pml (ah ^^^ bh) (al ^^^ bl) (ah ^^^ bh) (al ^^^ bl) = pml ah al ah al ^^^ pml bh bl bh bl :=
  d7_inj (pmh_lt _ _ _ _) (pml_lt _ _ _ _) (Nat.xor_lt_two_pow (pmh_lt _ _ _ _) (pmh_lt _ _ _ _)) (Nat.xor_lt_two_pow (pml_lt _ _ _ _) (pml_lt _ _ _ _)) (by
    rw [d7_mul, d7_add, d7_add, d7_mul, d7_mul, mul_add, add_mul, add_mul, mul_comm 7 (d7 bh bl) (d7 ah al), add_assoc, add_self_left])
theorem pmh_low (al bl : Nat) : pmh 0 al 0 bl = 0 := by
  unfold pmh; rw [px_zero, px_comm 0 bl, px_comm 0 0, px_zero, px_zero, px_zero]
  rfl
theorem pml_low (al bl : Nat) : pml 0 al 0 bl = px al bl := by
  unfold pml; rw [px_zero, Nat.xor_zero]
end Tw

theorem ofB_iff (k h l : Nat) (hk : k < 8) : ofB (k : Int) (h : Int) (l : Int) = true ↔ k = 7 ∨ (h = 0 ∧ l < 2 ^ 2 ^ k) := by
  have e : levelB (k : Int) = true := by simp [levelB]; omega
  unfold ofB
  rw [e]
  simp only [Bool.true_and, Bool.or_eq_true, Bool.and_eq_true, decide_eq_true_eq, Int.toNat_natCast]
  have h2 : ((l : Int) < 2 ^ 2 ^ k) ↔ l < 2 ^ 2 ^ k := by
    rw [show (2 : Int) ^ 2 ^ k = ((2 ^ 2 ^ k : Nat) : Int) by simp]; exact Int.ofNat_lt
  rw [h2]
  omega
theorem of_pm {k ah al bh bl : Nat} (hk : k < 8) (ha : ofB (k : Int) (ah : Int) (al : Int) = true) (hb : ofB (k : Int) (bh : Int) (bl : Int) = true) : ofB (k : Int) (Tw.pmh ah al bh bl : Nat) (Tw.pml ah al bh bl : Nat) = true := by
  rw [ofB_iff _ _ _ hk] at *
  rcases ha with h | ⟨rfl, h1⟩
  · exact .inl h
  · rcases hb with h | ⟨rfl, h2⟩
    · exact .inl h
    · by_cases h7 : k = 7
      · exact .inl h7
      · right
        rw [Tw.pmh_low, Tw.pml_low]
        exact ⟨rfl, Tw.px_closed k _ _ (by omega) h1 h2⟩
theorem of_xor {k ah al bh bl : Nat} (hk : k < 8) (ha : ofB (k : Int) (ah : Int) (al : Int) = true) (hb : ofB (k : Int) (bh : Int) (bl : Int) = true) : ofB (k : Int) (ah ^^^ bh : Nat) (al ^^^ bl : Nat) = true := by
  rw [ofB_iff _ _ _ hk] at *
  rcases ha with h | ⟨rfl, h1⟩
  · exact .inl h
  · rcases hb with h | ⟨rfl, h2⟩
    · exact .inl h
    · exact .inr ⟨rfl, Nat.xor_lt_two_pow h1 h2⟩
theorem of_one (k : Nat) (hk : k < 8) : ofB (k : Int) 0 1 = true := by
  have := (ofB_iff k 0 1 hk).2 (.inr ⟨rfl, Nat.one_lt_two_pow (Nat.ne_of_gt (Nat.two_pow_pos k))⟩)
  exact this
theorem of_zero (k : Nat) (hk : k < 8) : ofB (k : Int) 0 0 = true := by
  have := (ofB_iff k 0 0 hk).2 (.inr ⟨rfl, Nat.two_pow_pos _⟩)
  exact this
theorem of_up {k m h l : Nat} (hk : k < 8) (hm : m < 8) (hle : k ≤ m) (ha : ofB (k : Int) (h : Int) (l : Int) = true) : ofB (m : Int) (h : Int) (l : Int) = true := by
  rw [ofB_iff _ _ _ hk] at ha
  rw [ofB_iff _ _ _ hm]
  rcases ha with rfl | ⟨rfl, h1⟩
  · left; omega
  · exact .inr ⟨rfl, Nat.lt_of_lt_of_le h1 (by obtain ⟨j, rfl⟩ := Nat.exists_eq_add_of_le hle; exact Tw.pow_le_up k j)⟩
theorem cut_closed (k : Nat) (hk : k < 8) (e : Nat × Nat) (h2 : e.2 < 2 ^ 64) : ofB (k : Int) ((cutE k e).1 : Nat) ((cutE k e).2 : Nat) = true := by
  rw [ofB_iff _ _ _ hk]
  by_cases h7 : k = 7
  · exact .inl h7
  · right
    unfold cutE
    by_cases h6 : k < 6
    · simp [h6, show k < 7 by omega]; exact Nat.mod_lt _ (Nat.two_pow_pos _)
    · obtain rfl : k = 6 := by omega
      simpa using h2
theorem cut_lt (k : Nat) (e : Nat × Nat) (h1 : e.1 < 2 ^ 64) (h2 : e.2 < 2 ^ 64) : (cutE k e).1 < 2 ^ 64 ∧ (cutE k e).2 < 2 ^ 64 := by
  unfold cutE
  refine ⟨?_, ?_⟩
  · show (if k < 7 then 0 else e.1) < 2 ^ 64
    split
    · exact Nat.two_pow_pos _
    · exact h1
  · show (if k < 6 then e.2 % 2 ^ 2 ^ k else e.2) < 2 ^ 64
    split
    · exact Nat.lt_of_le_of_lt (Nat.mod_le _ _) h2
    · exact h2
theorem cut_level (level : Int) : ∃ k : Nat, k < 8 ∧ (wrap64 (level.tmod 8 + 8)).tmod 8 = (k : Int) := by
  have h1 : -8 < level.tmod 8 := by
    have := Int.lt_tmod_of_pos level (show (0 : Int) < 8 by decide); omega
  have h2 : level.tmod 8 < 8 := Int.tmod_lt_of_pos _ (by decide)
  have h3 : wrap64 (level.tmod 8 + 8) = level.tmod 8 + 8 := by unfold wrap64; omega
  rw [h3]
  have h5 : 0 ≤ level.tmod 8 + 8 := by omega
  generalize level.tmod 8 + 8 = n at *
  have h4 : n.tmod 8 = n % 8 := Int.tmod_eq_emod_of_nonneg (by omega)
  rw [h4]
  exact ⟨(n % 8).toNat, by omega, by omega⟩

/-- The cells of a row of elements. -/
theorem row_cells {w : World} {base : Nat} {v : Value} {es : List (Nat × Nat)} (hne : 0 < es.length) (h : w.ownsRow base 24 2 v es.length (flat es)) :
    ∃ g cap, v = .slice (some ⟨g, 0, none⟩) es.length cap ∧ ∀ j, j < es.length * 2 → w.cell? ⟨g, j, none⟩ = (flat es)[j]? := by
  rcases h.2 with ⟨_, h0⟩ | ⟨g, cap, cur, rfl, _⟩
  · omega
  · exact ⟨g, cap, rfl, fun j hj => h.cellAt j hj⟩


/-- The call gives r back, and leaves what lay there as it was. -/
def Ret (f : Nat) (args : Array Value) (r : Value) : Prop := ∀ W, Calls Try.prog f args W fun e w' => e = .returned r ∧ Below W.heap.size W w'
theorem Ret.go {f : Nat} {args : Array Value} {r : Value} (h : Ret f args r) (W : World) : Calls Try.prog f args W fun e w' => e = .returned r ∧ Below W.heap.size W w' := h W

/-- Four elements in memory. -/
structure B4 (W w : World) (p7 p8 p9 p10 xh xl yh yl zh zl ph pl : Nat) : Prop where
  x : El w p7 xh xl
  y : El w p8 yh yl
  z : El w p9 zh zl
  p : El w p10 ph pl
  b : Below W.heap.size W w
theorem B4.below {W w w' : World} {p7 p8 p9 p10 xh xl yh yl zh zl ph pl : Nat} (h : B4 W w p7 p8 p9 p10 xh xl yh yl zh zl ph pl) (hb : Below w.heap.size w w') : B4 W w' p7 p8 p9 p10 xh xl yh yl zh zl ph pl :=
  ⟨h.x.below hb, h.y.below hb, h.z.below hb, h.p.below hb, h.b.trans (hb.mono h.b.size)⟩
theorem B4.drew {W w : World} {p7 p8 p9 p10 xh xl yh yl zh zl ph pl : Nat} (h : B4 W w p7 p8 p9 p10 xh xl yh yl zh zl ph pl) : B4 W w.drew p7 p8 p9 p10 xh xl yh yl zh zl ph pl :=
  ⟨h.x.drew, h.y.drew, h.z.drew, h.p.drew, h.b.drew⟩
theorem B4.facts {W w : World} {p7 p8 p9 p10 xh xl yh yl zh zl ph pl : Nat} (h : B4 W w p7 p8 p9 p10 xh xl yh yl zh zl ph pl) :
    w.cell? ⟨p7, 0, none⟩ = some (.int .u64 (xh : Int)) ∧ w.cell? ⟨p7, 1, none⟩ = some (.int .u64 (xl : Int)) ∧ w.cell? ⟨p8, 0, none⟩ = some (.int .u64 (yh : Int)) ∧ w.cell? ⟨p8, 1, none⟩ = some (.int .u64 (yl : Int)) ∧ w.cell? ⟨p9, 0, none⟩ = some (.int .u64 (zh : Int)) ∧ w.cell? ⟨p9, 1, none⟩ = some (.int .u64 (zl : Int)) ∧ w.cell? ⟨p10, 0, none⟩ = some (.int .u64 (ph : Int)) ∧ w.cell? ⟨p10, 1, none⟩ = some (.int .u64 (pl : Int)) :=
  ⟨h.x.hi, h.x.lo, h.y.hi, h.y.lo, h.z.hi, h.z.lo, h.p.hi, h.p.lo⟩

/-- Two elements in memory. -/
structure B2 (W w : World) (p7 p8 xh xl yh yl : Nat) : Prop where
  x : El w p7 xh xl
  y : El w p8 yh yl
  b : Below W.heap.size W w
theorem B2.below {W w w' : World} {p7 p8 xh xl yh yl : Nat} (h : B2 W w p7 p8 xh xl yh yl) (hb : Below w.heap.size w w') : B2 W w' p7 p8 xh xl yh yl :=
  ⟨h.x.below hb, h.y.below hb, h.b.trans (hb.mono h.b.size)⟩
theorem B2.drew {W w : World} {p7 p8 xh xl yh yl : Nat} (h : B2 W w p7 p8 xh xl yh yl) : B2 W w.drew p7 p8 xh xl yh yl := ⟨h.x.drew, h.y.drew, h.b.drew⟩
theorem B2.alloc {W w : World} {p7 p8 xh xl yh yl : Nat} (h : B2 W w p7 p8 xh xl yh yl) (o : Obj) : B2 W (w.alloc o) p7 p8 xh xl yh yl := ⟨h.x.alloc o, h.y.alloc o, h.b.alloc h.b.size o⟩
theorem B2.facts {W w : World} {p7 p8 xh xl yh yl : Nat} (h : B2 W w p7 p8 xh xl yh yl) :
    w.cell? ⟨p7, 0, none⟩ = some (.int .u64 (xh : Int)) ∧ w.cell? ⟨p7, 1, none⟩ = some (.int .u64 (xl : Int)) ∧ w.cell? ⟨p8, 0, none⟩ = some (.int .u64 (yh : Int)) ∧ w.cell? ⟨p8, 1, none⟩ = some (.int .u64 (yl : Int)) :=
  ⟨h.x.hi, h.x.lo, h.y.hi, h.y.lo⟩



def Els (w : World) : List (Nat × Nat × Nat) → Prop
  | [] => True
  | e :: l => (w.cell? ⟨e.1, 0, none⟩ = some (.int .u64 (e.2.1 : Int)) ∧ w.cell? ⟨e.1, 1, none⟩ = some (.int .u64 (e.2.2 : Int))) ∧ Els w l
theorem Els.below {w w' : World} : ∀ {l : List (Nat × Nat × Nat)}, Els w l → Below w.heap.size w w' → Els w' l
  | [], _, _ => trivial
  | _ :: _, h, hb => ⟨⟨keepc hb h.1.1, keepc hb h.1.2⟩, Els.below h.2 hb⟩
theorem Els.drew {w : World} : ∀ {l : List (Nat × Nat × Nat)}, Els w l → Els w.drew l
  | [], _ => trivial
  | _ :: _, h => ⟨h.1, Els.drew h.2⟩
def Wrs (w : World) : List Nat → Prop
  | [] => True
  | p :: l => (w.cell? ⟨p, 0, none⟩ = some (.int .u64 0) ∧ w.cell? ⟨p, 1, none⟩ = some (.int .u64 0) ∧ w.frozen? ⟨p, 0, none⟩ = false ∧ w.frozen? ⟨p, 1, none⟩ = false) ∧ Wrs w l
theorem Wrs.below {w w' : World} : ∀ {l : List Nat}, Wrs w l → Below w.heap.size w w' → Wrs w' l
  | [], _, _ => trivial
  | _ :: _, h, hb => ⟨⟨keepc hb h.1.1, keepc hb h.1.2.1, keepf hb h.1.1 h.1.2.2.1, keepf hb h.1.2.1 h.1.2.2.2⟩, Wrs.below h.2 hb⟩
theorem Wrs.drew {w : World} : ∀ {l : List Nat}, Wrs w l → Wrs w.drew l
  | [], _ => trivial
  | _ :: _, h => ⟨h.1, Wrs.drew h.2⟩
structure Bl (W w : World) (l : List (Nat × Nat × Nat)) (r : List Nat) : Prop where
  els : Els w l
  wrs : Wrs w r
  b : Below W.heap.size W w
theorem Bl.below {W w w' : World} {l : List (Nat × Nat × Nat)} {r : List Nat} (h : Bl W w l r) (hb : Below w.heap.size w w') : Bl W w' l r := ⟨h.els.below hb, h.wrs.below hb, h.b.trans (hb.mono h.b.size)⟩
theorem Bl.drew {W w : World} {l : List (Nat × Nat × Nat)} {r : List Nat} (h : Bl W w l r) : Bl W w.drew l r := ⟨h.els.drew, h.wrs.drew, h.b.drew⟩
theorem Bl.alloc {W w : World} {l : List (Nat × Nat × Nat)} {r : List Nat} (h : Bl W w l r) (o : Obj) : Bl W (w.alloc o) l r := h.below ((Below.refl _ _).alloc (Nat.le_refl _) o)
/-- One more, just laid. -/
theorem Bl.laid {W w : World} {l : List (Nat × Nat × Nat)} {r : List Nat} (h : Bl W w l r) (a b : Nat) : Bl W (w.alloc (Obj.cells #[.int .u64 (a : Int), .int .u64 (b : Int)] 24)) ((w.heap.size, a, b) :: l) r :=
  ⟨⟨⟨by simp [go_sem], by simp [go_sem]⟩, (h.alloc _).els⟩, (h.alloc _).wrs, (h.alloc _).b⟩
/-- One more that can be written, just laid. -/
theorem Bl.room {W w : World} {l : List (Nat × Nat × Nat)} {r : List Nat} (h : Bl W w l r) : Bl W (w.alloc (Obj.cells #[.int .u64 0, .int .u64 0] 24)) l (w.heap.size :: r) :=
  ⟨(h.alloc _).els, ⟨⟨by simp [go_sem], by simp [go_sem], by simp [go_sem], by simp [go_sem]⟩, (h.alloc _).wrs⟩, (h.alloc _).b⟩
theorem alloc_size (w : World) (o : Obj) : (w.alloc o).heap.size = w.heap.size + 1 := by simp
theorem Bl.start (W : World) : Bl W W [] [] := ⟨trivial, trivial, Below.refl _ _⟩
/-- What is known of the cells, as one fact. -/
theorem Bl.facts {W w : World} {l : List (Nat × Nat × Nat)} {r : List Nat} (h : Bl W w l r) : Els w l ∧ Wrs w r := ⟨h.els, h.wrs⟩
theorem Els.other {w : World} {p : Nat} {u v : Value} : ∀ {l : List (Nat × Nat × Nat)}, Els w l → (∀ e ∈ l, e.1 ≠ p) → Els ((w.setCell ⟨p, 0, none⟩ u).setCell ⟨p, 1, none⟩ v) l
  | [], _, _ => trivial
  | e :: _, h, hn => by
    have h1 := hn e (by simp)
    obtain ⟨⟨h2, h3⟩, h4⟩ := h
    exact ⟨⟨by simp [go_sem, *], by simp [go_sem, *]⟩, Els.other h4 fun e he => hn e (by simp [he])⟩
theorem Wrs.other {w : World} {p : Nat} {u v : Value} : ∀ {l : List Nat}, Wrs w l → (∀ e ∈ l, e ≠ p) → Wrs ((w.setCell ⟨p, 0, none⟩ u).setCell ⟨p, 1, none⟩ v) l
  | [], _, _ => trivial
  | e :: _, h, hn => by
    have h1 := hn e (by simp)
    obtain ⟨⟨h2, h3, h5, h6⟩, h4⟩ := h
    exact ⟨⟨by simp [go_sem, *], by simp [go_sem, *], by simp [go_sem, *], by simp [go_sem, *]⟩, Wrs.other h4 fun e he => hn e (by simp [he])⟩
/-- The first room is written: it is an element. -/
theorem Bl.put {W w : World} {l : List (Nat × Nat × Nat)} {r : List Nat} {p : Nat} (h : Bl W w l (p :: r)) (hp : W.heap.size ≤ p) (hl : ∀ e ∈ l, e.1 ≠ p) (hr : ∀ e ∈ r, e ≠ p) (a b : Nat) :
    Bl W ((w.setCell ⟨p, 0, none⟩ (.int .u64 (a : Int))).setCell ⟨p, 1, none⟩ (.int .u64 (b : Int))) ((p, a, b) :: l) r := by
  have h1 := h.wrs.1
  obtain ⟨h2, h3, h5, h6⟩ := h1
  exact ⟨⟨⟨by simp [go_sem, *], by simp [go_sem, *]⟩, h.els.other hl⟩, Wrs.other h.wrs.2 hr, (h.b.setCell hp _).setCell hp _⟩
/-- A block is none of these. -/
def Nes (b : Nat) : List Nat → Prop
  | [] => True
  | p :: l => (¬ p = b ∧ ¬ b = p) ∧ Nes b l
theorem cell_lt {w : World} {b o : Nat} {v : Value} (h : w.cell? ⟨b, o, none⟩ = some v) : b < w.heap.size := by
  rcases Nat.lt_or_ge b w.heap.size with h1 | h1
  · exact h1
  · simp [World.cell?, Array.getElem?_eq_none h1] at h
theorem Els.nes {w : World} : ∀ {l : List (Nat × Nat × Nat)}, Els w l → Nes w.heap.size (l.map fun e => e.1)
  | [], _ => trivial
  | _ :: _, h => by
    have h1 := cell_lt h.1.1
    exact ⟨⟨Nat.ne_of_lt h1, Nat.ne_of_gt h1⟩, Els.nes h.2⟩
theorem Wrs.nes {w : World} : ∀ {l : List Nat}, Wrs w l → Nes w.heap.size l
  | [], _ => trivial
  | _ :: _, h => by
    have h1 := cell_lt h.1.1
    exact ⟨⟨Nat.ne_of_lt h1, Nat.ne_of_gt h1⟩, Wrs.nes h.2⟩
theorem Bl.nes {W w : World} {l : List (Nat × Nat × Nat)} {r : List Nat} (h : Bl W w l r) : Nes w.heap.size (l.map fun e => e.1) ∧ Nes w.heap.size r := ⟨h.els.nes, h.wrs.nes⟩

namespace Tw
/-- The pair with the bit n alone. -/
def bitp (n : Nat) : Nat × Nat := if n < 64 then (0, 2 ^ n) else (2 ^ (n - 64), 0)
/-- A pair times the generator of level j + 1. -/
def tms (j : Nat) (e : Nat × Nat) : Nat × Nat := if j < 6 then (px (2 ^ 2 ^ j) e.1, px (2 ^ 2 ^ j) e.2) else (e.2 ^^^ px 4294967296 e.1, e.1)
/-- The generator of level j + 1. -/
def gp (j : Nat) : Nat × Nat := if j < 6 then (0, 2 ^ 2 ^ j) else (1, 0)
def pm (a b : Nat × Nat) : Nat × Nat := (pmh a.1 a.2 b.1 b.2, pml a.1 a.2 b.1 b.2)
theorem pm_lt (a b : Nat × Nat) : (pm a b).1 < 2 ^ 64 ∧ (pm a b).2 < 2 ^ 64 := ⟨pmh_lt _ _ _ _, pml_lt _ _ _ _⟩
theorem pm_assoc' (a b c : Nat × Nat) : pm (pm a b) c = pm a (pm b c) := Prod.ext (pm_assoc _ _ _ _ _ _).1 (pm_assoc _ _ _ _ _ _).2
theorem pm_comm' (a b : Nat × Nat) : pm a b = pm b a := Prod.ext (pm_comm _ _ _ _).1 (pm_comm _ _ _ _).2
theorem pm_one' (a : Nat × Nat) (h1 : a.1 < 2 ^ 64) (h2 : a.2 < 2 ^ 64) : pm a (0, 1) = a := Prod.ext (pm_one h1 h2).1 (pm_one h1 h2).2
theorem tms_pm (j : Nat) (e : Nat × Nat) (h1 : e.1 < 2 ^ 64) (h2 : e.2 < 2 ^ 64) : tms j e = pm e (gp j) := by
  unfold tms gp pm
  by_cases h : j < 6
  · rw [if_pos h, if_pos h]
    unfold pmh pml
    simp only [px_zero, Nat.xor_zero]
    rw [px_comm e.1, px_comm e.2]
  · rw [if_neg h, if_neg h]
    unfold pmh pml
    simp only [px_zero, px_one _ h1, px_one _ h2, Nat.zero_xor]
theorem tms_lt (j : Nat) (e : Nat × Nat) (h1 : e.1 < 2 ^ 64) (h2 : e.2 < 2 ^ 64) : (tms j e).1 < 2 ^ 64 ∧ (tms j e).2 < 2 ^ 64 := by
  rw [tms_pm j e h1 h2]; exact pm_lt _ _
theorem tms_bit_low (j m : Nat) (hj : j < 6) (hm : m < 2 ^ j) : px (2 ^ 2 ^ j) (2 ^ m) = 2 ^ (m + 2 ^ j) := by
  have hj' : j = 0 ∨ j = 1 ∨ j = 2 ∨ j = 3 ∨ j = 4 ∨ j = 5 := by omega
  rcases hj' with rfl | rfl | rfl | rfl | rfl | rfl
  · rw [px_lane 1 _ (by decide +kernel)]; revert m; decide +kernel
  · rw [px_lane 2 _ (by decide +kernel)]; revert m; decide +kernel
  · rw [px_lane 3 _ (by decide +kernel)]; revert m; decide +kernel
  · rw [px_lane 4 _ (by decide +kernel)]; revert m; decide +kernel
  · rw [px_lane 5 _ (by decide +kernel)]; revert m; decide +kernel
  · rw [px_lane 6 _ (by decide +kernel)]; revert m; decide +kernel
theorem tms_bit (j m : Nat) (hj : j < 7) (hm : m < 2 ^ j) : tms j (bitp m) = bitp (m + 2 ^ j) := by
  by_cases h : j < 6
  · have h1 : 2 ^ j ≤ 2 ^ 5 := Nat.pow_le_pow_right (by decide) (by omega)
    unfold tms bitp
    rw [if_pos h, if_pos (by omega), if_pos (by omega)]
    simp only
    rw [tms_bit_low j m h hm, px_zero]
  · obtain rfl : j = 6 := by omega
    unfold tms bitp
    rw [if_neg h, if_pos (by omega), if_neg (by omega)]
    simp only [px_zero, Nat.xor_zero]
    rw [show m + 2 ^ 6 - 64 = m by omega]
theorem inner_step (a : Nat × Nat) (n j : Nat) (hj : j < 7) (h : n / 2 ^ j % 2 = 1) : tms j (pm a (bitp (n % 2 ^ j))) = pm a (bitp (n % 2 ^ (j + 1))) := by
  have hl := pm_lt a (bitp (n % 2 ^ j))
  have hb : (bitp (n % 2 ^ j)).1 < 2 ^ 64 ∧ (bitp (n % 2 ^ j)).2 < 2 ^ 64 := by
    have h1 : n % 2 ^ j < 2 ^ j := Nat.mod_lt _ (Nat.two_pow_pos _)
    have h2 : 2 ^ j ≤ 2 ^ 6 := Nat.pow_le_pow_right (by decide) (by omega)
    unfold bitp
    rw [if_pos (by omega)]
    exact ⟨Nat.two_pow_pos 64, Nat.pow_lt_pow_right (by decide) (by omega)⟩
  rw [tms_pm _ _ hl.1 hl.2, pm_assoc', ← tms_pm _ _ hb.1 hb.2, tms_bit j _ hj (Nat.mod_lt _ (Nat.two_pow_pos _)), Nat.pow_succ, Nat.mod_mul, h, Nat.mul_one]
theorem inner_skip (n j : Nat) (h : n / 2 ^ j % 2 = 0) : n % 2 ^ (j + 1) = n % 2 ^ j := by
  rw [Nat.pow_succ, Nat.mod_mul, h, Nat.mul_zero, Nat.add_zero]
/-- The lowest n bits of a pair. -/
def lowp (b : Nat × Nat) (n : Nat) : Nat × Nat := if n ≤ 64 then (0, b.2 % 2 ^ n) else (b.1 % 2 ^ (n - 64), b.2 % 2 ^ 64)
def hasP (b : Nat × Nat) (n : Nat) : Bool := if n < 64 then b.2.testBit n else b.1.testBit (n - 64)
theorem mod_set (x n : Nat) (h : x.testBit n = true) : x % 2 ^ (n + 1) = x % 2 ^ n ^^^ 2 ^ n := by
  apply Nat.eq_of_testBit_eq
  intro i
  rw [Nat.testBit_xor, Nat.testBit_mod_two_pow, Nat.testBit_mod_two_pow, Nat.testBit_two_pow]
  by_cases h1 : n = i
  · subst h1; simp [h]
  · by_cases h2 : i < n
    · simp [h1, h2, Nat.lt_succ_of_lt h2]
    · have h3 : ¬ i < n + 1 := by omega
      simp [h1, h2, h3]
theorem mod_clear (x n : Nat) (h : x.testBit n = false) : x % 2 ^ (n + 1) = x % 2 ^ n := by
  apply Nat.eq_of_testBit_eq
  intro i
  rw [Nat.testBit_mod_two_pow, Nat.testBit_mod_two_pow]
  by_cases h1 : n = i
  · subst h1; simp [h]
  · by_cases h2 : i < n
    · simp [h2, Nat.lt_succ_of_lt h2]
    · have h3 : ¬ i < n + 1 := by omega
      simp [h2, h3]
theorem lowp_set (b : Nat × Nat) (n : Nat) (h : hasP b n = true) : lowp b (n + 1) = ((lowp b n).1 ^^^ (bitp n).1, (lowp b n).2 ^^^ (bitp n).2) := by
  unfold hasP at h
  unfold lowp bitp
  by_cases h1 : n < 64
  · rw [if_pos h1] at h
    rw [if_pos (by omega), if_pos (by omega), if_pos h1]
    simp only [mod_set _ _ h, Nat.zero_xor]
  · rw [if_neg h1] at h
    rw [if_neg (show ¬ n + 1 ≤ 64 by omega), if_neg h1]
    by_cases h2 : n = 64
    · subst h2
      have h3 := mod_set _ _ h
      simp only [Nat.sub_self, Nat.pow_zero, Nat.mod_one, Nat.zero_xor] at h3
      simp only [Nat.le_refl, if_true, Nat.zero_xor, Nat.xor_zero]
      rw [show 64 + 1 - 64 = 0 + 1 by rfl]
      simp only [Nat.sub_self, Nat.pow_zero]
      rw [h3]
    · rw [if_neg (show ¬ n ≤ 64 by omega)]
      simp only [Nat.xor_zero]
      rw [← mod_set _ _ h, show n + 1 - 64 = n - 64 + 1 by omega]
theorem lowp_clear (b : Nat × Nat) (n : Nat) (h : hasP b n = false) : lowp b (n + 1) = lowp b n := by
  unfold hasP at h
  unfold lowp
  by_cases h1 : n < 64
  · rw [if_pos h1] at h
    rw [if_pos (by omega), if_pos (by omega), mod_clear _ _ h]
  · rw [if_neg h1] at h
    rw [if_neg (show ¬ n + 1 ≤ 64 by omega)]
    by_cases h2 : n = 64
    · subst h2
      have h3 := mod_clear _ _ h
      simp only [Nat.sub_self, Nat.pow_zero, Nat.mod_one] at h3
      rw [show 64 + 1 - 64 = 0 + 1 by rfl, h3]
      rfl
    · rw [if_neg (show ¬ n ≤ 64 by omega), show n + 1 - 64 = n - 64 + 1 by omega, mod_clear _ _ h]
theorem lowp_all (b : Nat × Nat) (h1 : b.1 < 2 ^ 64) (h2 : b.2 < 2 ^ 64) : lowp b 128 = b := by
  unfold lowp
  rw [if_neg (by decide)]
  exact Prod.ext (Nat.mod_eq_of_lt h1) (Nat.mod_eq_of_lt h2)
theorem lowp_none (b : Nat × Nat) : lowp b 0 = (0, 0) := by
  unfold lowp
  rw [if_pos (by decide), Nat.pow_zero, Nat.mod_one]
theorem pm_none (a : Nat × Nat) : pm a (0, 0) = (0, 0) := by
  unfold pm pmh pml
  simp only [px_zero, Nat.xor_zero]
theorem pm_set (a b : Nat × Nat) (n : Nat) (h : hasP b n = true) : pm a (lowp b (n + 1)) = ((pm a (lowp b n)).1 ^^^ (pm a (bitp n)).1, (pm a (lowp b n)).2 ^^^ (pm a (bitp n)).2) := by
  rw [lowp_set b n h]
  exact Prod.ext (pm_add _ _ _ _ _ _).1 (pm_add _ _ _ _ _ _).2
end Tw
end Go.Proofs.Ytcejppibcemdeaa
