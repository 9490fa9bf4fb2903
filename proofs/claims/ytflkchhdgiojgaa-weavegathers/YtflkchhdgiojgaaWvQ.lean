/- Contracts of tower.Split at any level and of weave.split over the seat's translation. -/
import Derived.Test.YtflkchhdgiojgaaWvP
namespace Go.Proofs.Ytflkchhdgiojgaa
open Go.RowKit

theorem split_ret (k : Nat) (h1 : 1 ≤ k) (hk : k < 8) (x : Nat × Nat) (hx : x.1 < 2 ^ 64 ∧ x.2 < 2 ^ 64) (o : ofB (k : Int) (x.1 : Int) (x.2 : Int) = true) :
    Ret 49 #[.int .i64 (k : Int), .agg #[.int .u64 (x.1 : Int), .int .u64 (x.2 : Int)]] (.tuple #[.agg #[.int .u64 ((hf k x).1 : Nat), .int .u64 ((hf k x).2 : Nat)], .agg #[.int .u64 ((lf k x).1 : Nat), .int .u64 ((lf k x).2 : Nat)]]) := by
  have OX := of_ret (k : Int) x.1 x.2 hx.2
  rw [o] at OX
  obtain rfl | rfl | rfl | rfl | rfl | rfl | rfl : k = 1 ∨ k = 2 ∨ k = 3 ∨ k = 4 ∨ k = 5 ∨ k = 6 ∨ k = 7 := by omega
  · exact split1 x.1 x.2 (x.2 / 2) (x.2 % 2) OX (by show (x.2 : Int) / ((2 : Nat) : Int) = _; rw [div_int]) (mask_nat 0 x.2 1 rfl (by decide) hx.2)
  · exact split2 x.1 x.2 (x.2 / 4) (x.2 % 4) OX (by show (x.2 : Int) / ((4 : Nat) : Int) = _; rw [div_int]) (mask_nat 1 x.2 3 rfl (by decide) hx.2)
  · exact split3 x.1 x.2 (x.2 / 16) (x.2 % 16) OX (by show (x.2 : Int) / ((16 : Nat) : Int) = _; rw [div_int]) (mask_nat 2 x.2 15 rfl (by decide) hx.2)
  · exact split4 x.1 x.2 (x.2 / 256) (x.2 % 256) OX (by show (x.2 : Int) / ((256 : Nat) : Int) = _; rw [div_int]) (mask_nat 3 x.2 255 rfl (by decide) hx.2)
  · exact split5 x.1 x.2 (x.2 / 65536) (x.2 % 65536) OX (by show (x.2 : Int) / ((65536 : Nat) : Int) = _; rw [div_int]) (mask_nat 4 x.2 65535 rfl (by decide) hx.2)
  · exact split6 x.1 x.2 (x.2 / 4294967296) (x.2 % 4294967296) OX (by show (x.2 : Int) / ((4294967296 : Nat) : Int) = _; rw [div_int]) (mask_nat 5 x.2 4294967295 rfl (by decide) hx.2)
  · exact split7 x.1 x.2 OX
set_option maxHeartbeats 1000000 in
theorem wsplit_one (l : Int) (x : Nat × Nat) (b off cap N : Nat) (F : Nat → Value) (W : World) (hR : W.rowIs b 54 N F) (hN : off + 2 ≤ N) :
    Calls Try.prog 41 #[.int .i64 l, .agg #[.int .u64 (x.1 : Nat), .int .u64 (x.2 : Nat)], .slice (some ⟨b, off, none⟩) 1 cap] W fun e w' => e = .returned (.tuple #[]) ∧ w'.rowIs b 54 N (fun i => if off ≤ i ∧ i < off + 2 then gcell [x] (i - off) else F i) ∧ Below b W w' ∧ ∀ k, k < W.heap.size → k ≠ b → w'.heap[k]? = W.heap[k]? := by
  have HR : Hid (W.rowIs b 54 N F) := hR
  have hb : b < W.heap.size := hR.lt
  have hne : ¬ W.heap.size = b := by omega
  have c1 := HR.out.cell (i := off) (by omega)
  have c0 := HR.out.cell (i := off + 1) (by omega)
  have z1 := HR.out.frozen off
  have z0 := HR.out.frozen (off + 1)
  clear hR
  go_enter Try.func41, Try.ntmps41
  go_wp2_with fail
  refine bodyPost_ret (results_none rfl _ _ _) rfl ⟨rfl, ?_, ?_, ?_⟩
  · refine (((HR.out.set off _).set (off + 1) _).of_block (((Below.refl _ _).alloc (Nat.le_refl _) _).block b (by simpa using hb))).congr fun i _ => ?_
    show (if i = off + 1 then _ else if i = off then _ else F i) = _
    by_cases h1 : i = off + 1
    · rw [if_pos h1, if_pos (by omega), show i - off = 1 by omega]; rfl
    · rw [if_neg h1]
      by_cases h2 : i = off
      · rw [if_pos h2, if_pos (by omega), show i - off = 0 by omega]; rfl
      · rw [if_neg h2, if_neg (by omega)]
  · exact (((Below.refl b W).setCell (Nat.le_refl _) _).setCell (Nat.le_refl _) _).alloc (by simp; omega) _
  · intro k hk hn
    exact (((Below.refl _ _).alloc (Nat.le_refl _) _).block k (by simpa using hk)).trans (by simp [World.setCell, Array.getElem?_modify, Ne.symm hn])
theorem cell_hp {w w' : World} {b o : Nat} (h : w'.heap[b]? = w.heap[b]?) : w'.cell? ⟨b, o, none⟩ = w.cell? ⟨b, o, none⟩ := by simp [World.cell?, h]
/-- What lies there while an element is parted. -/
structure Qst (W w : World) (b N q : Nat) (F : Nat → Value) (hi lo : Nat × Nat) : Prop where
  d : Below b W w
  kp : ∀ k, k < W.heap.size → k ≠ b → w.heap[k]? = W.heap[k]?
  sz : W.heap.size ≤ w.heap.size
  row : w.rowIs b 54 N F
  a1 : w.cell? ⟨q, 0, none⟩ = some (.int .u64 (hi.1 : Nat))
  a0 : w.cell? ⟨q, 1, none⟩ = some (.int .u64 (hi.2 : Nat))
  e1 : w.cell? ⟨q + 1, 0, none⟩ = some (.int .u64 (lo.1 : Nat))
  e0 : w.cell? ⟨q + 1, 1, none⟩ = some (.int .u64 (lo.2 : Nat))
  n1 : q ≠ b
  n2 : q + 1 ≠ b
theorem Qst.drew {W w : World} {b N q : Nat} {F : Nat → Value} {hi lo : Nat × Nat} (h : Qst W w b N q F hi lo) : Qst W w.drew b N q F hi lo := ⟨h.d.drew, h.kp, h.sz, h.row, h.a1, h.a0, h.e1, h.e0, h.n1, h.n2⟩
theorem Qst.facts {W w : World} {b N q : Nat} {F : Nat → Value} {hi lo : Nat × Nat} (h : Qst W w b N q F hi lo) : w.cell? ⟨q, 0, none⟩ = some (.int .u64 (hi.1 : Nat)) ∧ w.cell? ⟨q, 1, none⟩ = some (.int .u64 (hi.2 : Nat)) ∧ w.cell? ⟨q + 1, 0, none⟩ = some (.int .u64 (lo.1 : Nat)) ∧ w.cell? ⟨q + 1, 1, none⟩ = some (.int .u64 (lo.2 : Nat)) := ⟨h.a1, h.a0, h.e1, h.e0⟩
theorem Qst.step {W w w' : World} {b N q : Nat} {F F' : Nat → Value} {hi lo : Nat × Nat} (h : Qst W w b N q F hi lo) (hR : w'.rowIs b 54 N F') (hb : Below b w w') (hk : ∀ k, k < w.heap.size → k ≠ b → w'.heap[k]? = w.heap[k]?) : Qst W w' b N q F' hi lo :=
  ⟨h.d.trans hb, fun k k1 k2 => (hk k (Nat.lt_of_lt_of_le k1 h.sz) k2).trans (h.kp k k1 k2), Nat.le_trans h.sz hb.size, hR, (cell_hp (hk q (cell_lt h.a1) h.n1)).trans h.a1, (cell_hp (hk q (cell_lt h.a1) h.n1)).trans h.a0, (cell_hp (hk (q + 1) (cell_lt h.e1) h.n2)).trans h.e1, (cell_hp (hk (q + 1) (cell_lt h.e1) h.n2)).trans h.e0, h.n1, h.n2⟩
set_option maxHeartbeats 2000000 in
theorem wsplit_step (l l1 : Int) (x hi lo : Nat × Nat) (b off cap n h N : Nat) (F G1 G2 : Nat → Value) (hn : n = h + h) (h0 : 0 < h) (hm : n ≤ 1000) (hc : n ≤ cap) (hw : IntKind.i64.wrap (l - 1) = l1) (W : World) (hR : W.rowIs b 54 N F)
    (HS : Hid (Ret 49 #[.int .i64 l, .agg #[.int .u64 (x.1 : Nat), .int .u64 (x.2 : Nat)]] (.tuple #[.agg #[.int .u64 (hi.1 : Nat), .int .u64 (hi.2 : Nat)], .agg #[.int .u64 (lo.1 : Nat), .int .u64 (lo.2 : Nat)]])))
    (HL : Hid (∀ w F, w.rowIs b 54 N F → Calls Try.prog 41 #[.int .i64 l1, .agg #[.int .u64 (lo.1 : Nat), .int .u64 (lo.2 : Nat)], .slice (some ⟨b, off, none⟩) h cap] w fun e w' => e = .returned (.tuple #[]) ∧ w'.rowIs b 54 N (fun i => if off ≤ i ∧ i < off + h * 2 then G1 i else F i) ∧ Below b w w' ∧ ∀ k, k < w.heap.size → k ≠ b → w'.heap[k]? = w.heap[k]?))
    (HH : Hid (∀ w F, w.rowIs b 54 N F → Calls Try.prog 41 #[.int .i64 l1, .agg #[.int .u64 (hi.1 : Nat), .int .u64 (hi.2 : Nat)], .slice (some ⟨b, off + h * 2, none⟩) h (cap - h)] w fun e w' => e = .returned (.tuple #[]) ∧ w'.rowIs b 54 N (fun i => if off + h * 2 ≤ i ∧ i < off + h * 2 + h * 2 then G2 i else F i) ∧ Below b w w' ∧ ∀ k, k < w.heap.size → k ≠ b → w'.heap[k]? = w.heap[k]?)) :
    Calls Try.prog 41 #[.int .i64 l, .agg #[.int .u64 (x.1 : Nat), .int .u64 (x.2 : Nat)], .slice (some ⟨b, off, none⟩) n cap] W fun e w' => e = .returned (.tuple #[]) ∧ w'.rowIs b 54 N (fun i => if off ≤ i ∧ i < off + n * 2 then (if i < off + h * 2 then G1 i else G2 i) else F i) ∧ Below b W w' ∧ ∀ k, k < W.heap.size → k ≠ b → w'.heap[k]? = W.heap[k]? := by
  have HR : Hid (W.rowIs b 54 N F) := hR
  have hb : b < W.heap.size := hR.lt
  have hne : ¬ (n : Int) = 1 := by omega
  have hne' : ¬ n = 1 := by omega
  have hq : (n : Int).tdiv 2 = (h : Int) := by rw [hn, Int.tdiv_eq_ediv_of_nonneg (by omega)]; omega
  have i1 : (0 : Int) ≤ (h : Int) := by omega
  have i2 : (h : Int) ≤ (n : Int) := by omega
  have i3 : (n : Int) ≤ (cap : Int) := by omega
  have i4 : (h : Int) ≤ (cap : Int) := by omega
  have i5 : n - h = h := by omega
  have i6 : ¬ cap = h := by omega
  have i7 : ¬ cap = 0 := by omega
  have HN : Hid (n = h + h) := hn
  clear hn hR
  go_enter Try.func41, Try.ntmps41
  go_wp2_with fail
  have A : Below W.heap.size W (W.alloc (Obj.cells #[.int .u64 (x.1 : Int), .int .u64 (x.2 : Int)] 54)) := (Below.refl _ _).alloc (Nat.le_refl _) _
  refine (HS.out.go _).mono ?_
  rintro e w1 ⟨rfl, hb1⟩
  have D1 : Below W.heap.size W w1 := A.trans (hb1.mono A.size)
  have KD : Hid (Below W.heap.size W w1) := D1
  have R1 : Hid (w1.rowIs b 54 N F) := HR.out.of_block (D1.block b hb)
  clear hb1 A D1 HR
  go_wp2_with fail
  have A2 : Below w1.heap.size w1 ((w1.alloc (Obj.cells #[.int .u64 (hi.1 : Int), .int .u64 (hi.2 : Int)] 54)).alloc (Obj.cells #[.int .u64 (lo.1 : Int), .int .u64 (lo.2 : Int)] 54)) := ((Below.refl _ _).alloc (Nat.le_refl _) _).alloc (by simp) _
  have D2 := KD.out.trans (A2.mono KD.out.size)
  have hb1 : b < w1.heap.size := R1.out.lt
  have K : Qst W ((w1.alloc (Obj.cells #[.int .u64 (hi.1 : Int), .int .u64 (hi.2 : Int)] 54)).alloc (Obj.cells #[.int .u64 (lo.1 : Int), .int .u64 (lo.2 : Int)] 54)) b N w1.heap.size F hi lo := ⟨D2.mono (Nat.le_of_lt hb), fun k hk _ => D2.block k hk, D2.size, R1.out.of_block (A2.block b hb1), by simp [go_sem], by simp [go_sem], by simp [go_sem], by simp [go_sem], by omega, by omega⟩
  have FF := K.facts
  clear A2 D2 R1 KD
  generalize (w1.alloc (Obj.cells #[.int .u64 (hi.1 : Int), .int .u64 (hi.2 : Int)] 54)).alloc (Obj.cells #[.int .u64 (lo.1 : Int), .int .u64 (lo.2 : Int)] 54) = w2 at *
  generalize w1.heap.size = q at *
  go_region_held3 (fun w => w.cell? ⟨q, 0, none⟩ = some (.int .u64 (hi.1 : Nat)) ∧ w.cell? ⟨q, 1, none⟩ = some (.int .u64 (hi.2 : Nat)) ∧ w.cell? ⟨q + 1, 0, none⟩ = some (.int .u64 (lo.1 : Nat)) ∧ w.cell? ⟨q + 1, 1, none⟩ = some (.int .u64 (lo.2 : Nat))) (go_keep) (first | (go_at_call 41; refine (HL.out _ _ (by first | exact K.row | exact K.drew.row)).mono ?_; rintro e w' ⟨rfl, hR', hb', hk'⟩; have K' := Qst.step (by first | exact K | exact K.drew) hR' hb' hk'; clear FF K hR' hb' hk'; have K := K'; clear K'; have FF := K.facts))
  go_wp2_with fail
  go_region_held3 (fun w => w.cell? ⟨q, 0, none⟩ = some (.int .u64 (hi.1 : Nat)) ∧ w.cell? ⟨q, 1, none⟩ = some (.int .u64 (hi.2 : Nat)) ∧ w.cell? ⟨q + 1, 0, none⟩ = some (.int .u64 (lo.1 : Nat)) ∧ w.cell? ⟨q + 1, 1, none⟩ = some (.int .u64 (lo.2 : Nat))) (go_keep) (first | (go_at_call 41; refine (HH.out _ _ (by first | exact K.row | exact K.drew.row)).mono ?_; rintro e w' ⟨rfl, hR', hb', hk'⟩; have K' := Qst.step (by first | exact K | exact K.drew) hR' hb' hk'; clear FF K hR' hb' hk'; have K := K'; clear K'; have FF := K.facts))
  go_wp2
  go_end0
  refine ⟨rfl, K.row.congr fun i _ => ?_, K.d, K.kp⟩
  have hN := HN.out
  show (if off + h * 2 ≤ i ∧ i < off + h * 2 + h * 2 then G2 i else if off ≤ i ∧ i < off + h * 2 then G1 i else F i) = _
  by_cases h1 : off ≤ i ∧ i < off + n * 2
  · rw [if_pos h1]
    by_cases h2 : i < off + h * 2
    · rw [if_neg (by omega), if_pos (by omega), if_pos h2]
    · rw [if_pos (by omega), if_neg h2]
  · rw [if_neg (by omega), if_neg (by omega), if_neg h1]
theorem gcell_append (a c : List (Nat × Nat)) (i : Nat) : gcell (a ++ c) i = if i < a.length * 2 then gcell a i else gcell c (i - a.length * 2) := by
  unfold gcell
  by_cases h : i < a.length * 2
  · rw [if_pos h, getD_append_left _ _ _ _ (by omega)]
  · rw [if_neg h, getD_append_right _ _ _ _ (by omega), show (i - a.length * 2) % 2 = i % 2 by omega, show (i - a.length * 2) / 2 = i / 2 - a.length by omega]
/-- An element parted into a row of one's own. -/
theorem wsplit_any : ∀ (d k : Nat) (x : Nat × Nat), d ≤ k → k < 8 → x.1 < 2 ^ 64 ∧ x.2 < 2 ^ 64 → ofB (k : Int) (x.1 : Int) (x.2 : Int) = true → ∀ (b off cap N : Nat), off + 2 ^ d * 2 ≤ N → 2 ^ d ≤ cap → ∀ (W : World) (F : Nat → Value), W.rowIs b 54 N F →
    Calls Try.prog 41 #[.int .i64 (k : Int), .agg #[.int .u64 (x.1 : Nat), .int .u64 (x.2 : Nat)], .slice (some ⟨b, off, none⟩) (2 ^ d) cap] W fun e w' => e = .returned (.tuple #[]) ∧ w'.rowIs b 54 N (fun i => if off ≤ i ∧ i < off + 2 ^ d * 2 then gcell (sp d k x) (i - off) else F i) ∧ Below b W w' ∧ ∀ j, j < W.heap.size → j ≠ b → w'.heap[j]? = W.heap[j]? := by
  intro d
  induction d with
  | zero => intro k x _ _ _ _ b off cap N hN _ W F hR; exact wsplit_one (k : Int) x b off cap N F W hR hN
  | succ d ih =>
    intro k x hd hk hx o b off cap N hN hc W F hR
    have hp : 2 ^ (d + 1) = 2 ^ d + 2 ^ d := by rw [Nat.pow_succ]; omega
    have h7 : 2 ^ (d + 1) ≤ 2 ^ 7 := Nat.pow_le_pow_right (by decide) (by omega)
    have hP : 0 < 2 ^ d := Nat.two_pow_pos d
    have hof := half_of k (by omega) hk x hx o
    have hl := half_lt k hk x hx
    have hw : IntKind.i64.wrap ((k : Int) - 1) = ((k - 1 : Nat) : Int) := by rw [IntKind.wrap_i64]; omega
    refine (wsplit_step (k : Int) ((k - 1 : Nat) : Int) x (hf k x) (lf k x) b off cap (2 ^ (d + 1)) (2 ^ d) N F (fun i => gcell (sp d (k - 1) (lf k x)) (i - off)) (fun i => gcell (sp d (k - 1) (hf k x)) (i - (off + 2 ^ d * 2))) hp hP (by omega) hc hw W hR (split_ret k (by omega) hk x hx o)
      (fun w F' h => ih (k - 1) _ (by omega) (by omega) hl.1 hof.1 b off cap N (by omega) (by omega) w F' h) (fun w F' h => ih (k - 1) _ (by omega) (by omega) hl.2 hof.2 b (off + 2 ^ d * 2) (cap - 2 ^ d) N (by omega) (by omega) w F' h)).mono ?_
    rintro e w' ⟨rfl, h1, h2, h3⟩
    refine ⟨rfl, h1.congr fun i _ => ?_, h2, h3⟩
    have e : sp (d + 1) k x = sp d (k - 1) (lf k x) ++ sp d (k - 1) (hf k x) := rfl
    show (if off ≤ i ∧ i < off + 2 ^ (d + 1) * 2 then if i < off + 2 ^ d * 2 then gcell (sp d (k - 1) (lf k x)) (i - off) else gcell (sp d (k - 1) (hf k x)) (i - (off + 2 ^ d * 2)) else F i) = _
    by_cases g1 : off ≤ i ∧ i < off + 2 ^ (d + 1) * 2
    · rw [if_pos g1, if_pos g1, e, gcell_append, sp_len]
      by_cases g2 : i < off + 2 ^ d * 2
      · rw [if_pos g2, if_pos (by omega)]
      · rw [if_neg g2, if_neg (by omega), show i - off - 2 ^ d * 2 = i - (off + 2 ^ d * 2) by omega]
    · rw [if_neg g1, if_neg g1]
end Go.Proofs.Ytflkchhdgiojgaa
