/- Contracts of tower.Split at any level and of weave.split over the seat's translation. -/
import Derived.Test.YtccaobfhldfamaaWvP
import Derived.Test.YtccaobfhldfamaaRfE
namespace Go.Proofs.Ytccaobfhldfamaa
open Go.RowKit

theorem cell_hp {w w' : World} {b o : Nat} (h : w'.heap[b]? = w.heap[b]?) : w'.cell? ⟨b, o, none⟩ = w.cell? ⟨b, o, none⟩ := by simp [World.cell?, h]
/-- What lies there while an element is parted. -/
structure Qst (W w : World) (b N q : Nat) (F : Nat → Value) (hi lo : Nat × Nat) : Prop where
  d : Below b W w
  kp : ∀ k, k < W.heap.size → k ≠ b → w.heap[k]? = W.heap[k]?
  sz : W.heap.size ≤ w.heap.size
  row : w.rowIs b 44 N F
  a1 : w.cell? ⟨q, 0, none⟩ = some (.int .u64 (hi.1 : Nat))
  a0 : w.cell? ⟨q, 1, none⟩ = some (.int .u64 (hi.2 : Nat))
  e1 : w.cell? ⟨q + 1, 0, none⟩ = some (.int .u64 (lo.1 : Nat))
  e0 : w.cell? ⟨q + 1, 1, none⟩ = some (.int .u64 (lo.2 : Nat))
  n1 : q ≠ b
  n2 : q + 1 ≠ b
theorem Qst.drew {W w : World} {b N q : Nat} {F : Nat → Value} {hi lo : Nat × Nat} (h : Qst W w b N q F hi lo) : Qst W w.drew b N q F hi lo := ⟨h.d.drew, h.kp, h.sz, h.row, h.a1, h.a0, h.e1, h.e0, h.n1, h.n2⟩
theorem Qst.facts {W w : World} {b N q : Nat} {F : Nat → Value} {hi lo : Nat × Nat} (h : Qst W w b N q F hi lo) : w.cell? ⟨q, 0, none⟩ = some (.int .u64 (hi.1 : Nat)) ∧ w.cell? ⟨q, 1, none⟩ = some (.int .u64 (hi.2 : Nat)) ∧ w.cell? ⟨q + 1, 0, none⟩ = some (.int .u64 (lo.1 : Nat)) ∧ w.cell? ⟨q + 1, 1, none⟩ = some (.int .u64 (lo.2 : Nat)) := ⟨h.a1, h.a0, h.e1, h.e0⟩
theorem Qst.step {W w w' : World} {b N q : Nat} {F F' : Nat → Value} {hi lo : Nat × Nat} (h : Qst W w b N q F hi lo) (hR : w'.rowIs b 44 N F') (hb : Below b w w') (hk : ∀ k, k < w.heap.size → k ≠ b → w'.heap[k]? = w.heap[k]?) : Qst W w' b N q F' hi lo :=
  ⟨h.d.trans hb, fun k k1 k2 => (hk k (Nat.lt_of_lt_of_le k1 h.sz) k2).trans (h.kp k k1 k2), Nat.le_trans h.sz hb.size, hR, (cell_hp (hk q (cell_lt h.a1) h.n1)).trans h.a1, (cell_hp (hk q (cell_lt h.a1) h.n1)).trans h.a0, (cell_hp (hk (q + 1) (cell_lt h.e1) h.n2)).trans h.e1, (cell_hp (hk (q + 1) (cell_lt h.e1) h.n2)).trans h.e0, h.n1, h.n2⟩
theorem gcell_append (a c : List (Nat × Nat)) (i : Nat) : gcell (a ++ c) i = if i < a.length * 2 then gcell a i else gcell c (i - a.length * 2) := by
  unfold gcell
  by_cases h : i < a.length * 2
  · rw [if_pos h, getD_append_left _ _ _ _ (by omega)]
  · rw [if_neg h, getD_append_right _ _ _ _ (by omega), show (i - a.length * 2) % 2 = i % 2 by omega, show (i - a.length * 2) / 2 = i / 2 - a.length by omega]
end Go.Proofs.Ytccaobfhldfamaa

/- The contract of weave.Scatter over the seat's translation, where nothing hinders it. -/
namespace Go.Proofs.Ytccaobfhldfamaa
open Go.RowKit

/-- All elements, parted. -/
def scat (d k : Nat) (es : List (Nat × Nat)) : List (Nat × Nat) := es.flatMap (sp d k)
theorem scat_len (d k : Nat) (es : List (Nat × Nat)) : (scat d k es).length = es.length * 2 ^ d := by
  induction es with
  | nil => simp [scat]
  | cons e l ih => simp only [scat, List.flatMap_cons, List.length_append] at *; rw [ih, sp_len, List.length_cons, Nat.add_mul, Nat.one_mul, Nat.add_comm]
theorem scat_snoc (d k : Nat) (es : List (Nat × Nat)) (x : Nat × Nat) : scat d k (es ++ [x]) = scat d k es ++ sp d k x := by simp [scat]
theorem scat_at (d k : Nat) : ∀ (es : List (Nat × Nat)) (i j : Nat), i < es.length → j < 2 ^ d → (scat d k es).getD (i * 2 ^ d + j) (0, 0) = (sp d k (es.getD i (0, 0))).getD j (0, 0)
  | [], i, _, hi, _ => by simp at hi
  | e :: l, 0, j, _, hj => by
    show (sp d k e ++ scat d k l).getD _ _ = _
    rw [Nat.zero_mul, Nat.zero_add, getD_append_left _ _ _ _ (by rw [sp_len]; exact hj)]; rfl
  | e :: l, i + 1, j, hi, hj => by
    show (sp d k e ++ scat d k l).getD _ _ = _
    rw [getD_append_right _ _ _ _ (by rw [sp_len, Nat.add_mul]; omega), sp_len, show (i + 1) * 2 ^ d + j - 2 ^ d = i * 2 ^ d + j by rw [Nat.add_mul]; omega, scat_at d k l i j (by simpa using hi) hj]
    rfl
theorem gcell_scat (d k : Nat) (es : List (Nat × Nat)) (j r : Nat) (hj : j < es.length) (hr : r < 2 ^ d * 2) (i : Nat) (hi : i = j * 2 ^ d * 2 + r) : gcell (scat d k es) i = gcell (sp d k (es.getD j (0, 0))) r := by
  unfold gcell
  have e : i / 2 = j * 2 ^ d + r / 2 := by rw [hi]; omega
  rw [e, scat_at d k es j (r / 2) hj (by omega), show i % 2 = r % 2 by rw [hi]; omega]
end Go.Proofs.Ytccaobfhldfamaa

/- Contracts of the errors of weave.Gather and weave.Scatter, of steepleref09.bits, of steepleref06.All and of the errors of steepleref09.Gather and steepleref09.Scatter over the seat's translation. -/
namespace Go.Proofs.Ytccaobfhldfamaa
open Go.RowKit

set_option maxHeartbeats 400000 in
theorem gather_field (f t d each : Nat) (hd : f + d = t) (ht : t < 8) (he : each = 2 ^ d) (a : Option Addr) (cap : Nat) (es : List (Nat × Nat)) (hl : es.length ≤ 100000) (hn : es.length % each = 0) (hes : ltE es) (ho : (es.all fun e => ofB (f : Int) (e.1 : Int) (e.2 : Int)) = false) (W : World) (hr : ERow W a es) :
    Calls Try.prog 13 #[.int .i64 (f : Int), .int .i64 (t : Int), .slice a es.length cap] W fun e w' => e = .returned (.tuple #[.slice none 0 0, .int .i64 5]) ∧ Below W.heap.size W w' := by
  have HU : Hid (Ret 23 #[.int .i64 (f : Int), .int .i64 (t : Int)] (.bool true)) := isUp_ok _ _ (by omega) (by omega) (by omega)
  have HA : Hid (∀ w, Below W.heap.size W w → Calls Try.prog 18 #[.int .i64 (f : Int), .slice a es.length cap] w fun e w' => e = .returned (.bool false) ∧ Below w.heap.size w w') := fun w hb => by
    have := wall_any (f : Int) a cap es hes w (hr.below hb) (by omega)
    rw [ho] at this
    exact this
  have hep : 0 < each := by rw [he]; exact Nat.two_pow_pos d
  have h1 : IntKind.i64.wrap ((t : Int) - f) = (d : Int) := by rw [IntKind.wrap_i64]; omega
  have h2 : IntKind.i64.wrap (2 ^ d) = (each : Int) := by
    have h1 : 2 ^ d < 2 ^ 8 := Nat.pow_lt_pow_right (by decide) (by omega)
    rw [IntKind.wrap_i64, show (2 : Int) ^ d = ((2 ^ d : Nat) : Int) by simp, he]
    generalize 2 ^ d = p at *
    omega
  have h3 : (es.length : Int).tmod (each : Int) = 0 := by rw [Int.tmod_eq_emod_of_nonneg (by omega)]; exact_mod_cast hn
  have h5 : ¬ (each : Int) = 0 := by omega
  have h6 : (0 : Int) ≤ (d : Int) := by omega
  have h7 : (d : Int) < 64 := by omega
  clear hr ho hes he hd hn
  go_enter Try.func13, Try.ntmps13
  go_wp2_with (first | (go_at_call 23; refine (HU.out.go _).mono ?_; rintro e w1 ⟨rfl, hb1⟩) | (go_at_call 18; refine (HA.out _ hb1).mono ?_; rintro e w2 ⟨rfl, hb2⟩))
  refine bodyPost_ret (v := .tuple #[.slice none 0 0, .int .i64 5]) (by simp [results, Try.results13, go_sem]) rfl ⟨rfl, ?_⟩
  exact hb1.trans (hb2.mono hb1.size)
set_option maxHeartbeats 2000000 in
/-- The document's side: are all elements of a level? -/
theorem rall_any (l : Int) (a : Option Addr) (cap : Nat) (es : List (Nat × Nat)) (hes : ltE es) (W : World) (hr : ERow W a es) (h10 : es.length ≤ 100000) :
    Calls Try.prog 21 #[.int .i64 l, .slice a es.length cap] W fun e w' => e = .returned (.bool (es.all fun e => ofB l (e.1 : Int) (e.2 : Int))) ∧ Below W.heap.size W w' := by
  have HR : Hid (ERow W a es) := hr
  have HO : Hid (∀ j : Nat, Ret 29 #[.int .i64 l, .agg #[.int .u64 ((es.getD j (0, 0)).1 : Int), .int .u64 ((es.getD j (0, 0)).2 : Int)]] (.bool (ofB l ((es.getD j (0, 0)).1 : Int) ((es.getD j (0, 0)).2 : Int)))) := fun j => rof_any l _ _ (hes.at j).1 (hes.at j).2
  clear hr hes
  go_enter Try.func21, Try.ntmps21
  go_wp2_with fail
  go_loopw [5] (fun u wr => ∃ j : Nat, j ≤ es.length ∧ u = .int .i64 j ∧ Hid ((es.take j).all (fun e => ofB l (e.1 : Int) (e.2 : Int)) = true) ∧ Below W.heap.size W wr) (fun u _ => es.length - (intOf u).toNat)
  case atStart => exact ⟨0, Nat.zero_le _, rfl, (by rfl), Below.refl _ _⟩
  case round =>
    obtain ⟨j, hj, rfl, HT, hD⟩ := hrel
    by_cases hlt : j < es.length
    · obtain ⟨b, off, rfl, hb, c1, c0⟩ := HR.out.cells j hlt
      have d1 : wr.cell? ⟨b, off + j * 2, none⟩ = some (.int .u64 ((es.getD j (0, 0)).1 : Nat)) := by rw [hD.cell (p := ⟨b, off + j * 2, none⟩) hb]; exact c1
      have d0 : wr.cell? ⟨b, off + j * 2 + 1, none⟩ = some (.int .u64 ((es.getD j (0, 0)).2 : Nat)) := by rw [hD.cell (p := ⟨b, off + j * 2 + 1, none⟩) hb]; exact c0
      have H1 := HO.out j
      have HD : Hid (Below W.heap.size W wr) := hD
      have HS : Hid (es.take (j + 1) = es.take j ++ [es.getD j (0, 0)]) := take_sn es j hlt
      have HM : Hid (es.getD j (0, 0) ∈ es) := by show _ ∈ _; rw [show es.getD j (0, 0) = es[j] by simp [hlt]]; exact List.getElem_mem hlt
      clear hD c1 c0 HR HO
      generalize es.getD j (0, 0) = x at *
      rcases hB : ofB l (x.1 : Int) (x.2 : Int) with _ | _
      · rw [hB] at H1
        go_wp2_with fail
        refine (H1.go _).mono ?_
        rintro e w4 ⟨rfl, hb4⟩
        have HD4 : Hid (Below W.heap.size W w4) := HD.out.trans (hb4.mono HD.out.size)
        clear hb4 d1 d0 HD
        go_wp2
        go_ret
        refine ⟨?_, HD4.out⟩
        rw [show (es.all fun e => ofB l (e.1 : Int) (e.2 : Int)) = false from by
          rw [List.all_eq_false]; exact ⟨x, HM.out, by rw [hB]; decide⟩]
        rfl
      · rw [hB] at H1
        go_wp2_with fail
        refine (H1.go _).mono ?_
        rintro e w4 ⟨rfl, hb4⟩
        have HD4 : Hid (Below W.heap.size W w4) := HD.out.trans (hb4.mono HD.out.size)
        clear hb4 d1 d0 HD
        go_wp2
        exact ⟨⟨j + 1, hlt, by simp, (by show _ = _; rw [HS.out, List.all_append, HT.out]; simp [hB]), HD4.out⟩, by simp [intOf]; omega⟩
    · have HD : Hid (Below W.heap.size W wr) := hD
      obtain rfl : j = es.length := by omega
      clear hD
      go_wp2
      go_ret
      refine ⟨?_, HD.out⟩
      have := HT.out
      rw [List.take_of_length_le (Nat.le_refl _)] at this
      rw [this]
      rfl
end Go.Proofs.Ytccaobfhldfamaa
