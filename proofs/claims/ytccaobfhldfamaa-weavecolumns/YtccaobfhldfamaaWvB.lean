/- Contracts of tower.Join at any level, weave.joined of any parts and weave.allOf over the seat's translation. -/
import Derived.Test.YtccaobfhldfamaaPWvA
import Derived.Test.YtccaobfhldfamaaPTwX
namespace Go.Proofs.Ytccaobfhldfamaa
open Go.RowKit

theorem join_ret (k : Nat) (h1 : 1 ≤ k) (hk : k < 8) (x y : Nat × Nat) (hx : x.1 < 2 ^ 64 ∧ x.2 < 2 ^ 64) (hy : y.1 < 2 ^ 64 ∧ y.2 < 2 ^ 64) (ox : ofB ((k - 1 : Nat) : Int) (x.1 : Int) (x.2 : Int) = true) (oy : ofB ((k - 1 : Nat) : Int) (y.1 : Int) (y.2 : Int) = true) :
    Ret 32 #[.int .i64 (k : Int), .agg #[.int .u64 (x.1 : Int), .int .u64 (x.2 : Int)], .agg #[.int .u64 (y.1 : Int), .int .u64 (y.2 : Int)]] (.agg #[.int .u64 ((jn k x y).1 : Nat), .int .u64 ((jn k x y).2 : Nat)]) := by
  have OX := of_ret ((k - 1 : Nat) : Int) x.1 x.2 hx.2
  have OY := of_ret ((k - 1 : Nat) : Int) y.1 y.2 hy.2
  rw [ox] at OX
  rw [oy] at OY
  rw [ofB_iff _ _ _ (by omega)] at ox oy
  obtain rfl | rfl | rfl | rfl | rfl | rfl | rfl : k = 1 ∨ k = 2 ∨ k = 3 ∨ k = 4 ∨ k = 5 ∨ k = 6 ∨ k = 7 := by omega
  · have ox := ox.resolve_left (by decide)
    have oy := oy.resolve_left (by decide)
    have e1 : x.2 < 2 := ox.2
    have e2 : y.2 < 2 := oy.2
    exact join1 x.1 x.2 y.1 y.2 (2 * x.2 + y.2) OX OY e1 (by
      show bits .or .u64 ((x.2 : Int) * ((2 : Nat) : Int)) (y.2 : Int) = _
      have := or_join x.2 y.2 1 (by rw [show (2 : Nat) ^ 1 = 2 by decide]; omega) (by rw [show (2 : Nat) ^ 1 = 2 by decide]; exact e2) hy.2
      rw [show (2 : Nat) ^ 1 = 2 by decide, Int.natCast_mul] at this
      exact this)
  · have ox := ox.resolve_left (by decide)
    have oy := oy.resolve_left (by decide)
    have e1 : x.2 < 4 := ox.2
    have e2 : y.2 < 4 := oy.2
    exact join2 x.1 x.2 y.1 y.2 (4 * x.2 + y.2) OX OY e1 (by
      show bits .or .u64 ((x.2 : Int) * ((4 : Nat) : Int)) (y.2 : Int) = _
      have := or_join x.2 y.2 2 (by rw [show (2 : Nat) ^ 2 = 4 by decide]; omega) (by rw [show (2 : Nat) ^ 2 = 4 by decide]; exact e2) hy.2
      rw [show (2 : Nat) ^ 2 = 4 by decide, Int.natCast_mul] at this
      exact this)
  · have ox := ox.resolve_left (by decide)
    have oy := oy.resolve_left (by decide)
    have e1 : x.2 < 16 := ox.2
    have e2 : y.2 < 16 := oy.2
    exact join3 x.1 x.2 y.1 y.2 (16 * x.2 + y.2) OX OY e1 (by
      show bits .or .u64 ((x.2 : Int) * ((16 : Nat) : Int)) (y.2 : Int) = _
      have := or_join x.2 y.2 4 (by rw [show (2 : Nat) ^ 4 = 16 by decide]; omega) (by rw [show (2 : Nat) ^ 4 = 16 by decide]; exact e2) hy.2
      rw [show (2 : Nat) ^ 4 = 16 by decide, Int.natCast_mul] at this
      exact this)
  · have ox := ox.resolve_left (by decide)
    have oy := oy.resolve_left (by decide)
    have e1 : x.2 < 256 := ox.2
    have e2 : y.2 < 256 := oy.2
    exact join4 x.1 x.2 y.1 y.2 (256 * x.2 + y.2) OX OY e1 (by
      show bits .or .u64 ((x.2 : Int) * ((256 : Nat) : Int)) (y.2 : Int) = _
      have := or_join x.2 y.2 8 (by rw [show (2 : Nat) ^ 8 = 256 by decide]; omega) (by rw [show (2 : Nat) ^ 8 = 256 by decide]; exact e2) hy.2
      rw [show (2 : Nat) ^ 8 = 256 by decide, Int.natCast_mul] at this
      exact this)
  · have ox := ox.resolve_left (by decide)
    have oy := oy.resolve_left (by decide)
    have e1 : x.2 < 65536 := ox.2
    have e2 : y.2 < 65536 := oy.2
    exact join5 x.1 x.2 y.1 y.2 (65536 * x.2 + y.2) OX OY e1 (by
      show bits .or .u64 ((x.2 : Int) * ((65536 : Nat) : Int)) (y.2 : Int) = _
      have := or_join x.2 y.2 16 (by rw [show (2 : Nat) ^ 16 = 65536 by decide]; omega) (by rw [show (2 : Nat) ^ 16 = 65536 by decide]; exact e2) hy.2
      rw [show (2 : Nat) ^ 16 = 65536 by decide, Int.natCast_mul] at this
      exact this)
  · have ox := ox.resolve_left (by decide)
    have oy := oy.resolve_left (by decide)
    have e1 : x.2 < 4294967296 := ox.2
    have e2 : y.2 < 4294967296 := oy.2
    exact join6 x.1 x.2 y.1 y.2 (4294967296 * x.2 + y.2) OX OY e1 (by
      show bits .or .u64 ((x.2 : Int) * ((4294967296 : Nat) : Int)) (y.2 : Int) = _
      have := or_join x.2 y.2 32 (by rw [show (2 : Nat) ^ 32 = 4294967296 by decide]; omega) (by rw [show (2 : Nat) ^ 32 = 4294967296 by decide]; exact e2) hy.2
      rw [show (2 : Nat) ^ 32 = 4294967296 by decide, Int.natCast_mul] at this
      exact this)
  · exact join7 x.1 x.2 y.1 y.2 OX OY
theorem jn_of (k : Nat) (h1 : 1 ≤ k) (hk : k < 8) (x y : Nat × Nat) (ox : ofB ((k - 1 : Nat) : Int) (x.1 : Int) (x.2 : Int) = true) (oy : ofB ((k - 1 : Nat) : Int) (y.1 : Int) (y.2 : Int) = true) : ofB (k : Int) ((jn k x y).1 : Nat) ((jn k x y).2 : Nat) = true := by
  rw [ofB_iff _ _ _ (by omega)] at ox oy
  rw [ofB_iff _ _ _ hk]
  by_cases h7 : k = 7
  · exact .inl h7
  · right
    have ox := ox.resolve_left (by omega)
    have oy := oy.resolve_left (by omega)
    unfold jn
    rw [if_neg h7]
    refine ⟨rfl, ?_⟩
    show 2 ^ 2 ^ (k - 1) * x.2 + y.2 < 2 ^ 2 ^ k
    have e : 2 ^ 2 ^ k = 2 ^ 2 ^ (k - 1) * 2 ^ 2 ^ (k - 1) := by
      rw [← Nat.pow_add]; congr 1; obtain ⟨j, rfl⟩ : ∃ j, k = j + 1 := ⟨k - 1, by omega⟩; rw [Nat.add_sub_cancel, Nat.pow_succ]; omega
    rw [e]
    generalize 2 ^ 2 ^ (k - 1) = P at *
    have := Nat.mul_le_mul_left P (show x.2 + 1 ≤ P from ox.2)
    rw [Nat.mul_add, Nat.mul_one] at this
    omega
theorem of_lt64 {k : Nat} (hk : k < 7) {h l : Nat} (o : ofB (k : Int) (h : Int) (l : Int) = true) : h < 2 ^ 64 ∧ l < 2 ^ 64 := by
  rw [ofB_iff _ _ _ (by omega)] at o
  have o := o.resolve_left (by omega)
  refine ⟨by rw [o.1]; exact Nat.two_pow_pos 64, Nat.lt_of_lt_of_le o.2 ?_⟩
  exact Nat.pow_le_pow_right (by decide) (show 2 ^ k ≤ 2 ^ 6 from Nat.pow_le_pow_right (by decide) (by omega))
theorem jnd_of : ∀ (d k : Nat) (es : List (Nat × Nat)), d ≤ k → k < 8 → es.length = 2 ^ d → (∀ e ∈ es, ofB ((k - d : Nat) : Int) (e.1 : Int) (e.2 : Int) = true) → ofB (k : Int) ((jnd d k es).1 : Nat) ((jnd d k es).2 : Nat) = true := by
  intro d
  induction d with
  | zero =>
    intro k es _ _ hl ho
    cases es with
    | nil => simp at hl
    | cons e l => exact ho e (by simp)
  | succ d ih =>
    intro k es hd hk hl ho
    have hp : 2 ^ (d + 1) = 2 ^ d + 2 ^ d := by rw [Nat.pow_succ]; omega
    have hs : k - 1 - d = k - (d + 1) := by omega
    exact jn_of k (by omega) hk _ _ (ih (k - 1) _ (by omega) (by omega) (by rw [List.length_drop]; omega) (fun e he => by rw [hs]; exact ho e (List.mem_of_mem_drop he)))
      (ih (k - 1) _ (by omega) (by omega) (by rw [List.length_take]; omega) (fun e he => by rw [hs]; exact ho e (List.mem_of_mem_take he)))
/-- Parts that are of a level, joined. -/
theorem joined_any : ∀ (d k : Nat) (es : List (Nat × Nat)), d ≤ k → k < 8 → es.length = 2 ^ d → (∀ e ∈ es, ofB ((k - d : Nat) : Int) (e.1 : Int) (e.2 : Int) = true) → ∀ (b off cap : Nat), es.length ≤ cap → ∀ W : World, ERow W (some ⟨b, off, none⟩) es →
    Calls Try.prog 25 #[.int .i64 (k : Int), .slice (some ⟨b, off, none⟩) es.length cap] W fun e w' => e = .returned (.agg #[.int .u64 ((jnd d k es).1 : Nat), .int .u64 ((jnd d k es).2 : Nat)]) ∧ Below W.heap.size W w' := by
  intro d
  induction d with
  | zero =>
    intro k es _ _ hl _ b off cap _ W hr
    rw [show (2 : Nat) ^ 0 = 1 by decide] at hl
    have := joined_one (k : Int) b off cap es hl W hr
    rw [hl]
    exact this
  | succ d ih =>
    intro k es hd hk hl ho b off cap hc W hr
    have hp : 2 ^ (d + 1) = 2 ^ d + 2 ^ d := by rw [Nat.pow_succ]; omega
    have hs : k - 1 - d = k - (d + 1) := by omega
    have hP : 0 < 2 ^ d := Nat.two_pow_pos d
    have h8 : 2 ^ (d + 1) ≤ 2 ^ 7 := Nat.pow_le_pow_right (by decide) (by omega)
    have ll : (es.take (2 ^ d)).length = 2 ^ d := by rw [List.length_take]; omega
    have lh : (es.drop (2 ^ d)).length = 2 ^ d := by rw [List.length_drop]; omega
    have oh : ∀ e ∈ es.drop (2 ^ d), ofB ((k - 1 - d : Nat) : Int) (e.1 : Int) (e.2 : Int) = true := fun e he => by rw [hs]; exact ho e (List.mem_of_mem_drop he)
    have ol : ∀ e ∈ es.take (2 ^ d), ofB ((k - 1 - d : Nat) : Int) (e.1 : Int) (e.2 : Int) = true := fun e he => by rw [hs]; exact ho e (List.mem_of_mem_take he)
    have ah := jnd_of d (k - 1) _ (by omega) (by omega) lh oh
    have al := jnd_of d (k - 1) _ (by omega) (by omega) ll ol
    have hw : IntKind.i64.wrap ((k : Int) - 1) = ((k - 1 : Nat) : Int) := by rw [IntKind.wrap_i64]; omega
    refine joined_step (k : Int) ((k - 1 : Nat) : Int) b off cap es.length (2 ^ d) (jnd d (k - 1) (es.drop (2 ^ d))) (jnd d (k - 1) (es.take (2 ^ d))) (jnd (d + 1) k es) (by omega) hP (by omega) hc hw W ?_ ?_ (join_ret k (by omega) hk _ _ (of_lt64 (by omega) ah) (of_lt64 (by omega) al) ah al)
    · intro w hb
      have := ih (k - 1) _ (by omega) (by omega) lh oh b (off + 2 ^ d * 2) (cap - 2 ^ d) (by rw [lh]; omega) w (ERow.drop (hr.below hb))
      rw [lh] at this
      exact this
    · intro w hb
      have := ih (k - 1) _ (by omega) (by omega) ll ol b off cap (by rw [ll]; omega) w (ERow.take (hr.below hb))
      rw [ll] at this
      exact this
set_option maxHeartbeats 2000000 in
/-- Are all elements of a level? -/
theorem wall_any (l : Int) (a : Option Addr) (cap : Nat) (es : List (Nat × Nat)) (hes : ltE es) (W : World) (hr : ERow W a es) (h10 : es.length ≤ 100000) :
    Calls Try.prog 18 #[.int .i64 l, .slice a es.length cap] W fun e w' => e = .returned (.bool (es.all fun e => ofB l (e.1 : Int) (e.2 : Int))) ∧ Below W.heap.size W w' := by
  have HR : Hid (ERow W a es) := hr
  have HO : Hid (∀ j : Nat, Ret 27 #[.int .i64 l, .agg #[.int .u64 ((es.getD j (0, 0)).1 : Int), .int .u64 ((es.getD j (0, 0)).2 : Int)]] (.bool (ofB l ((es.getD j (0, 0)).1 : Int) ((es.getD j (0, 0)).2 : Int)))) := fun j => of_ret l _ _ (hes.at j).2
  clear hr hes
  go_enter Try.func18, Try.ntmps18
  go_wp2_with fail
  go_loopw [9] (fun u wr => ∃ j : Nat, j ≤ es.length ∧ u = .int .i64 j ∧ Hid ((es.take j).all (fun e => ofB l (e.1 : Int) (e.2 : Int)) = true) ∧ Below W.heap.size W wr) (fun u _ => es.length - (intOf u).toNat)
  case atStart => exact ⟨0, Nat.zero_le _, rfl, (by rfl), Below.refl _ _⟩
  case round =>
    obtain ⟨j, hj, rfl, HT, hD⟩ := hrel
    by_cases hlt : j < es.length
    · obtain ⟨b, off, rfl, hb, c1, c0⟩ := HR.out.cells j hlt
      have d1 : wr.cell? ⟨b, off + j * 2, none⟩ = some (.int .u64 ((es.getD j (0, 0)).1 : Nat)) := by rw [hD.cell (p := ⟨b, off + j * 2, none⟩) hb]; exact c1
      have d0 : wr.cell? ⟨b, off + j * 2 + 1, none⟩ = some (.int .u64 ((es.getD j (0, 0)).2 : Nat)) := by rw [hD.cell (p := ⟨b, off + j * 2 + 1, none⟩) hb]; exact c0
      have H1 := HO.out j
      have HD : Hid (Below W.heap.size W wr) := hD
      have HS : Hid (es.take (j + 1) = es.take j ++ [es.getD j (0, 0)]) := take_sn es j hlt
      have HM : Hid (es.getD j (0, 0) ∈ es) := by show _ ∈ _; rw [show es.getD j (0, 0) = es[j] by simp [hlt]]; exact List.getElem_mem hlt
      clear hD c1 c0 HR HO
      generalize es.getD j (0, 0) = x at *
      rcases hB : ofB l (x.1 : Int) (x.2 : Int) with _ | _
      · rw [hB] at H1
        go_wp2_with fail
        refine (H1.go _).mono ?_
        rintro e w4 ⟨rfl, hb4⟩
        have HD4 : Hid (Below W.heap.size W w4) := (HD.out.alloc HD.out.size _).trans (hb4.mono (by have := HD.out.size; simp; omega))
        clear hb4 d1 d0 HD
        go_wp2
        go_ret
        refine ⟨?_, HD4.out⟩
        rw [show (es.all fun e => ofB l (e.1 : Int) (e.2 : Int)) = false from by
          rw [List.all_eq_false]; exact ⟨x, HM.out, by rw [hB]; decide⟩]
        rfl
      · rw [hB] at H1
        go_wp2_with fail
        refine (H1.go _).mono ?_
        rintro e w4 ⟨rfl, hb4⟩
        have HD4 : Hid (Below W.heap.size W w4) := (HD.out.alloc HD.out.size _).trans (hb4.mono (by have := HD.out.size; simp; omega))
        clear hb4 d1 d0 HD
        go_wp2
        exact ⟨⟨j + 1, hlt, by simp, (by show _ = _; rw [HS.out, List.all_append, HT.out]; simp [hB]), HD4.out⟩, by simp [intOf]; omega⟩
    · have HD : Hid (Below W.heap.size W wr) := hD
      obtain rfl : j = es.length := by omega
      clear hD
      go_wp2
      go_ret
      refine ⟨?_, HD.out⟩
      have := HT.out
      rw [List.take_of_length_le (Nat.le_refl _)] at this
      rw [this]
      rfl
end Go.Proofs.Ytccaobfhldfamaa
