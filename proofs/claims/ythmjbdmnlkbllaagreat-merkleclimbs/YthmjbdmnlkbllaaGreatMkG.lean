/- The contracts of merkle's digests and Climb over the seat's translation. -/
import Derived.Test.YthmjbdmnlkbllaaGreatMkE
import Derived.WalkMore
namespace Go.Proofs.YthmjbdmnlkbllaaGreat
open Go.RowKit

/-- Are n texts as long as digests? -/
def digB (n : Nat) (f : Nat → ByteArray) : Bool := (List.range n).all fun i => decide ((f i).size = 32)
theorem digB_succ (n : Nat) (f : Nat → ByteArray) : digB (n + 1) f = (digB n f && decide ((f n).size = 32)) := by simp [digB, List.range_succ]
theorem digB_le {f : Nat → ByteArray} {k m : Nat} (h : digB m f = true) (hk : k ≤ m) : digB k f = true := by
  unfold digB at *
  rw [List.all_eq_true] at *
  intro x hx
  exact h x (by simp at *; omega)
theorem digB_at {f : Nat → ByteArray} {k m : Nat} (h : digB m f = true) (hk : k < m) : (f k).size = 32 := by
  have := digB_le h (show k + 1 ≤ m by omega)
  rw [digB_succ] at this
  simp at this
  exact this.2
set_option maxHeartbeats 1000000 in
set_option maxRecDepth 100000 in
theorem digests_any (a : Option Addr) (n cap : Nat) (f : Nat → ByteArray) (hn : n ≤ 1000000) (W : World) (hX : Txs W a n f) :
    Calls Tryz.prog 26 #[.slice a n cap] W fun e w' => e = .returned (.bool (digB n f)) ∧ w' = W := by
  have HX : Hid (Txs W a n f) := hX
  clear hX
  go_enter Tryz.func26, Tryz.ntmps26
  go_wp2
  go_loopw [7] (fun u wr => ∃ k : Nat, k ≤ n ∧ u = .int .i64 k ∧ Hid (digB k f = true) ∧ W = wr) (fun u _ => n - (intOf u).toNat)
  case atStart => exact ⟨0, Nat.zero_le _, rfl, (rfl : digB 0 f = true), rfl⟩
  case round =>
    obtain ⟨k, hk, rfl, HV, rfl⟩ := hrel
    by_cases hlt : k < n
    · have k1 : (k : Int) < (n : Int) := by omega
      obtain ⟨b, off, rfl, _, c1⟩ := HX.out.cells k hlt
      have HS : Hid (digB (k + 1) f = (digB k f && decide ((f k).size = 32))) := digB_succ k f
      have HN : Hid (digB n f = true → (f k).size = 32) := fun h => digB_at h hlt
      generalize f k = s at c1 HS HN
      by_cases hs : s.size = 32
      · have i1 : (s.size : Int) = 32 := by omega
        have HE : Hid (s.size = 32) := hs
        clear hs
        go_wp2
        exact ⟨⟨k + 1, hlt, by simp, (by show _ = _; rw [HS.out, HV.out]; simp [HE.out]), by first | rfl | trivial⟩, by simp [intOf]; omega⟩
      · have i1 : ¬ (s.size : Int) = 32 := by omega
        have HE : Hid (digB n f = false) := by
          show _ = _
          cases h : digB n f
          · rfl
          · exact absurd (HN.out h) hs
        clear hs
        go_wp2
        go_ret
        exact ⟨by rw [HE.out]; rfl, rfl⟩
    · obtain rfl : k = n := by omega
      have k1 : ¬ (k : Int) < (k : Int) := by omega
      go_wp2
      go_ret
      exact ⟨by rw [HV.out]; rfl, rfl⟩
theorem digests_one (b : Nat) (s : ByteArray) (W : World) (h : W.cell? ⟨b, 0, none⟩ = some (.string s)) :
    Calls Tryz.prog 26 #[.slice (some ⟨b, 0, none⟩) 1 1] W fun e w' => e = .returned (.bool (decide (s.size = 32))) ∧ w' = W := by
  have := digests_any (some ⟨b, 0, none⟩) 1 1 (fun _ => s) (by decide) W ⟨fun i hi => ⟨b, 0, rfl, cell_lt h, by obtain rfl : i = 0 := by omega
                                                                                                                exact h⟩⟩
  rw [show digB 1 (fun _ => s) = decide (s.size = 32) by simp [digB]] at this
  exact this
/-- The text that is summed in the row k: the digest a on the way, the digest p next to it. -/
def ctx (i k : Nat) (a p : ByteArray) : ByteArray := if i / 2 ^ k % 2 = 0 then ByteArray.mk #[1] ++ a ++ p else ByteArray.mk #[1] ++ p ++ a
theorem ctx_size {i k : Nat} {a p : ByteArray} (ha : a.size = 32) (hp : p.size = 32) : (ctx i k a p).size = 65 := by
  unfold ctx
  split <;> rw [ByteArray.size_append, ByteArray.size_append, ha, hp] <;> rfl
/-- The digest on the way, in the row k; the text that is summed there. -/
def clv (i : Nat) (P : Nat → ByteArray) (leaf : ByteArray) : Nat → ByteArray
  | 0 => leaf
  | k + 1 => smv (ctx i k (clv i P leaf k) (P k))
def clt (i : Nat) (P : Nat → ByteArray) (leaf : ByteArray) (k : Nat) : ByteArray := ctx i k (clv i P leaf k) (P k)
theorem clv_succ (i : Nat) (P : Nat → ByteArray) (leaf : ByteArray) (k : Nat) : clv i P leaf (k + 1) = smv (clt i P leaf k) := rfl
theorem clv_size {i : Nat} {P : Nat → ByteArray} {leaf : ByteArray} (hl : leaf.size = 32) : ∀ k, (clv i P leaf k).size = 32
  | 0 => hl
  | _ + 1 => fin_size _ _ _
def cts (i : Nat) (P : Nat → ByteArray) (leaf : ByteArray) (n : Nat) : List Value := (List.range n).map fun k => .string (clt i P leaf k)
theorem cts_succ (i : Nat) (P : Nat → ByteArray) (leaf : ByteArray) (n : Nat) : cts i P leaf (n + 1) = cts i P leaf n ++ [.string (clt i P leaf n)] := by unfold cts; rw [List.range_succ, List.map_append]; rfl
theorem own_last {w : World} {base : Nat} {T : TypeId} {v : Value} {n : Nat} {xs : List Value} {x : Value} (hx : xs.length = n) (h : w.ownsRow base T 1 v (n + 1) (xs ++ [x])) : ∃ g cap, v = .slice (some ⟨g, 0, none⟩) (n + 1) cap ∧ base ≤ g ∧ w.cell? ⟨g, n, none⟩ = some x := by
  rcases h.2 with ⟨_, h0⟩ | ⟨g, cap, cur, rfl, hb, hg, hle, _, hs, ht⟩
  · omega
  · refine ⟨g, cap, rfl, hb, ?_⟩
    have h1 : (cur.toList.take ((n + 1) * 1))[n]? = (xs ++ [x])[n]? := by rw [ht]
    rw [List.getElem?_take_of_lt (by omega), ← hx, List.getElem?_concat_length, hx] at h1
    have h2 : cur[n]? = some x := by simpa using h1
    simp [World.cell?, hg, h2]
theorem own_txs {w : World} {base : Nat} {T : TypeId} {v : Value} {n : Nat} {f : Nat → ByteArray} (h : w.ownsRow base T 1 v n ((List.range n).map fun k => .string (f k))) : ∃ a cap, v = .slice a n cap ∧ Txs w a n f := by
  rcases h.2 with ⟨rfl, rfl⟩ | ⟨g, cap, cur, rfl, _, hg, _, _, _, ht⟩
  · exact ⟨none, 0, rfl, ⟨fun i hi => absurd hi (Nat.not_lt_zero i)⟩⟩
  · refine ⟨_, _, rfl, ⟨fun i hi => ⟨g, 0, rfl, (Array.getElem?_eq_some_iff.1 hg).1, ?_⟩⟩⟩
    have h1 : (cur.toList.take (n * 1))[i]? = ((List.range n).map fun k => Value.string (f k))[i]? := by rw [ht]
    rw [List.getElem?_take_of_lt (by omega), List.getElem?_map, List.getElem?_range hi] at h1
    have h2 : cur[i]? = some (.string (f i)) := by simpa using h1
    rw [Nat.zero_add]
    simp [World.cell?, hg, h2]
theorem bit_int12 (i k : Nat) (hi : i < 4096) : bits .and .i64 ((i : Int) / 2 ^ k) 1 = ((i / 2 ^ k % 2 : Nat) : Int) := by
  rw [shr_nat]
  have : bits .and .i64 ((i / 2 ^ k : Nat) : Int) ((1 : Nat) : Int) = (((i / 2 ^ k) &&& 1 : Nat) : Int) := i64_and_nat _ 1 (by have := Nat.div_le_self i (2 ^ k); omega) (by decide)
  rw [Nat.and_one_is_mod] at this
  exact this
set_option maxHeartbeats 4000000 in
set_option maxRecDepth 100000 in
theorem climb_ok (g : Nat) (a : Option Addr) (h cap i : Nat) (leaf : ByteArray) (P : Nat → ByteArray) (hh : h ≤ 12) (hi : i < 2 ^ h) (hl : leaf.size = 32) (hp : ∀ k, k < h → (P k).size = 32) (W : World) (hT : Tab W g) (hX : Txs W a h P) :
    Calls Tryz.prog 8 #[.pointer (some ⟨g, 0, none⟩), .int .i64 (h : Int), .int .i64 (i : Int), .string leaf, .slice a h cap] W fun e w' => ∃ v, e = .returned (.tuple #[.string (clv i P leaf h), v, .int .i64 0]) ∧ w'.ownsRow W.heap.size 9 1 v h (cts i P leaf h) ∧ Below W.heap.size W w' := by
  have hi4 : i < 4096 := Nat.lt_of_lt_of_le hi (Nat.pow_le_pow_right (by decide) hh)
  have hsh : (1 : Int) * 2 ^ h = ((2 ^ h : Nat) : Int) := by rw [Int.one_mul, Int.natCast_pow]; rfl
  have hsh2 : (2 : Int) ^ h = ((2 ^ h : Nat) : Int) := by rw [Int.natCast_pow]; rfl
  have hpl : 2 ^ h ≤ 4096 := Nat.pow_le_pow_right (by decide) hh
  generalize hH : 2 ^ h = H at *
  have i1 : ¬ (H : Int) ≤ (i : Int) := by omega
  have hw : IntKind.i64.wrap (H : Int) = (H : Int) := by rw [IntKind.wrap_i64]; omega
  have i2 : ¬ (i : Int) < 0 := by omega
  have i3 : ¬ (h : Int) < 0 := by omega
  have i4 : ¬ (12 : Int) < (h : Int) := by omega
  have HD1 : Hid (∀ b w, w.cell? ⟨b, 0, none⟩ = some (.string leaf) → Calls Tryz.prog 26 #[.slice (some ⟨b, 0, none⟩) 1 1] w fun e w' => e = .returned (.bool true) ∧ w' = w) := fun b w hc => by
    have := digests_one b leaf w hc
    rw [hl] at this
    exact this
  have HD2 : Hid (∀ w, Txs w a h P → Calls Tryz.prog 26 #[.slice a h cap] w fun e w' => e = .returned (.bool true) ∧ w' = w) := fun w hx => by
    have := digests_any a h cap P (by omega) w hx
    rw [show digB h P = true by unfold digB; rw [List.all_eq_true]; intro x hx; simp at hx; simp [hp x hx]] at this
    exact this
  have HT : Hid (Tab W g) := hT
  have HX : Hid (Txs W a h P) := hX
  have HP : Hid (∀ k, k < h → (P k).size = 32) := hp
  have HL : Hid (leaf.size = 32) := hl
  obtain ⟨j0, hj0, jz0, jz1, jz2⟩ := info_str
  have HJ : Hid (Tryz.prog.info? 9 = some j0 ∧ j0.zero = some (.string (ByteArray.mk #[])) ∧ j0.size = 1 ∧ j0.bytes = 16) := ⟨hj0, jz0, jz1, jz2⟩
  clear hj0 jz0 jz1 jz2 hT hX hp hH hi hl
  go_enter Tryz.func8, Tryz.ntmps8
  go_wp2
  go_step3
  go_wp2_with (first | (go_at_call_of 26 (some (⟨W.heap.size, 0, none⟩ : Addr)); refine (HD1.out _ _ (by simp [go_sem])).mono ?_; rintro e w9 ⟨rfl, hw9⟩; obtain rfl := hw9.symm; clear hw9) | (go_at_call 26; refine (HD2.out _ (HX.out.below (below_laid _ _))).mono ?_; rintro e w9 ⟨rfl, hw9⟩; obtain rfl := hw9.symm; clear hw9))
  go_step3
  go_wp2
  have HB0 : Hid (Below W.heap.size W (W.alloc (.cells #[.string leaf] 9))) := below_laid _ _
  generalize W.alloc (.cells #[.string leaf] 9) = w0 at *
  go_loopw [13, 14, 15] (fun r v u wr => ∃ (k : Nat) (at' : ByteArray), k ≤ h ∧ u = .int .i64 k ∧ r = .string at' ∧ Hid (at' = clv i P leaf k) ∧ Hid (wr.ownsRow W.heap.size 9 1 v k (cts i P leaf k)) ∧ Hid (Below W.heap.size W wr)) (fun _ _ u _ => h - (intOf u).toNat)
  case atStart => exact ⟨0, leaf, Nat.zero_le _, rfl, rfl, (rfl : leaf = clv i P leaf 0), World.ownsRow_nil _ _ _ _, HB0⟩
  case round =>
    obtain ⟨k, at', hk, rfl, rfl, HA, HO, HB⟩ := hrel
    clear HB0
    by_cases hlt : k < h
    · have k1 : ¬ (k : Int) = (h : Int) := by omega
      have k2 : (k : Int) < (h : Int) := by omega
      have k3 : (0 : Int) ≤ (k : Int) := by omega
      obtain ⟨b1, o1, rfl, hb1, c1⟩ := HX.out.cells k hlt
      have d1 := keepc HB.out c1
      have hbit := bit_int12 i k hi4
      have hs1 : at'.size = 32 := by rw [HA.out]; exact clv_size HL.out k
      have hs2 := HP.out k hlt
      have hz1 : (ByteArray.mk #[1]).size = 1 := rfl
      have hz2 : (ByteArray.mk #[1] ++ at').size = 33 := by rw [ByteArray.size_append, hs1]; rfl
      have hz3 : (ByteArray.mk #[1] ++ P k).size = 33 := by rw [ByteArray.size_append, hs2]; rfl
      have hct : clt i P leaf k = if i / 2 ^ k % 2 = 0 then ByteArray.mk #[1] ++ at' ++ P k else ByteArray.mk #[1] ++ P k ++ at' := by rw [HA.out]; rfl
      have HN : Hid (cts i P leaf (k + 1) = cts i P leaf k ++ [.string (clt i P leaf k)] ∧ (cts i P leaf k).length = k) := ⟨cts_succ i P leaf k, by simp [cts]⟩
      have hcz : (clt i P leaf k).size = 65 := by unfold clt; exact ctx_size (by rw [← HA.out]; exact hs1) hs2
      have HS : Hid (∀ w, Tab w g → Calls Tryz.prog 27 #[.pointer (some ⟨g, 0, none⟩), .string (clt i P leaf k)] w fun e w' => e = .returned (.string (clv i P leaf (k + 1))) ∧ Below w.heap.size w w') := fun w t => sum_ok g _ (by omega) w t
      clear c1 hcz
      generalize P k = p at d1 hs2 hz3 hct
      by_cases hpar : i / 2 ^ k % 2 = 0
      · rw [if_pos hpar] at hct
        rw [hct] at HS HN
        have hbit0 : bits .and .i64 ((i : Int) / 2 ^ k) 1 = 0 := by rw [hbit, hpar]; rfl
        clear hbit
        clear hct hpar
        go_wp2_with (first | (at_builtin; refine wpList_append_own _ rfl _ _ 22 rfl W.heap.size 9 j0 (.string (ByteArray.mk #[])) 1 16 Tryz.underlying22 HJ.out.1 HJ.out.2.1 HJ.out.2.2.1 HJ.out.2.2.2 rfl (by decide) u14 k (cts i P leaf k) rfl (own_below HO.out (below_laid _ _)) ⟨wr.heap.size, 0, none⟩ 1 1 [.string (ByteArray.mk #[1] ++ at' ++ p)] rfl rfl (fun p u hu => by rcases p with _ | p <;> simp at hu; subst hu; simp [go_sem]) (fun u hu => by simp at hu; subst hu; rfl) (by simp only [maxLen]; omega) (by omega) (by have := HB.out.size; simp; omega) ?_; intro v' w' hown' hgr _; obtain ⟨G, cp, rfl, hGb, hcell⟩ := own_last HN.out.2 hown'; have HB2 : Hid (Below W.heap.size W w') := (HB.out.alloc HB.out.size _).grown hgr (by have := HB.out.size; simp; omega) (fun q hq => (HO.out.lt q hq).1); have HO2 : Hid (w'.ownsRow W.heap.size 9 1 (.slice (some ⟨G, 0, none⟩) (k + 1) cp) (k + 1) (cts i P leaf (k + 1))) := (by rw [HN.out.1]; exact hown'); have HT2 : Hid (Tab w' g) := HT.out.below HB2.out; clear hown' hgr; generalize hn1 : k + 1 = n1 at HO2 ⊢; have kn : (k : Int) < (n1 : Int) := (by omega); have HN1 : Hid (k + 1 = n1) := hn1; clear hn1) | (go_at_call 27; refine (HS.out _ HT2.out).mono ?_; rintro e w3 ⟨rfl, hb3⟩))
        have e1 := HN1.out
        subst e1
        exact ⟨⟨k + 1, _, hlt, by simp, rfl, (rfl : clv i P leaf (k + 1) = clv i P leaf (k + 1)), own_below HO2.out hb3, HB2.out.trans (hb3.mono HB2.out.size)⟩, by simp [intOf]; omega⟩
      · have hpar1 : i / 2 ^ k % 2 = 1 := by omega
        rw [if_neg hpar] at hct
        rw [hct] at HS HN
        have hbit1 : bits .and .i64 ((i : Int) / 2 ^ k) 1 = 1 := by rw [hbit, hpar1]; rfl
        clear hbit
        clear hct hpar hpar1
        go_wp2_with (first | (at_builtin; refine wpList_append_own _ rfl _ _ 22 rfl W.heap.size 9 j0 (.string (ByteArray.mk #[])) 1 16 Tryz.underlying22 HJ.out.1 HJ.out.2.1 HJ.out.2.2.1 HJ.out.2.2.2 rfl (by decide) u14 k (cts i P leaf k) rfl (own_below HO.out (below_laid _ _)) ⟨wr.heap.size, 0, none⟩ 1 1 [.string (ByteArray.mk #[1] ++ p ++ at')] rfl rfl (fun p u hu => by rcases p with _ | p <;> simp at hu; subst hu; simp [go_sem]) (fun u hu => by simp at hu; subst hu; rfl) (by simp only [maxLen]; omega) (by omega) (by have := HB.out.size; simp; omega) ?_; intro v' w' hown' hgr _; obtain ⟨G, cp, rfl, hGb, hcell⟩ := own_last HN.out.2 hown'; have HB2 : Hid (Below W.heap.size W w') := (HB.out.alloc HB.out.size _).grown hgr (by have := HB.out.size; simp; omega) (fun q hq => (HO.out.lt q hq).1); have HO2 : Hid (w'.ownsRow W.heap.size 9 1 (.slice (some ⟨G, 0, none⟩) (k + 1) cp) (k + 1) (cts i P leaf (k + 1))) := (by rw [HN.out.1]; exact hown'); have HT2 : Hid (Tab w' g) := HT.out.below HB2.out; clear hown' hgr; generalize hn1 : k + 1 = n1 at HO2 ⊢; have kn : (k : Int) < (n1 : Int) := (by omega); have HN1 : Hid (k + 1 = n1) := hn1; clear hn1) | (go_at_call 27; refine (HS.out _ HT2.out).mono ?_; rintro e w3 ⟨rfl, hb3⟩))
        have e1 := HN1.out
        subst e1
        exact ⟨⟨k + 1, _, hlt, by simp, rfl, (rfl : clv i P leaf (k + 1) = clv i P leaf (k + 1)), own_below HO2.out hb3, HB2.out.trans (hb3.mono HB2.out.size)⟩, by simp [intOf]; omega⟩
    · obtain rfl : k = h := by omega
      have k1 : (k : Int) = (k : Int) := rfl
      go_wp2
      (try rw [Exit.noGoto_ret])
      go_ret3
      exact ⟨_, by rw [← HA.out]; rfl, HO.out, HB.out⟩
end Go.Proofs.YthmjbdmnlkbllaaGreat
