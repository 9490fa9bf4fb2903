/- The contract of (*octet.Reader).Elems over the seat's translation. -/
import Derived.Test.YtghapohempogkaaOrD
namespace Go.Proofs.Ytghapohempogkaa
open Go.RowKit

theorem info_eL : ∃ i, Try.prog.info? 65 = some i ∧ i.zero = some (.agg #[.int .u64 0, .int .u64 0]) ∧ i.size = 2 ∧ i.bytes = 16 := by
  have h : (Try.prog.info? 65).map (fun i => (i.zero, i.size, i.bytes)) = some (some (.agg #[.int .u64 0, .int .u64 0]), 2, 16) := by kernel_rfl
  obtain ⟨i, hi, he⟩ := Option.map_eq_some_iff.1 h
  simp only [Prod.mk.injEq] at he
  exact ⟨i, hi, he.1, he.2.1, he.2.2⟩
theorem own_step2 {w w' : World} {base : Nat} {T : TypeId} {v : Value} {n b : Nat} {xs : List Value} {s : ByteArray} {e : Int} (h : w.ownsRow base T 2 v n xs) (hb : b < base) (k : Step b s e w w') : w'.ownsRow base T 2 v n xs := by
  obtain ⟨h1, h2⟩ := h
  refine ⟨h1, ?_⟩
  rcases h2 with h3 | ⟨g, cap, cur, rfl, hg, hh, hrest⟩
  · exact .inl h3
  · have hl : g < w.heap.size := by
      rcases Nat.lt_or_ge g w.heap.size with h' | h'
      · exact h'
      · rw [Array.getElem?_eq_none h'] at hh; cases hh
    exact .inr ⟨g, cap, cur, rfl, hg, by rw [k.rest g hl (by omega)]; exact hh, hrest⟩
theorem flatE_end (es : List (Nat × Nat)) (r : Nat × Nat) : flat (es ++ [r]) = flat es ++ [.int .u64 (r.1 : Nat), .int .u64 (r.2 : Nat)] := by simp [flat]
/-- Elements, one behind the other, until one fails. -/
def rdElms (l : Int) : Nat → ByteArray → List (Nat × Nat) → ByteArray × Int × Option (List (Nat × Nat))
  | 0, s, acc => (s, 0, some acc)
  | n + 1, s, acc => if (rdElem s 0 l).2.1 = 0 then rdElms l n (rdElem s 0 l).1 (acc ++ [(rdElem s 0 l).2.2]) else ((rdElem s 0 l).1, (rdElem s 0 l).2.1, none)
/-- What 'Elems' makes of a reader: what is left, the error, the elements. -/
def rdElems (s : ByteArray) (e l m : Int) : ByteArray × Int × Option (List (Nat × Nat)) :=
  if (rdHas s e l).2.2 = true then (if (rdNum s e m).2.1 = 0 then rdElms l (rdNum s e m).2.2.toNat (rdNum s e m).1 [] else ((rdNum s e m).1, (rdNum s e m).2.1, some [])) else ((rdHas s e l).1, (rdHas s e l).2.1, none)
/-- A slice of elements, or none. -/
def ElS (w : World) (v : Value) : Option (List (Nat × Nat)) → Prop
  | none => v = .slice none 0 0
  | some es => ∃ a cap, v = .slice a es.length cap ∧ ERow w a es
set_option maxHeartbeats 4000000 in
set_option maxRecDepth 100000 in
theorem rd_elemsN (b : Nat) (s : ByteArray) (e l m : Int) (W : World) (h : Rd b s e W) : Calls Try.prog 31 #[.pointer (some ⟨b, 0, none⟩), .int .i64 l, .int .i64 m] W fun r w' => ∃ v, r = .returned v ∧ (ElS w' v (rdElems s e l m).2.2 ∧ ∀ g, v.ownBlock = some g → W.heap.size ≤ g) ∧ Step b (rdElems s e l m).1 (rdElems s e l m).2.1 W w' := by
  have H0 := hidR (rd_has b s e l W h)
  have hbW : b < W.heap.size := h.lt
  by_cases hh : (rdHas s e l).2.2 = true
  · have hhs : rdHas s e l = (s, e, true) := by
      unfold rdHas at hh ⊢
      by_cases h0 : e = 0
      · rw [if_pos h0] at hh ⊢
        by_cases h1 : levelB l = true
        · rw [if_pos h1, h0]
        · rw [if_neg h1] at hh; cases hh
      · rw [if_neg h0] at hh; cases hh
    rw [hhs] at H0
    dsimp only at H0
    have H1 := hidR (fun (v : World) (hv : Rd b s e v) => rd_num b s e m v hv)
    have hp := rdNum_pos s e m
    have HQ : Hid (rdElems s e l m = if (rdNum s e m).2.1 = 0 then rdElms l (rdNum s e m).2.2.toNat (rdNum s e m).1 [] else ((rdNum s e m).1, (rdNum s e m).2.1, some [])) := by show _ = _; unfold rdElems; rw [if_pos hh]
    have hz : ¬ (rdNum s e m).2.1 = 0 → (rdNum s e m).2.2 = 0 := fun hn => by
      unfold rdNum at hn ⊢
      split
      · split
        · rfl
        · split
          · rfl
          · rename_i h1 h2 h3
            rw [if_pos h1, if_neg h2, if_neg h3] at hn
            exact absurd rfl hn
      · rfl
    obtain ⟨i0, hi0, hz0, hz1, hz2⟩ := info_eL
    have HI : Hid (Try.prog.info? 65 = some i0 ∧ i0.zero = some (.agg #[.int .u64 0, .int .u64 0]) ∧ i0.size = 2 ∧ i0.bytes = 16) := ⟨hi0, hz0, hz1, hz2⟩
    clear hi0 hz0 hz1 hz2 h hh hhs
    generalize rdElems s e l m = R at *
    generalize rdNum s e m = q at *
    obtain ⟨q1, q2, q3⟩ := q
    dsimp only at *
    obtain ⟨N, rfl⟩ : ∃ N : Nat, q3 = (N : Int) := ⟨q3.toNat, by omega⟩
    by_cases h2 : q2 = 0
    · subst h2
      rw [if_pos rfl, Int.toNat_natCast] at HQ
      clear hz
      go_enter Try.func31, Try.ntmps31
      go_wp2_with (first | (go_at_call 46; refine H0.out.mono ?_; rintro r w0 ⟨rfl, st0⟩; have S0 := hidR st0; clear st0) | (go_at_call 29; refine (H1.out _ S0.out.here).mono ?_; rintro r w1 ⟨rfl, st1⟩; have S1 := hidR (S0.out.trans st1); clear st1 S0))
      go_loopw [7, 16] (fun x u wr => ∃ (k : Nat) (s' : ByteArray) (acc : List (Nat × Nat)), k ≤ N ∧ u = .int .i64 k ∧ Hid (rdElms l (N - k) s' acc = R) ∧ Hid (acc.length = k ∧ wr.ownsRow W.heap.size 65 2 x k (flat acc) ∧ Step b s' 0 W wr)) (fun _ u _ => N - (intOf u).toNat)
      case atStart => exact ⟨0, q1, [], Nat.zero_le _, rfl, HQ.out.symm, ⟨rfl, ⟨by simp [flat], .inl ⟨rfl, rfl⟩⟩, S1.out⟩⟩
      case round =>
        obtain ⟨k, s', acc, hk, rfl, HD, HK⟩ := hrel
        by_cases hlt : k < N
        · have k1 : (k : Int) < (N : Int) := by omega
          have H3 := hidR (rd_elem b s' 0 l wr HK.out.2.2.here)
          have HS : Hid ((if (rdElem s' 0 l).2.1 = 0 then rdElms l (N - (k + 1)) (rdElem s' 0 l).1 (acc ++ [(rdElem s' 0 l).2.2]) else ((rdElem s' 0 l).1, (rdElem s' 0 l).2.1, none)) = R) := by
            show _ = _
            rw [← HD.out, show N - k = (N - (k + 1)) + 1 by omega]
            rfl
          clear HD
          generalize rdElem s' 0 l = y at *
          obtain ⟨y1, y2, y3⟩ := y
          dsimp only at *
          by_cases hy : y2 = 0
          · subst hy
            rw [if_pos rfl] at HS
            go_wp2_with (first
              | (go_at_call 47; refine H3.out.mono ?_; rintro r w2 ⟨rfl, st2⟩; have K2 : Hid (acc.length = k ∧ (w2.alloc (Obj.cells #[.int .u64 (y3.1 : Int), .int .u64 (y3.2 : Int)] 65)).ownsRow W.heap.size 65 2 u7 k (flat acc) ∧ Step b y1 0 W (w2.alloc (Obj.cells #[.int .u64 (y3.1 : Int), .int .u64 (y3.2 : Int)] 65))) := ⟨HK.out.1, own_below (own_step2 HK.out.2.1 hbW st2) ((Below.refl _ _).alloc (Nat.le_refl _) _), (HK.out.2.2.trans st2).alloc _⟩; clear st2 HK; have c1 := K2.out.2.2.here.c1)
              | (at_builtin; go_loud (refine wpList_append_own _ rfl _ _ 64 rfl W.heap.size 65 i0 (.agg #[.int .u64 0, .int .u64 0]) 2 16 Try.underlying64 HI.out.1 HI.out.2.1 HI.out.2.2.1 HI.out.2.2.2 rfl (by decide) _ _ _ rfl (own_below K2.out.2.1 ((Below.refl _ _).alloc (Nat.le_refl _) _)) ⟨w2.heap.size + 1, 0, none⟩ 1 1 [.int .u64 (y3.1 : Nat), .int .u64 (y3.2 : Nat)] (by first | rfl | (simp [go_sem]; done)) rfl (fun p u hu => by rcases p with _ | _ | p <;> simp at hu <;> subst hu <;> simp [go_sem]) (by intro u hu; simp at hu; rcases hu with rfl | rfl <;> rfl) (by simp only [maxLen]; omega) (by omega) (by have := K2.out.2.2.size; simp at this; simp; omega) ?_); intro v' w7 hown7 hgr7 _))
            refine ⟨⟨k + 1, y1, acc ++ [y3], hlt, by simp, HS, ⟨by rw [List.length_append, K2.out.1]; rfl, by rw [flatE_end]; exact hown7, ?_⟩⟩, by simp [intOf]; omega⟩
            exact (K2.out.2.2.alloc _).grown hgr7 (fun g hg => (K2.out.2.1.lt g hg).1) hbW
          · rw [if_neg hy] at HS
            have hy' : (y2 == 0) = false := by rw [beq_eq_false_iff_ne]; exact hy
            go_wp2_with (go_at_call 47; refine H3.out.mono ?_; rintro r w2 ⟨rfl, st2⟩; have K2 : Hid (Step b y1 y2 W (w2.alloc (Obj.cells #[.int .u64 (y3.1 : Int), .int .u64 (y3.2 : Int)] 65))) := (HK.out.2.2.trans st2).alloc _; clear st2 HK; have c1 := K2.out.here.c1)
            go_ret
            exact ⟨_, rfl, ⟨by rw [← HS.out]; rfl, fun g e => by cases e⟩, by rw [← HS.out]; exact K2.out⟩
        · obtain rfl : k = N := by omega
          have HD2 : Hid ((s', 0, some acc) = R) := by
            show _ = _
            rw [← HD.out, Nat.sub_self]
            rfl
          have KE : Hid ((ElS wr u7 (some acc) ∧ ∀ g, u7.ownBlock = some g → W.heap.size ≤ g) ∧ Step b s' 0 W wr) := ⟨⟨by
            obtain ⟨a', cap', e', hE⟩ := own_row (es := acc) (by rw [HK.out.1]; exact HK.out.2.1)
            exact ⟨a', cap', e', hE⟩, fun g hg => (HK.out.2.1.lt g hg).1⟩, HK.out.2.2⟩
          clear HD HK
          go_wp2
          go_ret
          exact ⟨_, rfl, by rw [← HD2.out]; exact KE.out.1, by rw [← HD2.out]; exact KE.out.2⟩
    · rw [if_neg h2] at HQ
      obtain rfl : N = 0 := by have := hz h2; omega
      clear hz
      go_enter Try.func31, Try.ntmps31
      go_wp2_with (first | (go_at_call 46; refine H0.out.mono ?_; rintro r w0 ⟨rfl, st0⟩; have S0 := hidR st0; clear st0) | (go_at_call 29; refine (H1.out _ S0.out.here).mono ?_; rintro r w1 ⟨rfl, st1⟩; have S1 := hidR (S0.out.trans st1); clear st1 S0))
      go_loopw [7, 16] (fun x u wr => x = .slice none 0 0 ∧ u = .int .i64 0 ∧ Hid (Step b q1 q2 W wr)) (fun _ _ _ => 0)
      case atStart => exact ⟨rfl, rfl, S1⟩
      case round =>
        obtain ⟨rfl, rfl, S2⟩ := hrel
        go_wp2
        go_ret
        exact ⟨_, rfl, ⟨by rw [HQ.out]; exact ⟨none, 0, rfl, ⟨fun i hi => by simp at hi⟩⟩, fun g e => by cases e⟩, by rw [HQ.out]; exact S2.out⟩
  · have HE : Hid (rdElems s e l m = ((rdHas s e l).1, (rdHas s e l).2.1, none)) := by show _ = _; unfold rdElems; rw [if_neg hh]
    have hf : (rdHas s e l).2.2 = false := by simpa using hh
    generalize rdElems s e l m = R at *
    generalize rdHas s e l = q at *
    obtain ⟨q1, q2, q3⟩ := q
    dsimp only at *
    subst hf
    clear hh h
    go_enter Try.func31, Try.ntmps31
    go_wp2_with (go_at_call 46; refine H0.out.mono ?_; rintro r w0 ⟨rfl, st0⟩; have S0 := hidR st0; clear st0)
    go_ret
    exact ⟨_, rfl, ⟨by rw [HE.out]; rfl, fun g e => by cases e⟩, by rw [HE.out]; exact S0.out⟩
theorem rd_elems (b : Nat) (s : ByteArray) (e l m : Int) (W : World) (h : Rd b s e W) : Calls Try.prog 31 #[.pointer (some ⟨b, 0, none⟩), .int .i64 l, .int .i64 m] W fun r w' => ∃ v, r = .returned v ∧ ElS w' v (rdElems s e l m).2.2 ∧ Step b (rdElems s e l m).1 (rdElems s e l m).2.1 W w' := (rd_elemsN b s e l m W h).mono fun _ _ ⟨v, h1, h2, h3⟩ => ⟨v, h1, h2.1, h3⟩
end Go.Proofs.Ytghapohempogkaa
