/- The contract of (*octet.Reader).List over the seat's translation. -/
import Derived.Test.YtccpbpajappckaaPOrA
import Derived.Test.YtccpbpajappckaaSlA
namespace Go.Proofs.Ytccpbpajappckaa
open Go.RowKit

theorem info_text : ∃ i, Try.prog.info? 9 = some i ∧ i.zero = some (.string ⟨#[]⟩) ∧ i.size = 1 ∧ i.bytes = 16 := by
  have h : (Try.prog.info? 9).map (fun i => (i.zero, i.size, i.bytes)) = some (some (.string ⟨#[]⟩), 1, 16) := by kernel_rfl
  obtain ⟨i, hi, he⟩ := Option.map_eq_some_iff.1 h
  simp only [Prod.mk.injEq] at he
  exact ⟨i, hi, he.1, he.2.1, he.2.2⟩
theorem Step.grown {b : Nat} {s : ByteArray} {e : Int} {W w w' : World} {r : Option Nat} (h : Step b s e W w) (k : w.grownBy w' r) (hr : ∀ g, r = some g → W.heap.size ≤ g) (hb : b < W.heap.size) : Step b s e W w' := by
  have hne : ∀ j, j < W.heap.size → r ≠ some j := fun j hj e => by have := hr j e; omega
  refine ⟨k.os.trans h.os, k.tape.trans h.tape, k.output.trans h.output, Nat.le_trans h.size k.size, fun j hj hjb => ?_, ?_⟩
  · rw [k.block j (Nat.lt_of_lt_of_le hj h.size) (fun x => hne j hj x.symm)]
    exact h.rest j hj hjb
  · have hh := h.here
    unfold Rd at hh ⊢
    rw [k.block b (Nat.lt_of_lt_of_le hb h.size) (fun x => hne b hb x.symm)]
    exact hh
theorem own_step {w w' : World} {base : Nat} {T : TypeId} {v : Value} {n b : Nat} {xs : List Value} {s : ByteArray} {e : Int} (h : w.ownsRow base T 1 v n xs) (hb : b < base) (k : Step b s e w w') : w'.ownsRow base T 1 v n xs := by
  obtain ⟨h1, h2⟩ := h
  refine ⟨h1, ?_⟩
  rcases h2 with h3 | ⟨g, cap, cur, rfl, hg, hh, hrest⟩
  · exact .inl h3
  · have hl : g < w.heap.size := by
      rcases Nat.lt_or_ge g w.heap.size with h' | h'
      · exact h'
      · rw [Array.getElem?_eq_none h'] at hh; cases hh
    exact .inr ⟨g, cap, cur, rfl, hg, by rw [k.rest g hl (by omega)]; exact hh, hrest⟩
/-- Texts, one behind the other, until one fails. -/
def rdTexts (long : Int) : Nat → ByteArray → List ByteArray → ByteArray × Int × Option (List ByteArray)
  | 0, s, acc => (s, 0, some acc)
  | n + 1, s, acc => if (rdText s 0 long).2.1 = 0 then rdTexts long n (rdText s 0 long).1 (acc ++ [(rdText s 0 long).2.2]) else ((rdText s 0 long).1, (rdText s 0 long).2.1, none)
/-- What 'List' makes of a reader: what is left, the error, the texts. -/
def rdList (s : ByteArray) (e m long : Int) : ByteArray × Int × Option (List ByteArray) :=
  if (rdNum s e m).2.1 = 0 then rdTexts long (rdNum s e m).2.2.toNat (rdNum s e m).1 [] else ((rdNum s e m).1, (rdNum s e m).2.1, some [])
/-- A slice of texts, or none. -/
def TxS (w : World) (v : Value) : Option (List ByteArray) → Prop
  | none => v = .slice none 0 0
  | some ss => ∃ a cap, v = .slice a ss.length cap ∧ StrRow w a ss
theorem own_texts {w : World} {base : Nat} {T : TypeId} {v : Value} {n : Nat} {ss : List ByteArray} (hn : ss.length = n) (h : w.ownsRow base T 1 v n (ss.map Value.string)) : TxS w v (some ss) := by
  subst hn
  rcases h.2 with ⟨h1, h0⟩ | ⟨g, cap, cur, rfl, _⟩
  · exact ⟨none, 0, by rw [h1, h0], .inl (List.eq_nil_of_length_eq_zero h0)⟩
  · rcases ss with _ | ⟨x, ss⟩
    · exact ⟨_, cap, rfl, .inl rfl⟩
    · have hc : ∀ i, i < (x :: ss).length → w.cell? ⟨g, i, none⟩ = some (.string ((x :: ss).getD i ByteArray.empty)) := fun i hi => by
        have e := h.cellAt i (by omega)
        have e2 : (x :: ss)[i]? = some ((x :: ss)[i]) := List.getElem?_eq_getElem hi
        rw [e, List.getElem?_map, e2, List.getD_eq_getElem?_getD, e2]
        rfl
      exact ⟨_, cap, rfl, .inr ⟨g, 0, rfl, cell_lt (hc 0 (by simp)), fun i hi => by rw [Nat.zero_add]; exact hc i hi⟩⟩
theorem TxS.below {w w' : World} {v : Value} {o : Option (List ByteArray)} (h : TxS w v o) (k : Below w.heap.size w w') : TxS w' v o := by
  rcases o with _ | ss
  · exact h
  · obtain ⟨a, cap, e, hs⟩ := h
    refine ⟨a, cap, e, ?_⟩
    rcases hs with hs | ⟨b, off, e1, hb, hc⟩
    · exact .inl hs
    · exact .inr ⟨b, off, e1, Nat.lt_of_lt_of_le hb k.size, fun i hi => keepc k (hc i hi)⟩
set_option maxHeartbeats 4000000 in
set_option maxRecDepth 100000 in
theorem rd_listN (b : Nat) (s : ByteArray) (e m long : Int) (W : World) (h : Rd b s e W) : Calls Try.prog 18 #[.pointer (some ⟨b, 0, none⟩), .int .i64 m, .int .i64 long] W fun r w' => ∃ v, r = .returned v ∧ (TxS w' v (rdList s e m long).2.2 ∧ ∀ g, v.ownBlock = some g → W.heap.size ≤ g) ∧ Step b (rdList s e m long).1 (rdList s e m long).2.1 W w' := by
  have H1 := hidR (rd_num b s e m W h)
  have hp := rdNum_pos s e m
  have hbW : b < W.heap.size := h.lt
  have HQ : Hid (rdList s e m long = if (rdNum s e m).2.1 = 0 then rdTexts long (rdNum s e m).2.2.toNat (rdNum s e m).1 [] else ((rdNum s e m).1, (rdNum s e m).2.1, some [])) := rfl
  have hz : ¬ (rdNum s e m).2.1 = 0 → (rdNum s e m).2.2 = 0 := fun hn => by
    unfold rdNum at hn ⊢
    split
    · split
      · rfl
      · split
        · rfl
        · rename_i h1 h2 h3
          rw [if_pos h1, if_neg h2, if_neg h3] at hn
          exact absurd rfl hn
    · rfl
  obtain ⟨i0, hi0, hz0, hz1, hz2⟩ := info_text
  have HI : Hid (Try.prog.info? 9 = some i0 ∧ i0.zero = some (.string ⟨#[]⟩) ∧ i0.size = 1 ∧ i0.bytes = 16) := ⟨hi0, hz0, hz1, hz2⟩
  clear hi0 hz0 hz1 hz2 h
  generalize rdList s e m long = R at *
  generalize rdNum s e m = q at *
  obtain ⟨q1, q2, q3⟩ := q
  dsimp only at *
  obtain ⟨N, rfl⟩ : ∃ N : Nat, q3 = (N : Int) := ⟨q3.toNat, by omega⟩
  by_cases h2 : q2 = 0
  · subst h2
    rw [if_pos rfl, Int.toNat_natCast] at HQ
    clear hz
    go_enter Try.func18, Try.ntmps18
    go_wp2_with (go_at_call 17; refine H1.out.mono ?_; rintro r w1 ⟨rfl, st1⟩; have S1 := hidR st1; clear st1)
    go_loopw [7, 12] (fun l u wr => ∃ (k : Nat) (s' : ByteArray) (acc : List ByteArray), k ≤ N ∧ u = .int .i64 k ∧ Hid (rdTexts long (N - k) s' acc = R) ∧ Hid (acc.length = k ∧ wr.ownsRow W.heap.size 9 1 l k (acc.map Value.string) ∧ Step b s' 0 W wr)) (fun _ u _ => N - (intOf u).toNat)
    case atStart => exact ⟨0, q1, [], Nat.zero_le _, rfl, HQ.out.symm, ⟨rfl, ⟨by simp, .inl ⟨rfl, rfl⟩⟩, S1.out⟩⟩
    case round =>
      obtain ⟨k, s', acc, hk, rfl, HD, HK⟩ := hrel
      by_cases hlt : k < N
      · have k1 : (k : Int) < (N : Int) := by omega
        have H3 := hidR (rd_text b s' 0 long wr HK.out.2.2.here)
        have HS : Hid ((if (rdText s' 0 long).2.1 = 0 then rdTexts long (N - (k + 1)) (rdText s' 0 long).1 (acc ++ [(rdText s' 0 long).2.2]) else ((rdText s' 0 long).1, (rdText s' 0 long).2.1, none)) = R) := by
          show _ = _
          rw [← HD.out, show N - k = (N - (k + 1)) + 1 by omega]
          rfl
        clear HD
        generalize rdText s' 0 long = y at *
        obtain ⟨y1, y2, y3⟩ := y
        dsimp only at *
        by_cases hy : y2 = 0
        · subst hy
          rw [if_pos rfl] at HS
          go_wp2_with (first
            | (go_at_call 20; refine H3.out.mono ?_; rintro r w2 ⟨rfl, st2⟩; have K2 : Hid (acc.length = k ∧ w2.ownsRow W.heap.size 9 1 u7 k (acc.map Value.string) ∧ Step b y1 0 W w2) := ⟨HK.out.1, own_step HK.out.2.1 hbW st2, HK.out.2.2.trans st2⟩; clear st2 HK; have c1 := K2.out.2.2.here.c1)
            | (at_builtin; refine wpList_append_own _ rfl _ _ 36 rfl W.heap.size 9 i0 (.string ⟨#[]⟩) 1 16 Try.underlying36 HI.out.1 HI.out.2.1 HI.out.2.2.1 HI.out.2.2.2 rfl (by decide) _ _ _ rfl (own_below K2.out.2.1 ((Below.refl _ _).alloc (Nat.le_refl _) _)) ⟨w2.heap.size, 0, none⟩ 1 1 [.string y3] rfl rfl (fun p u hu => by rcases p with _ | p <;> simp at hu <;> subst hu <;> simp [go_sem]) (by intro u hu; simp at hu; rcases hu with rfl; rfl) (by simp only [maxLen]; omega) (by omega) (by have := K2.out.2.2.size; simp; omega) ?_; intro v' w7 hown7 hgr7 _))
          refine ⟨⟨k + 1, y1, acc ++ [y3], hlt, by simp, HS, ⟨by rw [List.length_append, K2.out.1]; rfl, by rw [List.map_append]; exact hown7, ?_⟩⟩, by simp [intOf]; omega⟩
          exact (K2.out.2.2.alloc _).grown hgr7 (fun g hg => (K2.out.2.1.lt g hg).1) hbW
        · rw [if_neg hy] at HS
          have hy' : (y2 == 0) = false := by rw [beq_eq_false_iff_ne]; exact hy
          go_wp2_with (go_at_call 20; refine H3.out.mono ?_; rintro r w2 ⟨rfl, st2⟩; have K2 : Hid (Step b y1 y2 W w2) := HK.out.2.2.trans st2; clear st2 HK; have c1 := K2.out.here.c1)
          go_ret
          exact ⟨_, rfl, ⟨by rw [← HS.out]; rfl, fun g e => by cases e⟩, by rw [← HS.out]; exact K2.out⟩
      · obtain rfl : k = N := by omega
        have HD2 : Hid ((s', 0, some acc) = R) := by
          show _ = _
          rw [← HD.out, Nat.sub_self]
          rfl
        have KE : Hid ((TxS wr u7 (some acc) ∧ ∀ g, u7.ownBlock = some g → W.heap.size ≤ g) ∧ Step b s' 0 W wr) := ⟨⟨own_texts HK.out.1 HK.out.2.1, fun g hg => (HK.out.2.1.lt g hg).1⟩, HK.out.2.2⟩
        clear HD HK
        go_wp2
        go_ret
        exact ⟨_, rfl, by rw [← HD2.out]; exact KE.out.1, by rw [← HD2.out]; exact KE.out.2⟩
  · rw [if_neg h2] at HQ
    obtain rfl : N = 0 := by have := hz h2; omega
    clear hz
    go_enter Try.func18, Try.ntmps18
    go_wp2_with (go_at_call 17; refine H1.out.mono ?_; rintro r w1 ⟨rfl, st1⟩; have S1 := hidR st1; clear st1)
    go_loopw [7, 12] (fun l u wr => l = .slice none 0 0 ∧ u = .int .i64 0 ∧ Hid (Step b q1 q2 W wr)) (fun _ _ _ => 0)
    case atStart => exact ⟨rfl, rfl, S1⟩
    case round =>
      obtain ⟨rfl, rfl, S2⟩ := hrel
      go_wp2
      go_ret
      exact ⟨_, rfl, ⟨by rw [HQ.out]; exact ⟨none, 0, rfl, .inl rfl⟩, fun g e => by cases e⟩, by rw [HQ.out]; exact S2.out⟩
theorem rd_list (b : Nat) (s : ByteArray) (e m long : Int) (W : World) (h : Rd b s e W) : Calls Try.prog 18 #[.pointer (some ⟨b, 0, none⟩), .int .i64 m, .int .i64 long] W fun r w' => ∃ v, r = .returned v ∧ TxS w' v (rdList s e m long).2.2 ∧ Step b (rdList s e m long).1 (rdList s e m long).2.1 W w' := (rd_listN b s e m long W h).mono fun _ _ ⟨v, h1, h2, h3⟩ => ⟨v, h1, h2.1, h3⟩
end Go.Proofs.Ytccpbpajappckaa
