/- The contract of sponge.Parts and the walk of SpongeSums over the seat's translation. -/
import Derived.Test.YtbfhiemkpmjmoaaGreatRsA
import Derived.Test.YtbfhiemkpmjmoaaGreatRefA
import Derived.Test.YtbfhiemkpmjmoaaGreatFew
namespace Go.Proofs.YtbfhiemkpmjmoaaGreat
open Go.RowKit

theorem sum_nil11 (s : ByteArray) : Same 12 #[.pointer none, .string s] (.string (ByteArray.mk #[])) := by
  intro W
  go_enter Tryz.func12, Tryz.ntmps12
  go_wp2
  go_ret
  exact ⟨rfl, rfl⟩
theorem list_small {ss : List ByteArray} (hs : ∀ s ∈ ss, s.size ≤ 1000) : (⟨(listL ss).toArray⟩ : ByteArray).size ≤ 4 + ss.length * 10004 := by
  show (listL ss).toArray.size ≤ _
  rw [List.size_toArray]
  unfold listL
  rw [List.length_append]
  have h1 := textsL_len ss (fun s h => Nat.le_trans (hs s h) (by decide))
  have h2 := numS_size ss.length
  have h3 : (numS ss.length).data.toList.length = (numS ss.length).size := by rw [Array.length_toList]; rfl
  omega
theorem parts_ok (g : Nat) (a : Option Addr) (ss : List ByteArray) (cap : Nat) (hn : ss.length ≤ 100) (hs : ∀ s ∈ ss, s.size ≤ 1000) (W : World) (hT : Tab W g) (hX : StrRow W a ss) :
    Calls Tryz.prog 14 #[.pointer (some ⟨g, 0, none⟩), .slice a ss.length cap] W fun e w' => e = .returned (.string (smv ⟨(listL ss).toArray⟩)) ∧ Below W.heap.size W w' := by
  have H1 : Hid (∀ w, StrRow w a ss → Calls Tryz.prog 32 #[.slice a ss.length cap] w fun e w' => e = .returned (.string ⟨(listL ss).toArray⟩) ∧ Below w.heap.size w w') := fun w h => list_any a ss cap (by omega) (fun s h => Nat.le_trans (hs s h) (by decide)) w h
  have hz := list_small hs
  have H2 : Hid (∀ w, Tab w g → Calls Tryz.prog 12 #[.pointer (some ⟨g, 0, none⟩), .string ⟨(listL ss).toArray⟩] w fun e w' => e = .returned (.string (smv ⟨(listL ss).toArray⟩)) ∧ Below w.heap.size w w') := fun w t => sum_ok g _ (by omega) w t
  have HT : Hid (Tab W g) := hT
  have HX : Hid (StrRow W a ss) := hX
  clear hT hX hz hs
  generalize smv ⟨(listL ss).toArray⟩ = r at *
  generalize (⟨(listL ss).toArray⟩ : ByteArray) = l at *
  go_enter Tryz.func14, Tryz.ntmps14
  go_wp2_with (first | (go_at_call 32; refine (H1.out _ HX.out).mono ?_; rintro e w1 ⟨rfl, hb1⟩) | (go_at_call 12; refine (H2.out _ (HT.out.below hb1)).mono ?_; rintro e w2 ⟨rfl, hb2⟩))
  go_ret
  exact ⟨rfl, hb1.trans (hb2.mono hb1.size)⟩
theorem parts_nil (a : Option Addr) (ss : List ByteArray) (cap : Nat) (hn : ss.length ≤ 100) (hs : ∀ s ∈ ss, s.size ≤ 1000) (W : World) (hX : StrRow W a ss) :
    Calls Tryz.prog 14 #[.pointer none, .slice a ss.length cap] W fun e w' => e = .returned (.string (ByteArray.mk #[])) ∧ Below W.heap.size W w' := by
  have H1 : Hid (∀ w, StrRow w a ss → Calls Tryz.prog 32 #[.slice a ss.length cap] w fun e w' => e = .returned (.string ⟨(listL ss).toArray⟩) ∧ Below w.heap.size w w') := fun w h => list_any a ss cap (by omega) (fun s h => Nat.le_trans (hs s h) (by decide)) w h
  have H2 : Hid (Same 12 #[.pointer none, .string ⟨(listL ss).toArray⟩] (.string (ByteArray.mk #[]))) := sum_nil11 _
  have HX : Hid (StrRow W a ss) := hX
  clear hX hs
  generalize (⟨(listL ss).toArray⟩ : ByteArray) = l at *
  go_enter Tryz.func14, Tryz.ntmps14
  go_wp2_with (first | (go_at_call 32; refine (H1.out _ HX.out).mono ?_; rintro e w1 ⟨rfl, hb1⟩) | (go_at_call 12; refine (H2.out.go _).mono ?_; rintro e w9 ⟨rfl, hw⟩; obtain rfl := hw.symm; clear hw))
  go_ret
  exact ⟨rfl, hb1⟩
/-- What lies in memory: the tables, the document's ones and where they are handed on, and the texts. -/
structure Sk (W w : World) (g gB cB gT cT : Nat) (gs cs : Nat → Nat) (b : Nat) (a : Option Addr) (ss : List ByteArray) : Prop where
  t : Tab w g
  r : Pk W w gB cB gT cT gs cs b
  x : StrRow w a ss
theorem Sk.below {W w w' : World} {g gB cB gT cT : Nat} {gs cs : Nat → Nat} {b : Nat} {a : Option Addr} {ss : List ByteArray} (h : Sk W w g gB cB gT cT gs cs b a ss) (q : Below w.heap.size w w') : Sk W w' g gB cB gT cT gs cs b a ss := ⟨h.t.below q, h.r.below q, h.x.below q⟩
theorem Sk.drew {W w : World} {g gB cB gT cT : Nat} {gs cs : Nat → Nat} {b : Nat} {a : Option Addr} {ss : List ByteArray} (h : Sk W w g gB cB gT cT gs cs b a ss) : Sk W w.drew g gB cB gT cT gs cs b a ss := ⟨h.t, h.r.drew, h.x⟩
theorem Sk.facts {W w : World} {g gB cB gT cT : Nat} {gs cs : Nat → Nat} {b : Nat} {a : Option Addr} {ss : List ByteArray} (h : Sk W w g gB cB gT cT gs cs b a ss) : w.cell? ⟨b, 0, none⟩ = some (.slice (some ⟨gB, 0, none⟩) 256 cB) ∧ w.cell? ⟨b, 1, none⟩ = some (.slice (some ⟨gT, 0, none⟩) 8 cT) := h.r.facts
theorem ss_long (s : ByteArray) (v : Value) (hs : 300 < s.size) : Ret 3 #[.string s, v] (.bool true) := by
  intro W
  have h1 : (300 : Int) < (s.size : Int) := by omega
  go_enter Tryz.func3, Tryz.ntmps3
  go_wp2_with (go_at_call 6; refine (awake11.go _).mono ?_; rintro e w1 ⟨rfl, hb1⟩)
  go_ret
  exact ⟨rfl, hb1⟩
theorem ss_few (s : ByteArray) (a : Option Addr) (ss : List ByteArray) (cap : Nat) (hm : ss.length ≤ maxLen) (hs : ¬ 300 < s.size) (W : World) (h : StrRow W a ss) (hf : fewB ss 6 60 = false) :
    Calls Tryz.prog 3 #[.string s, .slice a ss.length cap] W fun e w' => e = .returned (.bool true) ∧ Below W.heap.size W w' := by
  have HF : Hid (Calls Tryz.prog 5 #[.slice a ss.length cap, .int .i64 6, .int .i64 60] W fun e w' => e = .returned (.bool false) ∧ w' = W) := by
    have := few_any a ss cap 6 60 hm W h
    rw [hf] at this
    exact this
  have h1 : ¬ (300 : Int) < (s.size : Int) := by omega
  clear h hf
  go_enter Tryz.func3, Tryz.ntmps3
  go_wp2_with (first | (go_at_call 5; refine HF.out.mono ?_; rintro e w9 ⟨rfl, hw⟩; obtain rfl := hw.symm; clear hw) | (go_at_call 6; refine (awake11.go _).mono ?_; rintro e w1 ⟨rfl, hb1⟩))
  go_ret
  exact ⟨rfl, hb1⟩
theorem none_none11 : ((ByteArray.mk #[]) ++ (ByteArray.mk #[])).toList.isEmpty = true := by decide +kernel
set_option maxHeartbeats 6400000 in
set_option maxRecDepth 100000 in
theorem ss_core (s : ByteArray) (a : Option Addr) (ss : List ByteArray) (n cap : Nat) (hnn : n = ss.length) (hs : s.size ≤ 300) (W : World) (hX : StrRow W a ss) (h6 : ss.length ≤ 6) (h60 : ∀ s ∈ ss, s.size ≤ 60)
    (HF : Hid (Calls Tryz.prog 5 #[.slice a n cap, .int .i64 6, .int .i64 60] W fun e w' => e = .returned (.bool true) ∧ w' = W)) :
    Calls Tryz.prog 3 #[.string s, .slice a n cap] W fun e w' => e = .returned (.bool true) ∧ Below W.heap.size W w' := by
  have hs6 : ∀ s ∈ ss, s.size ≤ 1000 := fun s h => Nat.le_trans (h60 s h) (by decide)
  have H1 : Hid (Ret 9 #[.string s] (.string (ful s))) := fill_any s (by omega)
  have H2 : Hid (Ret 10 #[.string s] (.string (ful s))) := rfill_any s (by omega)
  have H3 : Hid (Same 11 #[.int .i64 (s.size : Int)] (.int .i64 ((nb s.size : Nat) : Int))) := blocks_ok _ (by omega)
  have H4 : Hid (∀ g w, Tab w g → Calls Tryz.prog 12 #[.pointer (some ⟨g, 0, none⟩), .string s] w fun e w' => e = .returned (.string (smv s)) ∧ Below w.heap.size w w') := fun g w t => sum_ok g s (by omega) w t
  have H5 : Hid (∀ gB cB gT cT gs cs w, RTab w gB gT gs cs → Calls Tryz.prog 13 #[.agg #[.slice (some ⟨gB, 0, none⟩) 256 cB, .slice (some ⟨gT, 0, none⟩) 8 cT], .string s] w fun e w' => e = .returned (.string (smv s)) ∧ Below w.heap.size w w') := fun gB cB gT cT gs cs w r => rsum_ok gB cB gT cT gs cs s (by omega) w r
  have H6 : Hid (∀ g w, Tab w g → StrRow w a ss → Calls Tryz.prog 14 #[.pointer (some ⟨g, 0, none⟩), .slice a n cap] w fun e w' => e = .returned (.string (smv ⟨(listL ss).toArray⟩)) ∧ Below w.heap.size w w') := by subst hnn; exact fun g w t x => parts_ok g a ss cap (by omega) hs6 w t x
  have H7 : Hid (∀ w, StrRow w a ss → Calls Tryz.prog 15 #[.slice a n cap] w fun e w' => e = .returned (.string ⟨(listL ss).toArray⟩) ∧ Below w.heap.size w w') := by subst hnn; exact fun w x => rlist_any a ss cap (by omega) (fun s h => Nat.le_trans (hs6 s h) (by decide)) w x
  have hz := list_small (ss := ss) hs6
  have H8 : Hid (∀ gB cB gT cT gs cs w, RTab w gB gT gs cs → Calls Tryz.prog 13 #[.agg #[.slice (some ⟨gB, 0, none⟩) 256 cB, .slice (some ⟨gT, 0, none⟩) 8 cT], .string ⟨(listL ss).toArray⟩] w fun e w' => e = .returned (.string (smv ⟨(listL ss).toArray⟩)) ∧ Below w.heap.size w w') := fun gB cB gT cT gs cs w r => rsum_ok gB cB gT cT gs cs _ (by omega) w r
  have H9 : Hid (Same 12 #[.pointer none, .string s] (.string (ByteArray.mk #[]))) := sum_nil11 s
  have H10 : Hid (∀ w, StrRow w a ss → Calls Tryz.prog 14 #[.pointer none, .slice a n cap] w fun e w' => e = .returned (.string (ByteArray.mk #[])) ∧ Below w.heap.size w w') := by subst hnn; exact fun w x => parts_nil a ss cap (by omega) hs6 w x
  have h1 : ¬ (300 : Int) < (s.size : Int) := by omega
  have hU : (ful s).size = 64 * nb s.size := by have := ful_size s; omega
  have u1 : ((ful s).size : Int).tdiv 64 = ((nb s.size : Nat) : Int) := by rw [Int.tdiv_eq_ediv_of_nonneg (by omega)]; omega
  have u2 : ((ful s).size : Int) / 64 = ((nb s.size : Nat) : Int) := by omega
  have hee := none_none11
  have hwq : IntKind.i64.wrap ((nb s.size : Nat) : Int) = ((nb s.size : Nat) : Int) := by rw [IntKind.wrap_i64]; unfold nb; omega
  have HX : Hid (StrRow W a ss) := hX
  clear hX hz hs6 h60 h6 hnn hU
  generalize hzz : s.size = z at *
  generalize smv s = r at *
  generalize smv ⟨(listL ss).toArray⟩ = rl at *
  generalize (⟨(listL ss).toArray⟩ : ByteArray) = l at *
  generalize ful s = fu at *
  generalize nb z = q at *
  go_enter Tryz.func3, Tryz.ntmps3
  go_wp2_with (first | (go_at_call 5; refine HF.out.mono ?_; rintro e w9 ⟨rfl, hw⟩; obtain rfl := hw.symm; clear hw) | (go_at_call 6; refine (awake11.go _).mono ?_; rintro e w1 ⟨rfl, hb1⟩) | (go_at_call 7; refine (make_any _).mono ?_; rintro e w2 ⟨g, rfl, hg, ht, hb2⟩; have HT : Hid (Hold W w2 g) := ⟨ht, hb1.trans (hb2.mono hb1.size)⟩; clear ht hb2 hb1))
  refine (rmake_any _).mono ?_
  rintro e w3 ⟨gB, cB, gT, cT, gs, cs, rfl, hr, hb3⟩
  have RT : Hid (Hold W w3 g ∧ RTab w3 gB gT gs cs ∧ StrRow w3 a ss) := ⟨HT.out.below hb3, hr, HX.out.below (HT.out.below hb3).d⟩
  clear hr hb3 HT HX
  go_wp2
  have K : Sk W (w3.alloc (Obj.cells #[.slice (some ⟨gB, 0, none⟩) 256 cB, .slice (some ⟨gT, 0, none⟩) 8 cT] 30)) g gB cB gT cT gs cs w3.heap.size a ss := ⟨RT.out.1.t.below (below_laid _ _), ⟨RT.out.2.1.below (below_laid _ _), by simp [go_sem], by simp [go_sem], RT.out.1.d.alloc RT.out.1.d.size _⟩, RT.out.2.2.below (below_laid _ _)⟩
  have F0 := K.facts
  clear RT
  generalize w3.alloc (Obj.cells #[.slice (some ⟨gB, 0, none⟩) 256 cB, .slice (some ⟨gT, 0, none⟩) 8 cT] 30) = w4 at *
  generalize w3.heap.size = b at *
  go_region_held3 (fun w => w.cell? ⟨b, 0, none⟩ = some (.slice (some ⟨gB, 0, none⟩) 256 cB) ∧ w.cell? ⟨b, 1, none⟩ = some (.slice (some ⟨gT, 0, none⟩) 8 cT)) (go_keep) (first | (go_at_call_of 9 (#[.string s] : Array Value); refine (H1.out.go _).mono ?_; rintro e w' ⟨rfl, hb'⟩; have K' := Sk.below (w' := w') (by first | exact K | exact K.drew) hb'; clear F0 K hb'; have K := K'; clear K'; have F0 := K.facts) | (go_at_call_of 10 (#[.string s] : Array Value); refine (H2.out.go _).mono ?_; rintro e w' ⟨rfl, hb'⟩; have K' := Sk.below (w' := w') (by first | exact K | exact K.drew) hb'; clear F0 K hb'; have K := K'; clear K'; have F0 := K.facts) | (go_at_call_of 11 (#[.int .i64 (z : Int)] : Array Value); refine (H3.out.go _).mono ?_; rintro e w' ⟨rfl, hw'⟩; obtain rfl := hw'.symm; clear hw') | (go_at_call_of 12 (#[.pointer (some ⟨g, 0, none⟩), .string s] : Array Value); refine (H4.out _ _ (by first | exact K.t | exact K.drew.t)).mono ?_; rintro e w' ⟨rfl, hb'⟩; have K' := Sk.below (w' := w') (by first | exact K | exact K.drew) hb'; clear F0 K hb'; have K := K'; clear K'; have F0 := K.facts) | (go_at_call_of 13 (#[.agg #[.slice (some ⟨gB, 0, none⟩) 256 cB, .slice (some ⟨gT, 0, none⟩) 8 cT], .string s] : Array Value); refine (H5.out _ _ _ _ _ _ _ (by first | exact K.r.t | exact K.drew.r.t)).mono ?_; rintro e w' ⟨rfl, hb'⟩; have K' := Sk.below (w' := w') (by first | exact K | exact K.drew) hb'; clear F0 K hb'; have K := K'; clear K'; have F0 := K.facts) | (go_at_call_of 14 (#[.pointer (some ⟨g, 0, none⟩), .slice a n cap] : Array Value); refine (H6.out _ _ (by first | exact K.t | exact K.drew.t) (by first | exact K.x | exact K.drew.x)).mono ?_; rintro e w' ⟨rfl, hb'⟩; have K' := Sk.below (w' := w') (by first | exact K | exact K.drew) hb'; clear F0 K hb'; have K := K'; clear K'; have F0 := K.facts) | (go_at_call_of 15 (#[.slice a n cap] : Array Value); refine (H7.out _ (by first | exact K.x | exact K.drew.x)).mono ?_; rintro e w' ⟨rfl, hb'⟩; have K' := Sk.below (w' := w') (by first | exact K | exact K.drew) hb'; clear F0 K hb'; have K := K'; clear K'; have F0 := K.facts) | (go_at_call_of 13 (#[.agg #[.slice (some ⟨gB, 0, none⟩) 256 cB, .slice (some ⟨gT, 0, none⟩) 8 cT], .string l] : Array Value); refine (H8.out _ _ _ _ _ _ _ (by first | exact K.r.t | exact K.drew.r.t)).mono ?_; rintro e w' ⟨rfl, hb'⟩; have K' := Sk.below (w' := w') (by first | exact K | exact K.drew) hb'; clear F0 K hb'; have K := K'; clear K'; have F0 := K.facts) | (go_at_call_of 12 (#[.pointer none, .string s] : Array Value); refine (H9.out _).mono ?_; rintro e w' ⟨rfl, hw'⟩; obtain rfl := hw'.symm; clear hw') | (go_at_call_of 14 (#[.pointer none, .slice a n cap] : Array Value); refine (H10.out _ (by first | exact K.x | exact K.drew.x)).mono ?_; rintro e w' ⟨rfl, hb'⟩; have K' := Sk.below (w' := w') (by first | exact K | exact K.drew) hb'; clear F0 K hb'; have K := K'; clear K'; have F0 := K.facts))
  go_wp2
  go_ret
  exact ⟨rfl, K.r.d⟩
theorem ss_any (s : ByteArray) (a : Option Addr) (ss : List ByteArray) (cap : Nat) (hm : ss.length ≤ maxLen) (W : World) (h : StrRow W a ss) :
    Calls Tryz.prog 3 #[.string s, .slice a ss.length cap] W fun e w' => e = .returned (.bool true) ∧ Below W.heap.size W w' := by
  by_cases hs : 300 < s.size
  · exact ss_long s _ hs W
  · cases hf : fewB ss 6 60
    · exact ss_few s a ss cap hm hs W h hf
    · obtain ⟨h6, h60⟩ := fewB_of hf
      refine ss_core s a ss ss.length cap rfl (by omega) W h (by omega) (fun s hs => by have := h60 s hs; omega) ?_
      have := few_any a ss cap 6 60 hm W h
      rw [hf] at this
      exact this
end Go.Proofs.YtbfhiemkpmjmoaaGreat
