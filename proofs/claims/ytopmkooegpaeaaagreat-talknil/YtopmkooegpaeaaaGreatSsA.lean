/- The contract of sponge.Parts and the walk of SpongeSums over the seat's translation. -/
import Derived.Test.YtopmkooegpaeaaaGreatRsA
import Derived.Test.YtopmkooegpaeaaaGreatRefA
import Derived.Test.YtopmkooegpaeaaaGreatFew
namespace Go.Proofs.YtopmkooegpaeaaaGreat
open Go.RowKit

theorem sum_nil11 (s : ByteArray) : Same 41 #[.pointer none, .string s] (.string (ByteArray.mk #[])) := by
  intro W
  go_enter Tryz.func41, Tryz.ntmps41
  go_wp2
  go_ret
  exact ⟨rfl, rfl⟩
theorem list_small {ss : List ByteArray} (hs : ∀ s ∈ ss, s.size ≤ 1000) : (⟨(listL ss).toArray⟩ : ByteArray).size ≤ 4 + ss.length * 10004 := by
  show (listL ss).toArray.size ≤ _
  rw [List.size_toArray]
  unfold listL
  rw [List.length_append]
  have h1 := textsL_len ss (fun s h => Nat.le_trans (hs s h) (by decide))
  have h2 := numS_size ss.length
  have h3 : (numS ss.length).data.toList.length = (numS ss.length).size := by rw [Array.length_toList]; rfl
  omega
theorem parts_ok (g : Nat) (a : Option Addr) (ss : List ByteArray) (cap : Nat) (hn : ss.length ≤ 100) (hs : ∀ s ∈ ss, s.size ≤ 1000) (W : World) (hT : Tab W g) (hX : StrRow W a ss) :
    Calls Tryz.prog 20 #[.pointer (some ⟨g, 0, none⟩), .slice a ss.length cap] W fun e w' => e = .returned (.string (smv ⟨(listL ss).toArray⟩)) ∧ Below W.heap.size W w' := by
  have H1 : Hid (∀ w, StrRow w a ss → Calls Tryz.prog 42 #[.slice a ss.length cap] w fun e w' => e = .returned (.string ⟨(listL ss).toArray⟩) ∧ Below w.heap.size w w') := fun w h => list_any a ss cap (by omega) (fun s h => Nat.le_trans (hs s h) (by decide)) w h
  have hz := list_small hs
  have H2 : Hid (∀ w, Tab w g → Calls Tryz.prog 41 #[.pointer (some ⟨g, 0, none⟩), .string ⟨(listL ss).toArray⟩] w fun e w' => e = .returned (.string (smv ⟨(listL ss).toArray⟩)) ∧ Below w.heap.size w w') := fun w t => sum_ok g _ (by omega) w t
  have HT : Hid (Tab W g) := hT
  have HX : Hid (StrRow W a ss) := hX
  clear hT hX hz hs
  generalize smv ⟨(listL ss).toArray⟩ = r at *
  generalize (⟨(listL ss).toArray⟩ : ByteArray) = l at *
  go_enter Tryz.func20, Tryz.ntmps20
  go_wp2_with (first | (go_at_call 42; refine (H1.out _ HX.out).mono ?_; rintro e w1 ⟨rfl, hb1⟩) | (go_at_call 41; refine (H2.out _ (HT.out.below hb1)).mono ?_; rintro e w2 ⟨rfl, hb2⟩))
  go_ret
  exact ⟨rfl, hb1.trans (hb2.mono hb1.size)⟩
theorem parts_nil (a : Option Addr) (ss : List ByteArray) (cap : Nat) (hn : ss.length ≤ 100) (hs : ∀ s ∈ ss, s.size ≤ 1000) (W : World) (hX : StrRow W a ss) :
    Calls Tryz.prog 20 #[.pointer none, .slice a ss.length cap] W fun e w' => e = .returned (.string (ByteArray.mk #[])) ∧ Below W.heap.size W w' := by
  have H1 : Hid (∀ w, StrRow w a ss → Calls Tryz.prog 42 #[.slice a ss.length cap] w fun e w' => e = .returned (.string ⟨(listL ss).toArray⟩) ∧ Below w.heap.size w w') := fun w h => list_any a ss cap (by omega) (fun s h => Nat.le_trans (hs s h) (by decide)) w h
  have H2 : Hid (Same 41 #[.pointer none, .string ⟨(listL ss).toArray⟩] (.string (ByteArray.mk #[]))) := sum_nil11 _
  have HX : Hid (StrRow W a ss) := hX
  clear hX hs
  generalize (⟨(listL ss).toArray⟩ : ByteArray) = l at *
  go_enter Tryz.func20, Tryz.ntmps20
  go_wp2_with (first | (go_at_call 42; refine (H1.out _ HX.out).mono ?_; rintro e w1 ⟨rfl, hb1⟩) | (go_at_call 41; refine (H2.out.go _).mono ?_; rintro e w9 ⟨rfl, hw⟩; obtain rfl := hw.symm; clear hw))
  go_ret
  exact ⟨rfl, hb1⟩
/-- What lies in memory: the tables, the document's ones and where they are handed on, and the texts. -/
structure Sk (W w : World) (g gB cB gT cT : Nat) (gs cs : Nat → Nat) (b : Nat) (a : Option Addr) (ss : List ByteArray) : Prop where
  t : Tab w g
  r : Pk W w gB cB gT cT gs cs b
  x : StrRow w a ss
theorem Sk.below {W w w' : World} {g gB cB gT cT : Nat} {gs cs : Nat → Nat} {b : Nat} {a : Option Addr} {ss : List ByteArray} (h : Sk W w g gB cB gT cT gs cs b a ss) (q : Below w.heap.size w w') : Sk W w' g gB cB gT cT gs cs b a ss := ⟨h.t.below q, h.r.below q, h.x.below q⟩
theorem Sk.drew {W w : World} {g gB cB gT cT : Nat} {gs cs : Nat → Nat} {b : Nat} {a : Option Addr} {ss : List ByteArray} (h : Sk W w g gB cB gT cT gs cs b a ss) : Sk W w.drew g gB cB gT cT gs cs b a ss := ⟨h.t, h.r.drew, h.x⟩
theorem Sk.facts {W w : World} {g gB cB gT cT : Nat} {gs cs : Nat → Nat} {b : Nat} {a : Option Addr} {ss : List ByteArray} (h : Sk W w g gB cB gT cT gs cs b a ss) : w.cell? ⟨b, 0, none⟩ = some (.slice (some ⟨gB, 0, none⟩) 256 cB) ∧ w.cell? ⟨b, 1, none⟩ = some (.slice (some ⟨gT, 0, none⟩) 8 cT) := h.r.facts
theorem none_none11 : ((ByteArray.mk #[]) ++ (ByteArray.mk #[])).toList.isEmpty = true := by decide +kernel
end Go.Proofs.YtopmkooegpaeaaaGreat
