/- The contracts of the law's few and of merkle's Twin where there is none; the walk of MerkleBinds where there is no twin; over the seat's translation. -/
import Derived.Test.YtfepgoddoohpbaaGreatMkI
import Derived.Test.YtfepgoddoohpbaaGreatRsA
namespace Go.Proofs.YtfepgoddoohpbaaGreat
open Go.RowKit

/-- Is a way not more than the statement goes through? -/
def wayB (ss : List ByteArray) (h : Int) : Bool := fewB ss 6 100 && (decide (h ≤ 6) || decide (12 < h))
set_option maxHeartbeats 1000000 in
set_option maxRecDepth 100000 in
theorem few_way (a : Option Addr) (ss : List ByteArray) (cap : Nat) (h i : Int) (hm : ss.length ≤ maxLen) (W : World) (hX : StrRow W a ss) :
    Calls Tryz.prog 18 #[.agg #[.int .i64 h, .int .i64 i, .slice a ss.length cap]] W fun e w' => e = .returned (.bool (wayB ss h)) ∧ Below W.heap.size W w' := by
  have HF : Hid (∀ w, StrRow w a ss → Calls Tryz.prog 6 #[.slice a ss.length cap, .int .i64 6, .int .i64 100] w fun e w' => e = .returned (.bool (fewB ss 6 100)) ∧ w' = w) := fun w x => few_any a ss cap 6 100 hm w x
  have HX : Hid (StrRow W a ss) := hX
  have HV : Hid (wayB ss h = (fewB ss 6 100 && (decide (h ≤ 6) || decide (12 < h)))) := (rfl : wayB ss h = _)
  clear hX
  cases hf : fewB ss 6 100
  · rw [hf] at HF HV
    go_enter Tryz.func18, Tryz.ntmps18
    go_wp2_with (go_at_call 6; refine (HF.out _ (HX.out.below (below_laid _ _))).mono ?_; rintro e w9 ⟨rfl, hw⟩; obtain rfl := hw.symm; clear hw)
    go_ret
    exact ⟨by rw [HV.out]; rfl, below_laid _ _⟩
  · rw [hf] at HF HV
    by_cases h1 : h ≤ 6
    · have HW : Hid (wayB ss h = true) := by show _ = _; rw [HV.out]; simp [h1]
      go_enter Tryz.func18, Tryz.ntmps18
      go_wp2_with (go_at_call 6; refine (HF.out _ (HX.out.below (below_laid _ _))).mono ?_; rintro e w9 ⟨rfl, hw⟩; obtain rfl := hw.symm; clear hw)
      go_ret
      exact ⟨by rw [HW.out]; rfl, below_laid _ _⟩
    · by_cases h2 : 12 < h
      · have HW : Hid (wayB ss h = true) := by show _ = _; rw [HV.out]; simp [h2]
        go_enter Tryz.func18, Tryz.ntmps18
        go_wp2_with (go_at_call 6; refine (HF.out _ (HX.out.below (below_laid _ _))).mono ?_; rintro e w9 ⟨rfl, hw⟩; obtain rfl := hw.symm; clear hw)
        go_ret
        exact ⟨by rw [HW.out]; rfl, below_laid _ _⟩
      · skip
        go_enter Tryz.func18, Tryz.ntmps18
        go_wp2_with (go_at_call 6; refine (HF.out _ (HX.out.below (below_laid _ _))).mono ?_; rintro e w9 ⟨rfl, hw⟩; obtain rfl := hw.symm; clear hw)
        go_ret
        exact ⟨by rw [HV.out]; rfl, below_laid _ _⟩
/-- What Climb gives: its error, and the root. -/
abbrev Clm (g : Nat) (a : Option Addr) (n cap : Nat) (h i : Int) (l : ByteArray) (P : Nat → ByteArray) (r : ByteArray) (ec : Nat) : Prop :=
  ∀ w, Tab w g → Txs w a n P → Calls Tryz.prog 19 #[.pointer (some ⟨g, 0, none⟩), .int .i64 h, .int .i64 i, .string l, .slice a n cap] w fun e w' => ∃ v, e = .returned (.tuple #[.string r, v, .int .i64 (ec : Int)]) ∧ Below w.heap.size w w'
set_option maxHeartbeats 1600000 in
set_option maxRecDepth 100000 in
theorem twin_same (g n cap m co : Nat) (a o : Option Addr) (h i : Int) (s r1 r2 : ByteArray) (P Q : Nat → ByteArray) (c1 c2 : Nat) (hs : s.size ≤ 1000) 
    (HC : ∀ g, Clm g a n cap h i (lfv s) P r1 c1) (HD : ∀ g, Clm g o m co h i (lfv s) Q r2 c2) (W : World) (hT : Tab W g) (hX : Txs W a n P) (hY : Txs W o m Q) :
    Calls Tryz.prog 22 #[.pointer (some ⟨g, 0, none⟩), .int .i64 h, .int .i64 i, .string s, .string s, .slice a n cap, .slice o m co] W fun e w' => e = .returned (.tuple #[.string (ByteArray.mk #[]), .string (ByteArray.mk #[]), .bool false]) ∧ Below W.heap.size W w' := by
  have HA : Hid (∀ w, Tab w g → Calls Tryz.prog 23 #[.pointer (some ⟨g, 0, none⟩), .string s] w fun e w' => e = .returned (.string (lfv s)) ∧ Below w.heap.size w w') := fun w t => leaf_ok g s (by omega) w t
  have HCg : Hid (Clm g a n cap h i (lfv s) P r1 c1) := HC g
  have HDg : Hid (Clm g o m co h i (lfv s) Q r2 c2) := HD g
  have K : Hid (Tab W g ∧ Txs W a n P ∧ Txs W o m Q ∧ Below W.heap.size W W) := ⟨hT, hX, hY, Below.refl _ _⟩
  clear hT hX hY HC HD 
  generalize lfv s = la at *
  go_enter Tryz.func22, Tryz.ntmps22
  go_wp2_with (first
    | (go_at_call_of 19 (#[.pointer (some ⟨g, 0, none⟩), .int .i64 h, .int .i64 i, .string la, .slice a n cap] : Array Value); refine (HCg.out _ K.out.1 K.out.2.1).mono ?_; rintro e w' ⟨v1, rfl, hb'⟩; have K' : Hid (Tab w' g ∧ Txs w' a n P ∧ Txs w' o m Q ∧ Below W.heap.size W w') := ⟨K.out.1.below hb', K.out.2.1.below hb', K.out.2.2.1.below hb', K.out.2.2.2.trans (hb'.mono K.out.2.2.2.size)⟩; clear K hb'; have K := K'; clear K')
    | (go_at_call_of 19 (#[.pointer (some ⟨g, 0, none⟩), .int .i64 h, .int .i64 i, .string la, .slice o m co] : Array Value); refine (HDg.out _ K.out.1 K.out.2.2.1).mono ?_; rintro e w' ⟨v2, rfl, hb'⟩; have K' : Hid (Tab w' g ∧ Txs w' a n P ∧ Txs w' o m Q ∧ Below W.heap.size W w') := ⟨K.out.1.below hb', K.out.2.1.below hb', K.out.2.2.1.below hb', K.out.2.2.2.trans (hb'.mono K.out.2.2.2.size)⟩; clear K hb'; have K := K'; clear K')
    | (go_at_call_of 23 (#[.pointer (some ⟨g, 0, none⟩), .string s] : Array Value); refine (HA.out _ K.out.1).mono ?_; rintro e w' ⟨rfl, hb'⟩; have K' : Hid (Tab w' g ∧ Txs w' a n P ∧ Txs w' o m Q ∧ Below W.heap.size W w') := ⟨K.out.1.below hb', K.out.2.1.below hb', K.out.2.2.1.below hb', K.out.2.2.2.trans (hb'.mono K.out.2.2.2.size)⟩; clear K hb'; have K := K'; clear K'))
  go_ret3
  exact ⟨rfl, K.out.2.2.2⟩
set_option maxHeartbeats 1600000 in
set_option maxRecDepth 100000 in
theorem twin_e1 (g n cap m co : Nat) (a o : Option Addr) (h i : Int) (s t r1 r2 : ByteArray) (P Q : Nat → ByteArray) (c1 c2 : Nat) (hs : s.size ≤ 1000) (ht : t.size ≤ 1000) (hst : s ≠ t) (h1 : c1 ≠ 0)
    (HC : ∀ g, Clm g a n cap h i (lfv s) P r1 c1) (HD : ∀ g, Clm g o m co h i (lfv t) Q r2 c2) (W : World) (hT : Tab W g) (hX : Txs W a n P) (hY : Txs W o m Q) :
    Calls Tryz.prog 22 #[.pointer (some ⟨g, 0, none⟩), .int .i64 h, .int .i64 i, .string s, .string t, .slice a n cap, .slice o m co] W fun e w' => e = .returned (.tuple #[.string (ByteArray.mk #[]), .string (ByteArray.mk #[]), .bool false]) ∧ Below W.heap.size W w' := by
  have HA : Hid (∀ w, Tab w g → Calls Tryz.prog 23 #[.pointer (some ⟨g, 0, none⟩), .string s] w fun e w' => e = .returned (.string (lfv s)) ∧ Below w.heap.size w w') := fun w t => leaf_ok g s (by omega) w t
  have HB : Hid (∀ w, Tab w g → Calls Tryz.prog 23 #[.pointer (some ⟨g, 0, none⟩), .string t] w fun e w' => e = .returned (.string (lfv t)) ∧ Below w.heap.size w w') := fun w q => leaf_ok g t (by omega) w q
  have HCg : Hid (Clm g a n cap h i (lfv s) P r1 c1) := HC g
  have HDg : Hid (Clm g o m co h i (lfv t) Q r2 c2) := HD g
  have K : Hid (Tab W g ∧ Txs W a n P ∧ Txs W o m Q ∧ Below W.heap.size W W) := ⟨hT, hX, hY, Below.refl _ _⟩
  have e1 := tl_ne hst
  have e2 : ¬ (c1 : Int) = 0 := by omega
  clear hT hX hY HC HD hst
  generalize lfv s = la at *
  generalize lfv t = lb at *
  go_enter Tryz.func22, Tryz.ntmps22
  go_wp2_with (first
    | (go_at_call_of 19 (#[.pointer (some ⟨g, 0, none⟩), .int .i64 h, .int .i64 i, .string la, .slice a n cap] : Array Value); refine (HCg.out _ K.out.1 K.out.2.1).mono ?_; rintro e w' ⟨v1, rfl, hb'⟩; have K' : Hid (Tab w' g ∧ Txs w' a n P ∧ Txs w' o m Q ∧ Below W.heap.size W w') := ⟨K.out.1.below hb', K.out.2.1.below hb', K.out.2.2.1.below hb', K.out.2.2.2.trans (hb'.mono K.out.2.2.2.size)⟩; clear K hb'; have K := K'; clear K')
    | (go_at_call_of 19 (#[.pointer (some ⟨g, 0, none⟩), .int .i64 h, .int .i64 i, .string lb, .slice o m co] : Array Value); refine (HDg.out _ K.out.1 K.out.2.2.1).mono ?_; rintro e w' ⟨v2, rfl, hb'⟩; have K' : Hid (Tab w' g ∧ Txs w' a n P ∧ Txs w' o m Q ∧ Below W.heap.size W w') := ⟨K.out.1.below hb', K.out.2.1.below hb', K.out.2.2.1.below hb', K.out.2.2.2.trans (hb'.mono K.out.2.2.2.size)⟩; clear K hb'; have K := K'; clear K')
    | (go_at_call_of 23 (#[.pointer (some ⟨g, 0, none⟩), .string s] : Array Value); refine (HA.out _ K.out.1).mono ?_; rintro e w' ⟨rfl, hb'⟩; have K' : Hid (Tab w' g ∧ Txs w' a n P ∧ Txs w' o m Q ∧ Below W.heap.size W w') := ⟨K.out.1.below hb', K.out.2.1.below hb', K.out.2.2.1.below hb', K.out.2.2.2.trans (hb'.mono K.out.2.2.2.size)⟩; clear K hb'; have K := K'; clear K')
    | (go_at_call_of 23 (#[.pointer (some ⟨g, 0, none⟩), .string t] : Array Value); refine (HB.out _ K.out.1).mono ?_; rintro e w' ⟨rfl, hb'⟩; have K' : Hid (Tab w' g ∧ Txs w' a n P ∧ Txs w' o m Q ∧ Below W.heap.size W w') := ⟨K.out.1.below hb', K.out.2.1.below hb', K.out.2.2.1.below hb', K.out.2.2.2.trans (hb'.mono K.out.2.2.2.size)⟩; clear K hb'; have K := K'; clear K'))
  go_ret3
  exact ⟨rfl, K.out.2.2.2⟩
set_option maxHeartbeats 1600000 in
set_option maxRecDepth 100000 in
theorem twin_e2 (g n cap m co : Nat) (a o : Option Addr) (h i : Int) (s t r1 r2 : ByteArray) (P Q : Nat → ByteArray) (c1 c2 : Nat) (hs : s.size ≤ 1000) (ht : t.size ≤ 1000) (hst : s ≠ t) (h1 : c1 = 0) (h2 : c2 ≠ 0)
    (HC : ∀ g, Clm g a n cap h i (lfv s) P r1 c1) (HD : ∀ g, Clm g o m co h i (lfv t) Q r2 c2) (W : World) (hT : Tab W g) (hX : Txs W a n P) (hY : Txs W o m Q) :
    Calls Tryz.prog 22 #[.pointer (some ⟨g, 0, none⟩), .int .i64 h, .int .i64 i, .string s, .string t, .slice a n cap, .slice o m co] W fun e w' => e = .returned (.tuple #[.string (ByteArray.mk #[]), .string (ByteArray.mk #[]), .bool false]) ∧ Below W.heap.size W w' := by
  have HA : Hid (∀ w, Tab w g → Calls Tryz.prog 23 #[.pointer (some ⟨g, 0, none⟩), .string s] w fun e w' => e = .returned (.string (lfv s)) ∧ Below w.heap.size w w') := fun w t => leaf_ok g s (by omega) w t
  have HB : Hid (∀ w, Tab w g → Calls Tryz.prog 23 #[.pointer (some ⟨g, 0, none⟩), .string t] w fun e w' => e = .returned (.string (lfv t)) ∧ Below w.heap.size w w') := fun w q => leaf_ok g t (by omega) w q
  have HCg : Hid (Clm g a n cap h i (lfv s) P r1 c1) := HC g
  have HDg : Hid (Clm g o m co h i (lfv t) Q r2 c2) := HD g
  have K : Hid (Tab W g ∧ Txs W a n P ∧ Txs W o m Q ∧ Below W.heap.size W W) := ⟨hT, hX, hY, Below.refl _ _⟩
  have e1 := tl_ne hst
  have e2 : ¬ (c2 : Int) = 0 := by omega
  subst h1
  clear hT hX hY HC HD hst
  generalize lfv s = la at *
  generalize lfv t = lb at *
  go_enter Tryz.func22, Tryz.ntmps22
  go_wp2_with (first
    | (go_at_call_of 19 (#[.pointer (some ⟨g, 0, none⟩), .int .i64 h, .int .i64 i, .string la, .slice a n cap] : Array Value); refine (HCg.out _ K.out.1 K.out.2.1).mono ?_; rintro e w' ⟨v1, rfl, hb'⟩; have K' : Hid (Tab w' g ∧ Txs w' a n P ∧ Txs w' o m Q ∧ Below W.heap.size W w') := ⟨K.out.1.below hb', K.out.2.1.below hb', K.out.2.2.1.below hb', K.out.2.2.2.trans (hb'.mono K.out.2.2.2.size)⟩; clear K hb'; have K := K'; clear K')
    | (go_at_call_of 19 (#[.pointer (some ⟨g, 0, none⟩), .int .i64 h, .int .i64 i, .string lb, .slice o m co] : Array Value); refine (HDg.out _ K.out.1 K.out.2.2.1).mono ?_; rintro e w' ⟨v2, rfl, hb'⟩; have K' : Hid (Tab w' g ∧ Txs w' a n P ∧ Txs w' o m Q ∧ Below W.heap.size W w') := ⟨K.out.1.below hb', K.out.2.1.below hb', K.out.2.2.1.below hb', K.out.2.2.2.trans (hb'.mono K.out.2.2.2.size)⟩; clear K hb'; have K := K'; clear K')
    | (go_at_call_of 23 (#[.pointer (some ⟨g, 0, none⟩), .string s] : Array Value); refine (HA.out _ K.out.1).mono ?_; rintro e w' ⟨rfl, hb'⟩; have K' : Hid (Tab w' g ∧ Txs w' a n P ∧ Txs w' o m Q ∧ Below W.heap.size W w') := ⟨K.out.1.below hb', K.out.2.1.below hb', K.out.2.2.1.below hb', K.out.2.2.2.trans (hb'.mono K.out.2.2.2.size)⟩; clear K hb'; have K := K'; clear K')
    | (go_at_call_of 23 (#[.pointer (some ⟨g, 0, none⟩), .string t] : Array Value); refine (HB.out _ K.out.1).mono ?_; rintro e w' ⟨rfl, hb'⟩; have K' : Hid (Tab w' g ∧ Txs w' a n P ∧ Txs w' o m Q ∧ Below W.heap.size W w') := ⟨K.out.1.below hb', K.out.2.1.below hb', K.out.2.2.1.below hb', K.out.2.2.2.trans (hb'.mono K.out.2.2.2.size)⟩; clear K hb'; have K := K'; clear K'))
  go_ret3
  exact ⟨rfl, K.out.2.2.2⟩
set_option maxHeartbeats 1600000 in
set_option maxRecDepth 100000 in
theorem twin_r (g n cap m co : Nat) (a o : Option Addr) (h i : Int) (s t r1 r2 : ByteArray) (P Q : Nat → ByteArray) (c1 c2 : Nat) (hs : s.size ≤ 1000) (ht : t.size ≤ 1000) (hst : s ≠ t) (h1 : c1 = 0) (h2 : c2 = 0) (hr : r1 ≠ r2)
    (HC : ∀ g, Clm g a n cap h i (lfv s) P r1 c1) (HD : ∀ g, Clm g o m co h i (lfv t) Q r2 c2) (W : World) (hT : Tab W g) (hX : Txs W a n P) (hY : Txs W o m Q) :
    Calls Tryz.prog 22 #[.pointer (some ⟨g, 0, none⟩), .int .i64 h, .int .i64 i, .string s, .string t, .slice a n cap, .slice o m co] W fun e w' => e = .returned (.tuple #[.string (ByteArray.mk #[]), .string (ByteArray.mk #[]), .bool false]) ∧ Below W.heap.size W w' := by
  have HA : Hid (∀ w, Tab w g → Calls Tryz.prog 23 #[.pointer (some ⟨g, 0, none⟩), .string s] w fun e w' => e = .returned (.string (lfv s)) ∧ Below w.heap.size w w') := fun w t => leaf_ok g s (by omega) w t
  have HB : Hid (∀ w, Tab w g → Calls Tryz.prog 23 #[.pointer (some ⟨g, 0, none⟩), .string t] w fun e w' => e = .returned (.string (lfv t)) ∧ Below w.heap.size w w') := fun w q => leaf_ok g t (by omega) w q
  have HCg : Hid (Clm g a n cap h i (lfv s) P r1 c1) := HC g
  have HDg : Hid (Clm g o m co h i (lfv t) Q r2 c2) := HD g
  have K : Hid (Tab W g ∧ Txs W a n P ∧ Txs W o m Q ∧ Below W.heap.size W W) := ⟨hT, hX, hY, Below.refl _ _⟩
  have e1 := tl_ne hst
  have e2 := tl_ne hr
  subst h1
  subst h2
  clear hT hX hY HC HD hst hr
  generalize lfv s = la at *
  generalize lfv t = lb at *
  go_enter Tryz.func22, Tryz.ntmps22
  go_wp2_with (first
    | (go_at_call_of 19 (#[.pointer (some ⟨g, 0, none⟩), .int .i64 h, .int .i64 i, .string la, .slice a n cap] : Array Value); refine (HCg.out _ K.out.1 K.out.2.1).mono ?_; rintro e w' ⟨v1, rfl, hb'⟩; have K' : Hid (Tab w' g ∧ Txs w' a n P ∧ Txs w' o m Q ∧ Below W.heap.size W w') := ⟨K.out.1.below hb', K.out.2.1.below hb', K.out.2.2.1.below hb', K.out.2.2.2.trans (hb'.mono K.out.2.2.2.size)⟩; clear K hb'; have K := K'; clear K')
    | (go_at_call_of 19 (#[.pointer (some ⟨g, 0, none⟩), .int .i64 h, .int .i64 i, .string lb, .slice o m co] : Array Value); refine (HDg.out _ K.out.1 K.out.2.2.1).mono ?_; rintro e w' ⟨v2, rfl, hb'⟩; have K' : Hid (Tab w' g ∧ Txs w' a n P ∧ Txs w' o m Q ∧ Below W.heap.size W w') := ⟨K.out.1.below hb', K.out.2.1.below hb', K.out.2.2.1.below hb', K.out.2.2.2.trans (hb'.mono K.out.2.2.2.size)⟩; clear K hb'; have K := K'; clear K')
    | (go_at_call_of 23 (#[.pointer (some ⟨g, 0, none⟩), .string s] : Array Value); refine (HA.out _ K.out.1).mono ?_; rintro e w' ⟨rfl, hb'⟩; have K' : Hid (Tab w' g ∧ Txs w' a n P ∧ Txs w' o m Q ∧ Below W.heap.size W w') := ⟨K.out.1.below hb', K.out.2.1.below hb', K.out.2.2.1.below hb', K.out.2.2.2.trans (hb'.mono K.out.2.2.2.size)⟩; clear K hb'; have K := K'; clear K')
    | (go_at_call_of 23 (#[.pointer (some ⟨g, 0, none⟩), .string t] : Array Value); refine (HB.out _ K.out.1).mono ?_; rintro e w' ⟨rfl, hb'⟩; have K' : Hid (Tab w' g ∧ Txs w' a n P ∧ Txs w' o m Q ∧ Below W.heap.size W w') := ⟨K.out.1.below hb', K.out.2.1.below hb', K.out.2.2.1.below hb', K.out.2.2.2.trans (hb'.mono K.out.2.2.2.size)⟩; clear K hb'; have K := K'; clear K'))
  go_ret3
  exact ⟨rfl, K.out.2.2.2⟩
/-- Two ways without a twin. -/
def NoTw (s t r1 r2 : ByteArray) (c1 c2 : Nat) : Prop := c1 ≠ 0 ∨ c2 ≠ 0 ∨ r1 ≠ r2 ∨ s = t
theorem twin_no (g n cap m co : Nat) (a o : Option Addr) (h i : Int) (s t r1 r2 : ByteArray) (P Q : Nat → ByteArray) (c1 c2 : Nat) (hs : s.size ≤ 1000) (ht : t.size ≤ 1000) (hN : NoTw s t r1 r2 c1 c2)
    (HC : ∀ g, Clm g a n cap h i (lfv s) P r1 c1) (HD : ∀ g, Clm g o m co h i (lfv t) Q r2 c2) (W : World) (hT : Tab W g) (hX : Txs W a n P) (hY : Txs W o m Q) :
    Calls Tryz.prog 22 #[.pointer (some ⟨g, 0, none⟩), .int .i64 h, .int .i64 i, .string s, .string t, .slice a n cap, .slice o m co] W fun e w' => e = .returned (.tuple #[.string (ByteArray.mk #[]), .string (ByteArray.mk #[]), .bool false]) ∧ Below W.heap.size W w' := by
  by_cases hst : s = t
  · subst hst
    exact twin_same g n cap m co a o h i s r1 r2 P Q c1 c2 hs HC HD W hT hX hY
  · by_cases h1 : c1 = 0
    · by_cases h2 : c2 = 0
      · have hr : r1 ≠ r2 := by
          rcases hN with q | q | q | q
          · exact absurd h1 q
          · exact absurd h2 q
          · exact q
          · exact absurd q hst
        exact twin_r g n cap m co a o h i s t r1 r2 P Q c1 c2 hs ht hst h1 h2 hr HC HD W hT hX hY
      · exact twin_e2 g n cap m co a o h i s t r1 r2 P Q c1 c2 hs ht hst h1 h2 HC HD W hT hX hY
    · exact twin_e1 g n cap m co a o h i s t r1 r2 P Q c1 c2 hs ht hst h1 HC HD W hT hX hY
end Go.Proofs.YtfepgoddoohpbaaGreat
