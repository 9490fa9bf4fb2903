/- OctetBack gives true, whatever the input. -/
import Derived.Test.YtccpbpajappckaaOrL
import Derived.Test.YtccpbpajappckaaFew
namespace Go.Proofs.Ytccpbpajappckaa
open Go.RowKit

theorem empty_listM : (ByteArray.mk #[]).toList = [] := by decide +kernel
theorem listL_len (ss : List ByteArray) (h : ∀ s ∈ ss, s.size ≤ 300) : (textsL ss).length ≤ 304 * ss.length := by
  induction ss with
  | nil => simp [textsL]
  | cons x ss ih =>
    have h1 := ih fun s hs => h s (List.mem_cons_of_mem _ hs)
    have h2 := h x (List.mem_cons_self ..)
    have h3 := numS_size (x.size : Int)
    have e : (textsL (x :: ss)).length = ((numS (x.size : Int)).data.toList ++ x.data.toList).length + (textsL ss).length := by
      unfold textsL
      rw [List.flatMap_cons, List.length_append]
    rw [e, List.length_append, List.length_cons]
    have e1 : (numS (x.size : Int)).data.toList.length = (numS (x.size : Int)).size := by rw [Array.length_toList]; rfl
    have e2 : x.data.toList.length = x.size := by rw [Array.length_toList]; rfl
    rw [e1, e2]
    omega
theorem num_empty {n : Int} : (numS n).toList = [] ↔ ¬ (0 ≤ n ∧ n ≤ 2147483647) := by
  constructor
  · intro h h2
    rw [numS_ok n h2.1 h2.2, ByteArray.toList_eq] at h
    have : (strOfNums (numL n)).data.toList.length = 4 := by simp [strOfNums, numL]
    rw [h] at this
    cases this
  · intro h
    rw [numS_bad n (by omega)]
    exact empty_listM
theorem ob_any (n l : Int) (a c : Option Addr) (cap capx : Nat) (ss : List ByteArray) (es : List (Nat × Nat)) (hs : ss.length ≤ maxLen) (hes : ltE es) (W : World) (hR : StrRow W a ss) (hE : ERow W c es) :
    Calls Try.prog 4 #[.int .i64 n, .slice a ss.length cap, .agg #[.int .i64 l, .slice c es.length capx]] W fun e w' => e = .returned (.bool true) ∧ Below W.heap.size W w' := by
  have HF : ∀ w, Below W.heap.size W w → Calls Try.prog 12 #[.slice a ss.length cap, .int .i64 20, .int .i64 300] w fun e w' => e = .returned (.bool (fewB ss 20 300)) ∧ w' = w := fun w hb => few_any a ss cap 20 300 hs w (hR.belowR hb)
  cases hf : fewB ss 20 300
  · rw [hf] at HF
    exact ob_few n l a c ss.length cap es.length capx W HF
  · rw [hf] at HF
    obtain ⟨hl, hz⟩ := fewB_of hf
    by_cases h50 : 50 < es.length
    · exact ob_many n l a c ss.length cap es.length capx W HF (by omega)
    · have HN : ∀ w, Calls Try.prog 13 #[.int .i64 n] w fun e w' => e = .returned (.string (numS n)) ∧ Below w.heap.size w w' := fun w => num_any n w
      by_cases hn : 0 ≤ n ∧ n ≤ 2147483647
      · have HE : ∀ w, Below W.heap.size W w → Calls Try.prog 14 #[.int .i64 l, .slice c es.length capx] w fun e w' => e = .returned (.string (elemsS l es)) ∧ Below w.heap.size w w' := fun w hb => oelems l c capx es.length es rfl hes (by omega) w (hE.below hb)
        have hA : ((numS n).toList == []) = false := by
          rw [beq_eq_false_iff_ne]
          exact fun h => num_empty.1 h hn
        by_cases hw : wideI l = 0 ∨ ¬ allB l es = true
        · have hC : (elemsS l es).toList = [] := by
            unfold elemsS
            by_cases h0 : wideI l = 0
            · rw [if_pos h0]; exact empty_listM
            · rw [if_neg h0, if_neg (by rcases hw with h | h; exact absurd h h0; exact h)]; exact empty_listM
          exact ob_els n l a c ss.length cap es.length capx W HF (by omega) _ _ hA hC HN HE
        · have hw0 : ¬ wideI l = 0 := fun h => hw (.inl h)
          have ha : allB l es = true := by
            cases h : allB l es
            · exact absurd (.inr (by rw [h]; decide)) hw
            · rfl
          have hz2 : ∀ s ∈ ss, s.size ≤ 300 := fun s h => by have := hz s h; omega
          have hLB := listL_len ss hz2
          have zN := numS_size n
          have zM := numS_size (ss.length : Int)
          have zB : (⟨(listL ss).toArray⟩ : ByteArray).size ≤ 10000 := by
            show (listL ss).toArray.size ≤ 10000
            rw [List.size_toArray]
            unfold listL
            rw [List.length_append]
            have e1 : (numS (ss.length : Int)).data.toList.length = (numS (ss.length : Int)).size := by rw [Array.length_toList]; rfl
            rw [e1]
            omega
          have zD : (textS { data := #[101, 110, 100] }).size ≤ 7 := by decide +kernel
          have hCne : ((elemsS l es).toList == []) = false := by
            rw [beq_eq_false_iff_ne]
            intro h
            have hd : (elemsS l es).data.toList = (numS es.length).data.toList ++ elemsL l es := by
              unfold elemsS; rw [if_neg hw0, if_pos ha]
            rw [ByteArray.toList_eq, hd] at h
            have h1 := (List.append_eq_nil_iff.1 h).1
            rw [numS_ok _ (by omega) (by omega)] at h1
            simp [strOfNums, numL] at h1
          have zC : (elemsS l es).size ≤ 1000 := by
            have hd : (elemsS l es).data.toList = (numS es.length).data.toList ++ elemsL l es := by
              unfold elemsS; rw [if_neg hw0, if_pos ha]
            have e0 : (elemsS l es).size = (elemsS l es).data.toList.length := by rw [Array.length_toList]; rfl
            rw [e0, hd, List.length_append]
            have e1 : (numS (es.length : Int)).data.toList.length = (numS (es.length : Int)).size := by rw [Array.length_toList]; rfl
            have z1 := numS_size (es.length : Int)
            have z2 := elemsL_len l es
            rw [e1]; omega
          have d0 : ∀ x y : ByteArray, (x ++ y).data.toList = x.data.toList ++ y.data.toList := fun x y => by simp
          have eL : (⟨(listL ss).toArray⟩ : ByteArray).data.toList = listL ss := rfl
          have eT : (textS { data := #[101, 110, 100] }).data.toList = (numS (({ data := #[101, 110, 100] } : ByteArray).size : Int)).data.toList ++ ({ data := #[101, 110, 100] } : ByteArray).data.toList ++ (⟨#[]⟩ : ByteArray).data.toList := by
            show (numS _ ++ _).data.toList = _
            rw [d0]; simp
          have f1 := num_fwd (s := numS n ++ ⟨(listL ss).toArray⟩ ++ elemsS l es ++ textS { data := #[101, 110, 100] }) (t := ⟨(listL ss).toArray⟩ ++ (elemsS l es ++ textS { data := #[101, 110, 100] })) (m := n) hn.1 hn.2 (Int.le_refl _) (by simp only [d0, List.append_assoc])
          have f2 := list_fwd (s := ⟨(listL ss).toArray⟩ ++ (elemsS l es ++ textS { data := #[101, 110, 100] })) (t := elemsS l es ++ textS { data := #[101, 110, 100] }) (m := (ss.length : Int)) (long := 300) ss (Int.le_refl _) (by omega) (fun u hu => ⟨hz u hu, by have := hz2 u hu; omega⟩) (by rw [d0])
          have f3 := elems_fwd (s := elemsS l es ++ textS { data := #[101, 110, 100] }) (t := textS { data := #[101, 110, 100] }) (m := (es.length : Int)) es hes hw0 ha (Int.le_refl _) (by omega) (by rw [d0])
          have f4 := text_fwd (s := textS { data := #[101, 110, 100] }) (t := ⟨#[]⟩) (u := { data := #[101, 110, 100] }) (m := 3) (by decide) (by decide) eT
          refine ob_main n l a c ss.length cap es.length capx W HF (by omega) (numS n) ⟨(listL ss).toArray⟩ (elemsS l es) (textS { data := #[101, 110, 100] }) (⟨(listL ss).toArray⟩ ++ (elemsS l es ++ textS { data := #[101, 110, 100] })) (elemsS l es ++ textS { data := #[101, 110, 100] }) (textS { data := #[101, 110, 100] }) { data := #[101, 110, 100] } hA hCne (by decide +kernel) (by omega) (by omega) (by omega) ss es rfl (by omega) rfl hR hE HN HE (fun w hb => list_any a ss cap (by omega) (fun s h => by have := hz2 s h; omega) w (hR.belowR hb)) (fun w => text_any _ (by decide) w) (fun q w h => ?_) (fun q w h => ?_) (fun q w h => ?_) (fun q w h => ?_)
          · have := rd_num q _ 0 n w h
            rw [f1] at this
            exact this
          · have := rd_listN q _ 0 (ss.length : Int) 300 w h
            rw [f2] at this
            exact this
          · have := rd_elemsN q _ 0 l (es.length : Int) w h
            rw [f3] at this
            exact this
          · have := rd_text q _ 0 3 w h
            rw [f4] at this
            exact this
      · exact ob_num n l a c ss.length cap es.length capx W HF (by omega) _ (num_empty.2 hn) HN
end Go.Proofs.Ytccpbpajappckaa
