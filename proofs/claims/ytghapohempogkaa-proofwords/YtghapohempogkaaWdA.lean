/- The bytes of columns of words, pure. -/
import Derived.Test.YtghapohempogkaaPOctN
namespace Go.Proofs.Ytghapohempogkaa
open Go.RowKit
namespace Wd

theorem hidW {p : Prop} (h : p) : Hid p := h
theorem same_listW {a b : ByteArray} (h : a.data.toList = b.data.toList) : a = b := by
  obtain ⟨⟨a⟩⟩ := a
  obtain ⟨⟨b⟩⟩ := b
  simp at h
  rw [h]
theorem cat_listW (a b : ByteArray) : (a ++ b).data.toList = a.data.toList ++ b.data.toList := by simp
/-- A column, as elements. -/
def ecol (c : List Nat) : List (Nat × Nat) := c.map fun x => (0, x)
/-- Elements' words. -/
def los (es : List (Nat × Nat)) : List Nat := es.map Prod.snd
theorem los_ecol (c : List Nat) : los (ecol c) = c := by simp [los, ecol, Function.comp_def]
theorem ecol_len (c : List Nat) : (ecol c).length = c.length := by simp [ecol]
/-- Words, none too great. -/
def ltC (c : List Nat) : Prop := ∀ x ∈ c, x < 2 ^ 64
theorem ltE_ecol {c : List Nat} (h : ltC c) : ltE (ecol c) := fun e he => by
  obtain ⟨x, hx, rfl⟩ := List.mem_map.1 he
  exact ⟨by show 0 < 2 ^ 64; decide, h x hx⟩
theorem ofW6 {x : Nat} (h : x < 2 ^ 64) : ofB 6 0 (x : Int) = true := by
  unfold ofB
  have h1 : levelB 6 = true := by decide
  have h2 : decide ((x : Int) < 2 ^ (2 ^ (6 : Int).toNat)) = true := by
    have : (2 : Int) ^ (2 ^ (6 : Int).toNat) = 18446744073709551616 := by decide
    rw [this]
    exact decide_eq_true (by omega)
  rw [h1, h2]
  decide
theorem all6 {c : List Nat} (h : ltC c) : allB 6 (ecol c) = true := by
  unfold allB
  rw [List.all_eq_true]
  intro e he
  obtain ⟨x, hx, rfl⟩ := List.mem_map.1 he
  exact ofW6 (h x hx)
theorem hi6 {es : List (Nat × Nat)} (h : allB 6 es = true) : ecol (los es) = es := by
  unfold allB at h
  rw [List.all_eq_true] at h
  unfold ecol los
  rw [List.map_map]
  conv => rhs; rw [← List.map_id es]
  refine List.map_congr_left fun e he => ?_
  have := h e he
  unfold ofB at this
  simp at this
  obtain ⟨e1, e2⟩ := e
  simp at this ⊢
  omega
/-- A column's bytes. -/
def colS (c : List Nat) : ByteArray := elemsS 6 (ecol c)
theorem colS_list {c : List Nat} (h : ltC c) : (colS c).data.toList = (numS c.length).data.toList ++ elemsL 6 (ecol c) := by
  unfold colS elemsS
  rw [if_neg (by decide), if_pos (all6 h), ecol_len]
/-- Columns' bytes, without their number. -/
def colsL (cs : List (List Nat)) : List UInt8 := cs.flatMap fun c => (colS c).data.toList
theorem colsL_snoc (cs : List (List Nat)) (c : List Nat) : colsL (cs ++ [c]) = colsL cs ++ (colS c).data.toList := by simp [colsL]
def wordsS (cs : List (List Nat)) : ByteArray := ⟨((numS cs.length).data.toList ++ colsL cs).toArray⟩
theorem wordsS_list (cs : List (List Nat)) : (wordsS cs).data.toList = (numS cs.length).data.toList ++ colsL cs := by simp [wordsS]
/-- Columns, each short, and no word too great. -/
def okC (cs : List (List Nat)) : Prop := cs.length ≤ 4096 ∧ ∀ c ∈ cs, c.length ≤ 4096 ∧ ltC c
/-- What reading a column makes of a reader. -/
def rdCol (s : ByteArray) : ByteArray × Int × List Nat := ((rdElems s 0 6 4096).1, (rdElems s 0 6 4096).2.1, los ((rdElems s 0 6 4096).2.2.getD []))
def rdCols : Nat → ByteArray → List (List Nat) → ByteArray × Int × Option (List (List Nat))
  | 0, s, acc => (s, 0, some acc)
  | n + 1, s, acc => if (rdCol s).2.1 = 0 then rdCols n (rdCol s).1 (acc ++ [(rdCol s).2.2]) else ((rdCol s).1, (rdCol s).2.1, none)
def rdWords (s : ByteArray) : ByteArray × Int × Option (List (List Nat)) :=
  if (rdNum s 0 4096).2.1 = 0 then rdCols (rdNum s 0 4096).2.2.toNat (rdNum s 0 4096).1 [] else ((rdNum s 0 4096).1, (rdNum s 0 4096).2.1, some [])
/-- Are bytes those of columns? -/
def okW (s : ByteArray) : Bool := decide (endI (rdWords s).1 (rdWords s).2.1 = 0)
def colsOf (s : ByteArray) : List (List Nat) := (rdWords s).2.2.getD []
theorem end_zeroW {s : ByteArray} {e : Int} (h : endI s e = 0) : e = 0 ∧ s.size = 0 := by
  unfold endI at h
  split at h <;> (try split at h) <;> first | (exact ⟨by omega, by omega⟩) | omega | simp_all
theorem elems_backW (s : ByteArray) (l m : Int) (h : (rdElems s 0 l m).2.1 = 0) : ∃ es, (rdElems s 0 l m).2.2 = some es ∧ (es.length : Int) ≤ m ∧ ltE es ∧ allB l es = true ∧ s.data.toList = (elemsS l es).data.toList ++ (rdElems s 0 l m).1.data.toList := by
  unfold rdElems at h ⊢
  have hp := rdNum_pos s 0 m
  by_cases hh : (rdHas s 0 l).2.2 = true
  · rw [if_pos hh] at h ⊢
    have hlv : levelB l = true := by
      unfold rdHas at hh
      rw [if_pos rfl] at hh
      by_cases h0 : levelB l = true
      · exact h0
      · rw [if_neg h0] at hh; cases hh
    have hw : ¬ wideI l = 0 := by
      rcases level_cases l hlv with rfl | rfl | rfl | rfl | rfl | rfl | rfl | rfl <;> decide
    by_cases h1 : (rdNum s 0 m).2.1 = 0
    · rw [if_pos h1] at h ⊢
      obtain ⟨_, hm, e⟩ := rdNum_back s m h1
      obtain ⟨new, e1, e2, e3, e5, e4⟩ := rdElms_back l _ _ _ h
      have hl : (new.length : Int) = (rdNum s 0 m).2.2 := by rw [e2, Int.toNat_of_nonneg hp.1]
      refine ⟨new, by rw [e1]; simp, by omega, e3, e5, ?_⟩
      unfold elemsS
      rw [if_neg hw, if_pos e5, hl, e, e4]
      simp
    · rw [if_neg h1] at h
      exact absurd h h1
  · rw [if_neg hh] at h
    have := (rdHas_ok h).2
    rw [this] at hh
    exact absurd rfl hh
theorem col_fwd {s t : ByteArray} {c : List Nat} (h : c.length ≤ 4096) (hc : ltC c) (e : s.data.toList = (colS c).data.toList ++ t.data.toList) : rdCol s = (t, 0, c) := by
  have := elems_fwd (s := s) (t := t) (l := 6) (m := 4096) (ecol c) (ltE_ecol hc) (by decide) (all6 hc) (by rw [ecol_len]; omega) (by rw [ecol_len]; omega) e
  unfold rdCol
  rw [this]
  simp [los_ecol]
theorem cols_fwd {t : ByteArray} : ∀ (cs : List (List Nat)) (s : ByteArray) (acc : List (List Nat)), (∀ c ∈ cs, c.length ≤ 4096 ∧ ltC c) → s.data.toList = colsL cs ++ t.data.toList → rdCols cs.length s acc = (t, 0, some (acc ++ cs))
  | [], s, acc, _, e => by
    obtain rfl : s = t := same_listW (by rw [e]; simp [colsL])
    simp [rdCols]
  | c :: cs, s, acc, h, e => by
    have e1 := col_fwd (s := s) (t := ⟨(colsL cs ++ t.data.toList).toArray⟩) (h c (by simp)).1 (h c (by simp)).2 (by rw [e]; simp [colsL])
    have e2 := cols_fwd (t := t) cs ⟨(colsL cs ++ t.data.toList).toArray⟩ (acc ++ [c]) (fun d hd => h d (by simp [hd])) (by simp)
    rw [List.length_cons]
    unfold rdCols
    rw [e1]
    dsimp only
    rw [if_pos rfl, e2]
    simp
theorem words_fwd {cs : List (List Nat)} (h : okC cs) : rdWords (wordsS cs) = (⟨#[]⟩, 0, some cs) := by
  have e1 := num_fwd (s := wordsS cs) (t := ⟨(colsL cs).toArray⟩) (n := (cs.length : Int)) (m := 4096) (by omega) (by have := h.1; omega) (by have := h.1; omega) (by rw [wordsS_list])
  have e2 := cols_fwd (t := ⟨#[]⟩) cs ⟨(colsL cs).toArray⟩ [] h.2 (by simp)
  unfold rdWords
  rw [e1]
  dsimp only
  rw [if_pos rfl, Int.toNat_natCast, e2]
  simp
theorem words_ok {cs : List (List Nat)} (h : okC cs) : okW (wordsS cs) = true ∧ colsOf (wordsS cs) = cs := by
  unfold okW colsOf
  rw [words_fwd h]
  exact ⟨rfl, rfl⟩
theorem col_back {s : ByteArray} (h : (rdCol s).2.1 = 0) : (rdCol s).2.2.length ≤ 4096 ∧ ltC (rdCol s).2.2 ∧ s.data.toList = (colS (rdCol s).2.2).data.toList ++ (rdCol s).1.data.toList := by
  obtain ⟨es, e1, e2, e3, e4, e5⟩ := elems_backW s 6 4096 h
  have e6 : (rdCol s).2.2 = los es := by unfold rdCol; rw [e1]; rfl
  rw [e6]
  refine ⟨by simp [los]; omega, fun x hx => ?_, ?_⟩
  · obtain ⟨e, he, rfl⟩ := List.mem_map.1 hx
    exact (e3 e he).2
  · unfold colS
    rw [hi6 e4]
    exact e5
theorem cols_back : ∀ (n : Nat) (s : ByteArray) (acc : List (List Nat)), (rdCols n s acc).2.1 = 0 → ∃ new, (rdCols n s acc).2.2 = some (acc ++ new) ∧ new.length = n ∧ (∀ c ∈ new, c.length ≤ 4096 ∧ ltC c) ∧ s.data.toList = colsL new ++ (rdCols n s acc).1.data.toList
  | 0, s, acc, _ => ⟨[], by simp [rdCols], rfl, by simp, by simp [rdCols, colsL]⟩
  | n + 1, s, acc, h => by
    unfold rdCols at h ⊢
    by_cases h0 : (rdCol s).2.1 = 0
    · rw [if_pos h0] at h ⊢
      obtain ⟨h1, h2, h3⟩ := col_back h0
      obtain ⟨new, e1, e2, e3, e4⟩ := cols_back n _ _ h
      refine ⟨(rdCol s).2.2 :: new, by rw [e1]; simp, by simp [e2], fun c hc => ?_, ?_⟩
      · rcases List.mem_cons.1 hc with rfl | hc
        · exact ⟨h1, h2⟩
        · exact e3 c hc
      · rw [h3, e4]
        simp [colsL]
    · rw [if_neg h0] at h
      exact absurd h h0
theorem words_back {s : ByteArray} (h : okW s = true) : okC (colsOf s) ∧ wordsS (colsOf s) = s := by
  unfold okW at h
  obtain ⟨h4, hz⟩ := end_zeroW (of_decide_eq_true h)
  have ez : (rdWords s).1.data.toList = [] := by
    have : (rdWords s).1.data.toList.length = 0 := by rw [Array.length_toList]; exact hz
    exact List.length_eq_zero_iff.1 this
  unfold colsOf
  unfold rdWords at h4 ez ⊢
  have hp := rdNum_pos s 0 4096
  by_cases h1 : (rdNum s 0 4096).2.1 = 0
  · rw [if_pos h1] at h4 ez ⊢
    obtain ⟨_, hm, e⟩ := rdNum_back s 4096 h1
    obtain ⟨new, e1, e2, e3, e4⟩ := cols_back _ _ _ h4
    rw [e1]
    rw [ez, List.append_nil] at e4
    have hl : (new.length : Int) = (rdNum s 0 4096).2.2 := by rw [e2, Int.toNat_of_nonneg hp.1]
    refine ⟨⟨by simp; omega, by simpa using e3⟩, same_listW ?_⟩
    rw [wordsS_list]
    simp
    rw [hl, e, e4]
  · rw [if_neg h1] at h4
    exact absurd h4 h1
/-- What the document has put together: k columns, and j words of the next one. -/
def pre (cs : List (List Nat)) (k : Nat) : ByteArray := ⟨((numS cs.length).data.toList ++ colsL (cs.take k)).toArray⟩
def prej (cs : List (List Nat)) (k j : Nat) : ByteArray := ⟨((numS cs.length).data.toList ++ colsL (cs.take k) ++ (numS (cs.getD k []).length).data.toList ++ elemsL 6 (ecol ((cs.getD k []).take j))).toArray⟩
theorem pre_zero (cs : List (List Nat)) : pre cs 0 = numS cs.length := same_listW (by simp [pre, colsL])
theorem pre_all (cs : List (List Nat)) : pre cs cs.length = wordsS cs := same_listW (by simp [pre, wordsS])
theorem prej_zero (cs : List (List Nat)) (k : Nat) : prej cs k 0 = pre cs k ++ numS (cs.getD k []).length := same_listW (by rw [cat_listW]; simp [prej, pre, ecol, elemsL])
theorem take_snocW {α : Type} (l : List α) (z : α) (k : Nat) (h : k < l.length) : l.take (k + 1) = l.take k ++ [l.getD k z] := by
  rw [List.take_add_one]; simp [List.getD, h]
theorem prej_succ (cs : List (List Nat)) (k j : Nat) (h : j < (cs.getD k []).length) : prej cs k (j + 1) = prej cs k j ++ elemS 6 0 (((cs.getD k []).getD j 0 : Nat) : Int) := same_listW (by
  rw [cat_listW]
  unfold prej
  rw [take_snocW _ 0 j h]
  simp [ecol, elemsL])
theorem mem_at {cs : List (List Nat)} {k : Nat} (h : k < cs.length) : cs.getD k [] ∈ cs := by
  simp [List.getD, h]
theorem pre_succ (cs : List (List Nat)) (hc : okC cs) (k : Nat) (h : k < cs.length) : prej cs k (cs.getD k []).length = pre cs (k + 1) := same_listW (by
  unfold prej pre
  rw [take_snocW _ [] k h, colsL_snoc, colS_list (hc.2 _ (mem_at h)).2]
  simp)
theorem prej_size (cs : List (List Nat)) (k j : Nat) (hn : cs.length ≤ 5000) (hl : ∀ c ∈ cs, c.length ≤ 5000) : (prej cs k j).size ≤ 1000000000 := by
  have h1 := numS_size (cs.length : Int)
  have h2 := numS_size ((cs.getD k []).length : Int)
  have hc : ∀ ds : List (List Nat), (∀ c ∈ ds, c.length ≤ 5000) → (colsL ds).length ≤ ds.length * 100000 := by
    intro ds
    induction ds with
    | nil => intro _; simp [colsL]
    | cons c ds ih =>
      intro h
      have h3 := ih fun d hd => h d (by simp [hd])
      have h4 := h c (by simp)
      have h5 : (colS c).data.toList.length ≤ 4 + c.length * 16 := by
        unfold colS elemsS
        have := elemsL_len 6 (ecol c)
        rw [ecol_len] at this
        have h6 := numS_size ((ecol c).length : Int)
        have h7 : (numS ((ecol c).length : Int)).data.toList.length = (numS ((ecol c).length : Int)).size := by rw [Array.length_toList]; rfl
        split
        · simp
        · split
          · simp at h7 ⊢; omega
          · simp
      have e : (colsL (c :: ds)).length = (colS c).data.toList.length + (colsL ds).length := by simp [colsL]
      rw [e, List.length_cons]
      omega
  have h3 := hc (cs.take k) fun c hc => hl c (List.mem_of_mem_take hc)
  have h4 : (cs.take k).length ≤ 5000 := by rw [List.length_take]; omega
  have h5 := elemsL_len 6 (ecol ((cs.getD k []).take j))
  rw [ecol_len] at h5
  have h6 : (cs.getD k []).length ≤ 5000 := by
    by_cases hk : k < cs.length
    · exact hl _ (mem_at hk)
    · simp [List.getD, List.getElem?_eq_none (by omega : cs.length ≤ k)]
  have h7 : ((cs.getD k []).take j).length ≤ 5000 := by rw [List.length_take]; omega
  have e : (prej cs k j).size = ((numS cs.length).data.toList ++ colsL (cs.take k) ++ (numS (cs.getD k []).length).data.toList ++ elemsL 6 (ecol ((cs.getD k []).take j))).length := by
    unfold prej
    show Array.size _ = _
    rw [List.size_toArray]
  rw [e]
  have e1 : (numS (cs.length : Int)).data.toList.length = (numS (cs.length : Int)).size := by rw [Array.length_toList]; rfl
  have e2 : (numS ((cs.getD k []).length : Int)).data.toList.length = (numS ((cs.getD k []).length : Int)).size := by rw [Array.length_toList]; rfl
  rw [List.length_append, List.length_append, List.length_append, e1, e2]
  omega
end Wd
end Go.Proofs.Ytghapohempogkaa
