/- Contracts of proof.numbers, Fits, Params and of the document's Fits and Bytes over the seat's translation. -/
import Derived.Test.YtghapohempogkaaPaA
import Derived.Test.YtghapohempogkaaOctL
import Derived.Test.YtghapohempogkaaPRefA
import Derived.Test.YtghapohempogkaaIvB
namespace Go.Proofs.Ytghapohempogkaa
open Go.RowKit
namespace Pa

theorem hidA {p : Prop} (h : p) : Hid p := h
set_option maxHeartbeats 4000000 in
theorem fits_any (l r t q : Int) : Ret 21 #[.agg #[.int .i64 l, .int .i64 r, .int .i64 t, .int .i64 q]] (.bool (fitsB l r t q)) := by
  intro W
  by_cases h0 : (2 : Int) ≤ l
  rotate_left
  · have g0 : l < 2 := by omega
    rw [show fitsB l r t q = false from by unfold fitsB; first | exact decide_eq_true (by omega) | exact decide_eq_false (by omega)]
    go_enter Try.func21, Try.ntmps21
    go_wp2
    go_ret
    exact ⟨rfl, (Below.refl _ _).alloc (Nat.le_refl _) _⟩
  by_cases h1 : l ≤ 7
  rotate_left
  · have g1 : (7 : Int) < l := by omega
    rw [show fitsB l r t q = false from by unfold fitsB; first | exact decide_eq_true (by omega) | exact decide_eq_false (by omega)]
    go_enter Try.func21, Try.ntmps21
    go_wp2
    go_ret
    exact ⟨rfl, (Below.refl _ _).alloc (Nat.le_refl _) _⟩
  by_cases h2 : (0 : Int) ≤ r
  rotate_left
  · have g2 : r < 0 := by omega
    rw [show fitsB l r t q = false from by unfold fitsB; first | exact decide_eq_true (by omega) | exact decide_eq_false (by omega)]
    go_enter Try.func21, Try.ntmps21
    go_wp2
    go_ret
    exact ⟨rfl, (Below.refl _ _).alloc (Nat.le_refl _) _⟩
  by_cases h3 : r ≤ 6
  rotate_left
  · have g3 : (6 : Int) < r := by omega
    rw [show fitsB l r t q = false from by unfold fitsB; first | exact decide_eq_true (by omega) | exact decide_eq_false (by omega)]
    go_enter Try.func21, Try.ntmps21
    go_wp2
    go_ret
    exact ⟨rfl, (Below.refl _ _).alloc (Nat.le_refl _) _⟩
  by_cases h4 : (1 : Int) ≤ t
  rotate_left
  · have g4 : t < 1 := by omega
    rw [show fitsB l r t q = false from by unfold fitsB; first | exact decide_eq_true (by omega) | exact decide_eq_false (by omega)]
    go_enter Try.func21, Try.ntmps21
    go_wp2
    go_ret
    exact ⟨rfl, (Below.refl _ _).alloc (Nat.le_refl _) _⟩
  by_cases h5 : t ≤ 3
  rotate_left
  · have g5 : (3 : Int) < t := by omega
    rw [show fitsB l r t q = false from by unfold fitsB; first | exact decide_eq_true (by omega) | exact decide_eq_false (by omega)]
    go_enter Try.func21, Try.ntmps21
    go_wp2
    go_ret
    exact ⟨rfl, (Below.refl _ _).alloc (Nat.le_refl _) _⟩
  by_cases h6 : (1 : Int) ≤ q
  rotate_left
  · have g6 : q < 1 := by omega
    rw [show fitsB l r t q = false from by unfold fitsB; first | exact decide_eq_true (by omega) | exact decide_eq_false (by omega)]
    go_enter Try.func21, Try.ntmps21
    go_wp2
    go_ret
    exact ⟨rfl, (Below.refl _ _).alloc (Nat.le_refl _) _⟩
  by_cases h7 : q ≤ 64
  rotate_left
  · have g7 : (64 : Int) < q := by omega
    rw [show fitsB l r t q = false from by unfold fitsB; first | exact decide_eq_true (by omega) | exact decide_eq_false (by omega)]
    go_enter Try.func21, Try.ntmps21
    go_wp2
    go_ret
    exact ⟨rfl, (Below.refl _ _).alloc (Nat.le_refl _) _⟩
  rw [show fitsB l r t q = true from by unfold fitsB; first | exact decide_eq_true (by omega) | exact decide_eq_false (by omega)]
  go_enter Try.func21, Try.ntmps21
  go_wp2
  go_ret
  exact ⟨rfl, (Below.refl _ _).alloc (Nat.le_refl _) _⟩
/-- Numbers' bytes. -/
def numsL (ns : List Int) : List UInt8 := ns.flatMap fun n => (numS n).data.toList
theorem numsL_snoc (ns : List Int) (n : Int) : numsL (ns ++ [n]) = numsL ns ++ (numS n).data.toList := by simp [numsL]
theorem numsL_len (ns : List Int) : (numsL ns).length ≤ ns.length * 4 := by
  induction ns with
  | nil => simp [numsL]
  | cons n l ih =>
    have h := numS_size n
    have e : (numsL (n :: l)).length = (numS n).data.toList.length + (numsL l).length := by simp [numsL]
    have e1 : (numS n).data.toList.length = (numS n).size := by rw [Array.length_toList]; rfl
    rw [e, e1, List.length_cons]; omega
theorem numsL_four (l r t q : Int) : (⟨(numsL [l, r, t, q]).toArray⟩ : ByteArray) = bytesP l r t q := same_list (by
  rw [bytes_list]
  simp [numsL])
theorem take_snocN (ns : List Int) (k : Nat) (h : k < ns.length) : ns.take (k + 1) = ns.take k ++ [ns.getD k 0] := by
  rw [List.take_add_one]; simp [List.getD, h]
set_option maxHeartbeats 1000000 in
set_option maxRecDepth 100000 in
theorem numbers_row (b off : Nat) (ns : List Int) (cap : Nat) (hn : ns.length ≤ 1000) (w : World) (hb : b < w.heap.size) (hc : ∀ i, i < ns.length → w.cell? ⟨b, off + i, none⟩ = some (.int .i64 (ns.getD i 0))) :
    Calls Try.prog 22 #[.slice (some ⟨b, off, none⟩) ns.length cap] w fun e w' => e = .returned (.string ⟨(numsL ns).toArray⟩) ∧ Below w.heap.size w w' := by
  have HC := hidA hc
  clear hc
  have h0 := hidA (Lib.IsBuilderF.of (Lib.fresh_isBuilder 58 5 w))
  go_enter Try.func22, Try.ntmps22
  go_wp2_with fail
  go_loopw [8] (fun v wr => ∃ k : Nat, k ≤ ns.length ∧ v = .int .i64 k ∧ Lib.IsBuilderF 58 5 w.heap.size w.heap.size (Lib.byteCells (numsL (ns.take k))) wr ∧ Below w.heap.size w wr) (fun v _ => ns.length - (intOf v).toNat)
  case atStart => exact ⟨0, Nat.zero_le _, rfl, h0.out, (Below.refl _ _).alloc (Nat.le_refl _) _⟩
  case round =>
    clear h0
    obtain ⟨k, hk, rfl, hI, hbw⟩ := hrel
    by_cases hlt : k < ns.length
    · have hcell : wr.cell? ⟨b, off + k, none⟩ = some (.int .i64 (ns.getD k 0)) := by
        rw [hbw.cell (p := ⟨b, off + k, none⟩) hb]; exact HC.out k hlt
      have hlen := numsL_len (ns.take k)
      have hlk : (ns.take k).length = k := by simp; omega
      rw [hlk] at hlen
      have H := hidA (take_snocN ns k hlt)
      clear hlk
      generalize ns.getD k 0 = n at *
      generalize ns.take k = pre at *
      have hz2 := numS_size n
      go_wp2_with (go_at_call 26; refine (num_any _ _).mono ?_; rintro e w3 ⟨rfl, hb3⟩)
      refine (builder_WriteString w.heap.size w.heap.size _ _ _ (builder_below hI hb3) (by rw [Lib.byteCells_length]; omega) (by have := hb3.size; have := hbw.size; omega)).mono ?_
      rintro e w4 ⟨rfl, h4, hb4, hk4⟩
      have B4 : Below w.heap.size w w4 := (hbw.trans (hb3.mono hbw.size)).trans hb4
      go_wp2
      refine ⟨⟨k + 1, hlt, by simp, .inr ?_, B4⟩, by simp [intOf]; omega⟩
      rw [H.out, numsL_snoc]
      simpa [Lib.byteCells_append, Lib.strCells_eq] using h4
    · have hke : k = ns.length := by omega
      subst hke
      rw [List.take_length] at hI
      go_wp2_with fail
      refine (builder_String w.heap.size w.heap.size _ _ hI (by have := hbw.size; omega)).mono ?_
      rintro e w4 ⟨rfl, h4, hb4, hk4⟩
      go_wp2
      go_ret
      exact ⟨rfl, hbw.trans hb4⟩
theorem numbers_four (b : Nat) (l r t q : Int) (cap : Nat) (w : World) (hb : b < w.heap.size) (c0 : w.cell? ⟨b, 0, none⟩ = some (.int .i64 l)) (c1 : w.cell? ⟨b, 1, none⟩ = some (.int .i64 r)) (c2 : w.cell? ⟨b, 2, none⟩ = some (.int .i64 t)) (c3 : w.cell? ⟨b, 3, none⟩ = some (.int .i64 q)) :
    Calls Try.prog 22 #[.slice (some ⟨b, 0, none⟩) 4 cap] w fun e w' => e = .returned (.string (bytesP l r t q)) ∧ Below w.heap.size w w' := by
  have := numbers_row b 0 [l, r, t, q] cap (by simp) w hb (fun i hi => by
    rw [Nat.zero_add]
    match i, hi with
    | 0, _ => exact c0
    | 1, _ => exact c1
    | 2, _ => exact c2
    | 3, _ => exact c3)
  rw [numsL_four] at this
  exact this
set_option maxHeartbeats 2000000 in
theorem params_no (l r t q : Int) (h : fitsB l r t q = false) : Ret 9 #[.agg #[.int .i64 l, .int .i64 r, .int .i64 t, .int .i64 q]] (.tuple #[.string ⟨#[]⟩, .int .i64 1]) := by
  intro W
  have HF := hidA (fits_any l r t q)
  rw [h] at HF
  go_enter Try.func9, Try.ntmps9
  go_wp2_with (go_at_call 21; refine (HF.out.go _).mono ?_; rintro e w1 ⟨rfl, hb1⟩; have D := hidA (((Below.refl W.heap.size W).alloc (Nat.le_refl _) _).trans (hb1.mono (by simp))); clear hb1)
  refine bodyPost_ret (v := .tuple #[.string ⟨#[]⟩, .int .i64 1]) (by simp [results, Try.results9, go_sem]) rfl ⟨rfl, ?_⟩
  exact D.out
set_option maxHeartbeats 2000000 in
theorem params_yes (l r t q : Int) (h : fitsB l r t q = true) : Ret 9 #[.agg #[.int .i64 l, .int .i64 r, .int .i64 t, .int .i64 q]] (.tuple #[.string (bytesP l r t q), .int .i64 0]) := by
  intro W
  have HF := hidA (fits_any l r t q)
  rw [h] at HF
  clear h
  go_enter Try.func9, Try.ntmps9
  go_wp2_with (first
    | (go_at_call 21; refine (HF.out.go _).mono ?_; rintro e w1 ⟨rfl, hb1⟩; have f0 : w1.cell? ⟨W.heap.size, 0, none⟩ = some (.int .i64 l) := keepc hb1 (by simp [go_sem]); have f1 : w1.cell? ⟨W.heap.size, 1, none⟩ = some (.int .i64 r) := keepc hb1 (by simp [go_sem]); have f2 : w1.cell? ⟨W.heap.size, 2, none⟩ = some (.int .i64 t) := keepc hb1 (by simp [go_sem]); have f3 : w1.cell? ⟨W.heap.size, 3, none⟩ = some (.int .i64 q) := keepc hb1 (by simp [go_sem]); have D := hidA (((Below.refl W.heap.size W).alloc (Nat.le_refl _) _).trans (hb1.mono (by simp))); clear hb1)
    | (go_at_call 22; refine (numbers_four _ l r t q 4 _ (by simp) (by simp [go_sem]) (by simp [go_sem]) (by simp [go_sem]) (by simp [go_sem])).mono ?_; rintro e w2 ⟨rfl, hb2⟩; have D2 := hidA ((D.out.alloc D.out.size _).trans (hb2.mono (by have := D.out.size; simp; omega))); clear hb2))
  refine bodyPost_ret (v := .tuple #[.string (bytesP l r t q), .int .i64 0]) (by simp [results, Try.results9, go_sem]) rfl ⟨rfl, ?_⟩
  exact D2.out
end Pa
end Go.Proofs.Ytghapohempogkaa
