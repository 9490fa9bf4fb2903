/- Contracts of the document's reader over the seat's translation: Num, Text, End. -/
import Derived.Test.YtccpbpajappckaaOrK
import Derived.Test.YtccpbpajappckaaIvA
import Derived.BigQuiet
namespace Go.Proofs.Ytccpbpajappckaa
open Go.RowKit

/-- The bytes make the number v. -/
def Four2 (s : ByteArray) (v : Int) : Prop := ∀ (p0 : 0 < s.size) (p1 : 1 < s.size) (p2 : 2 < s.size) (p3 : 3 < s.size), wrap64 (wrap64 (wrap64 (wrap64 ((16777216 : Int) * wrap64 (s[0].toNat : Int)) + wrap64 ((65536 : Int) * wrap64 (s[1].toNat : Int))) + wrap64 ((256 : Int) * wrap64 (s[2].toNat : Int))) + wrap64 (s[3].toNat : Int)) = v
theorem four2 (s : ByteArray) : Four2 s (val4 s) := fun p0 p1 p2 p3 => by
  have hd : s.data.size = s.size := rfl
  have e : (16777216 : Int) * (s[0].toNat : Int) + (65536 : Int) * (s[1].toNat : Int) + (256 : Int) * (s[2].toNat : Int) + (s[3].toNat : Int) = val4 s := by
    simp [val4, ByteArray.getElem_eq_getElem_data, Array.getD_eq_getD_getElem?, Array.getElem?_eq_getElem (show 0 < s.data.size by omega), Array.getElem?_eq_getElem (show 1 < s.data.size by omega), Array.getElem?_eq_getElem (show 2 < s.data.size by omega), Array.getElem?_eq_getElem (show 3 < s.data.size by omega)]
    omega
  have h0 := s[0].toNat_lt
  have h1 := s[1].toNat_lt
  have h2 := s[2].toNat_lt
  have h3 := s[3].toNat_lt
  rw [← e]
  generalize s[0].toNat = x0' at *
  generalize s[1].toNat = x1' at *
  generalize s[2].toNat = x2' at *
  generalize s[3].toNat = x3' at *
  have w : ∀ x : Int, 0 ≤ x → x < 4611686018427387904 → wrap64 x = x := fun x a b => by
    unfold wrap64; omega
  rw [w (x0' : Int) (by omega) (by omega), w (x1' : Int) (by omega) (by omega), w (x2' : Int) (by omega) (by omega), w (x3' : Int) (by omega) (by omega), w (16777216 * (x0' : Int)) (by omega) (by omega), w (65536 * (x1' : Int)) (by omega) (by omega), w (256 * (x2' : Int)) (by omega) (by omega), w (16777216 * (x0' : Int) + 65536 * (x1' : Int)) (by omega) (by omega), w (16777216 * (x0' : Int) + 65536 * (x1' : Int) + 256 * (x2' : Int)) (by omega) (by omega), w (16777216 * (x0' : Int) + 65536 * (x1' : Int) + 256 * (x2' : Int) + (x3' : Int)) (by omega) (by omega)]
set_option maxHeartbeats 2000000 in
theorem rR_num_err (s : ByteArray) (e m : Int) (he : e ≠ 0) : Ret 25 #[.agg #[.string s, .int .i64 e], .int .i64 m] (.agg #[.string s, .int .i64 e, .int .i64 0]) := by
  intro W
  go_enter Try.func25, Try.ntmps25
  go_wp2
  refine bodyPost_ret (v := .agg #[.string s, .int .i64 e, .int .i64 0]) (by simp [results, Try.results25, go_sem]) rfl ⟨rfl, ?_⟩
  go_grown
set_option maxHeartbeats 2000000 in
theorem rR_num_short (s : ByteArray) (m : Int) (hs : s.size < 4) : Ret 25 #[.agg #[.string s, .int .i64 0], .int .i64 m] (.agg #[.string ⟨#[]⟩, .int .i64 11, .int .i64 0]) := by
  intro W
  have h4 : (s.size : Int) < 4 := by omega
  clear hs
  go_enter Try.func25, Try.ntmps25
  go_wp2
  refine bodyPost_ret (v := .agg #[.string ⟨#[]⟩, .int .i64 11, .int .i64 0]) (by simp [results, Try.results25, go_sem]) rfl ⟨rfl, ?_⟩
  go_grown
set_option maxHeartbeats 4000000 in
theorem rR_num_ok (s : ByteArray) (m v : Int) (hs : 4 ≤ s.size) (F : Four2 s v) (hq : ¬ 2147483647 < v) (hm : ¬ m < v) : Ret 25 #[.agg #[.string s, .int .i64 0], .int .i64 m] (.agg #[.string (s.extract 4 s.size), .int .i64 0, .int .i64 v]) := by
  intro W
  have h4 : ¬ (s.size : Int) < 4 := by omega
  have p0 : 0 < s.size := by omega
  have p1 : 1 < s.size := by omega
  have p2 : 2 < s.size := by omega
  have p3 : 3 < s.size := by omega
  have g0 : (0 : Int) < (s.size : Int) := by omega
  have g1 : (1 : Int) < (s.size : Int) := by omega
  have g2 : (2 : Int) < (s.size : Int) := by omega
  have g3 : (3 : Int) < (s.size : Int) := by omega
  have g4 : (4 : Int) ≤ (s.size : Int) := by omega
  have HF := hidR F
  clear F
  go_enter Try.func25, Try.ntmps25
  go_upto_region 5 with fail
  go_quiet (fail)
  rw [HF.out p0 p1 p2 p3]
  go_wp2
  refine bodyPost_ret (v := .agg #[.string (s.extract 4 s.size), .int .i64 0, .int .i64 v]) (by simp [results, Try.results25, go_sem]) rfl ⟨rfl, ?_⟩
  go_grown
  exact below_drewN (by go_grown) _
set_option maxHeartbeats 4000000 in
theorem rR_num_long (s : ByteArray) (m v : Int) (hs : 4 ≤ s.size) (F : Four2 s v) (hl : 2147483647 < v ∨ (¬ 2147483647 < v ∧ m < v)) : Ret 25 #[.agg #[.string s, .int .i64 0], .int .i64 m] (.agg #[.string ⟨#[]⟩, .int .i64 2, .int .i64 0]) := by
  intro W
  rcases hl with hl | ⟨hl, hl2⟩
  all_goals
    have h4 : ¬ (s.size : Int) < 4 := by omega
    have p0 : 0 < s.size := by omega
    have p1 : 1 < s.size := by omega
    have p2 : 2 < s.size := by omega
    have p3 : 3 < s.size := by omega
    have g0 : (0 : Int) < (s.size : Int) := by omega
    have g1 : (1 : Int) < (s.size : Int) := by omega
    have g2 : (2 : Int) < (s.size : Int) := by omega
    have g3 : (3 : Int) < (s.size : Int) := by omega
    have g4 : (4 : Int) ≤ (s.size : Int) := by omega
    have HF := hidR F
    clear F
    go_enter Try.func25, Try.ntmps25
    go_upto_region 5 with fail
    go_quiet (fail)
    rw [HF.out p0 p1 p2 p3]
    go_wp2
    refine bodyPost_ret (v := .agg #[.string ⟨#[]⟩, .int .i64 2, .int .i64 0]) (by simp [results, Try.results25, go_sem]) rfl ⟨rfl, ?_⟩
    go_grown
    exact below_drewN (by go_grown) _
theorem rR_num (s : ByteArray) (e m : Int) : Ret 25 #[.agg #[.string s, .int .i64 e], .int .i64 m] (.agg #[.string (rdNum s e m).1, .int .i64 (rdNum s e m).2.1, .int .i64 (rdNum s e m).2.2]) := by
  unfold rdNum
  by_cases he : e = 0
  · subst he
    rw [if_pos rfl]
    by_cases hs : s.size < 4
    · rw [if_pos hs]; exact rR_num_short s m hs
    · rw [if_neg hs]
      by_cases hl : 2147483647 < val4 s ∨ m < val4 s
      · rw [if_pos hl]
        refine rR_num_long s m (val4 s) (by omega) (four2 s) ?_
        rcases hl with h | h
        · exact .inl h
        · by_cases h2 : 2147483647 < val4 s
          · exact .inl h2
          · exact .inr ⟨h2, h⟩
      · rw [if_neg hl]
        exact rR_num_ok s m (val4 s) (by omega) (four2 s) (fun h => hl (.inl h)) (fun h => hl (.inr h))
  · rw [if_neg he]
    exact rR_num_err s e m he
set_option maxHeartbeats 2000000 in
theorem rR_end (s : ByteArray) (e : Int) : Ret 11 #[.agg #[.string s, .int .i64 e]] (.int .i64 (endI s e)) := by
  intro W
  unfold endI
  by_cases he : e = 0
  · subst he
    by_cases hs : 0 < s.size
    · rw [if_pos ⟨rfl, hs⟩]
      have h0 : (0 : Int) < (s.size : Int) := by omega
      go_enter Try.func11, Try.ntmps11
      go_wp2
      go_ret
      exact ⟨rfl, by go_grown⟩
    · rw [if_neg (fun h => hs h.2)]
      have h0 : ¬ (0 : Int) < (s.size : Int) := by omega
      go_enter Try.func11, Try.ntmps11
      go_wp2
      go_ret
      exact ⟨rfl, by go_grown⟩
  · rw [if_neg (fun h => he h.1)]
    go_enter Try.func11, Try.ntmps11
    go_wp2
    go_ret
    exact ⟨rfl, by go_grown⟩
end Go.Proofs.Ytccpbpajappckaa
