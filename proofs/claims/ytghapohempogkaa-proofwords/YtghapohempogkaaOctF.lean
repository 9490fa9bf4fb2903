/- Contracts of (*octet.Reader).take and Num over the seat's translation. -/
import Derived.Test.YtghapohempogkaaOctE
namespace Go.Proofs.Ytghapohempogkaa
open Go.RowKit

/-- What 'take' makes of a reader: what is left, the error, what it read, whether it did. -/
def rdTake (s : ByteArray) (e n : Int) : ByteArray × Int × ByteArray × Bool :=
  if e = 0 then (if (s.size : Int) < n then (⟨#[]⟩, 11, ⟨#[]⟩, false) else (s.extract n.toNat s.size, 0, s.extract 0 n.toNat, true)) else (s, e, ⟨#[]⟩, false)

set_option maxHeartbeats 400000 in
theorem rd_take (b : Nat) (s : ByteArray) (e n : Int) (hn : 0 ≤ n) (w : World) (h : Rd b s e w) : Calls Try.prog 44 #[.pointer (some ⟨b, 0, none⟩), .int .i64 n] w fun r w' => r = .returned (.tuple #[.string (rdTake s e n).2.2.1, .bool (rdTake s e n).2.2.2]) ∧ Step b (rdTake s e n).1 (rdTake s e n).2.1 w w' := by
  have H : Hid (Rd b s e w) := h
  by_cases he : e = 0
  · subst he
    by_cases hs : (s.size : Int) < n
    · rw [show rdTake s 0 n = (⟨#[]⟩, 11, ⟨#[]⟩, false) by unfold rdTake; rw [if_pos rfl, if_pos hs]]
      have c0 := h.c0
      clear h
      go_enter Try.func44, Try.ntmps44
      go_wp2_with (first | (go_at_call 30; refine (rd_Fail _ _ _ _ H.out).mono ?_; rintro e w1 ⟨rfl, rfl⟩) | (go_at_call 45; refine (rd_fail _ _ _ _ _ H.out).mono ?_; rintro e w1 ⟨rfl, h1⟩))
      go_ret2
      exact ⟨rfl, h1⟩
    · rw [show rdTake s 0 n = (s.extract n.toNat s.size, 0, s.extract 0 n.toNat, true) by unfold rdTake; rw [if_pos rfl, if_neg hs]]
      have c0 := h.c0
      have f0 := h.fz 0
      clear h
      go_enter Try.func44, Try.ntmps44
      go_wp2_with (first | (go_at_call 30; refine (rd_Fail _ _ _ _ H.out).mono ?_; rintro e w1 ⟨rfl, rfl⟩))
      go_ret2
      exact ⟨rfl, (Step.refl H.out).set0⟩
  · rw [show rdTake s e n = (s, e, ⟨#[]⟩, false) by unfold rdTake; rw [if_neg he]]
    have he' : (e != 0) = true := by simpa using he
    clear h
    go_enter Try.func44, Try.ntmps44
    go_wp2_with (go_at_call 30; refine (rd_Fail _ _ _ _ H.out).mono ?_; rintro e w1 ⟨rfl, rfl⟩)
    go_ret2
    exact ⟨rfl, Step.refl H.out⟩

theorem rd_take_ok (b : Nat) (s : ByteArray) (n : Int) (hn : 0 ≤ n) (hs : n ≤ s.size) (w : World) (h : Rd b s 0 w) : Calls Try.prog 44 #[.pointer (some ⟨b, 0, none⟩), .int .i64 n] w fun r w' => r = .returned (.tuple #[.string (s.extract 0 n.toNat), .bool true]) ∧ Step b (s.extract n.toNat s.size) 0 w w' := by
  have T := rd_take b s 0 n hn w h
  rw [show rdTake s 0 n = (s.extract n.toNat s.size, 0, s.extract 0 n.toNat, true) by unfold rdTake; rw [if_pos rfl, if_neg (by omega)]] at T
  exact T
theorem rd_take_short (b : Nat) (s : ByteArray) (n : Int) (hn : 0 ≤ n) (hs : (s.size : Int) < n) (w : World) (h : Rd b s 0 w) : Calls Try.prog 44 #[.pointer (some ⟨b, 0, none⟩), .int .i64 n] w fun r w' => r = .returned (.tuple #[.string ⟨#[]⟩, .bool false]) ∧ Step b ⟨#[]⟩ 11 w w' := by
  have T := rd_take b s 0 n hn w h
  rw [show rdTake s 0 n = (⟨#[]⟩, 11, ⟨#[]⟩, false) by unfold rdTake; rw [if_pos rfl, if_pos hs]] at T
  exact T
theorem rd_take_err (b : Nat) (s : ByteArray) (e n : Int) (hn : 0 ≤ n) (he : e ≠ 0) (w : World) (h : Rd b s e w) : Calls Try.prog 44 #[.pointer (some ⟨b, 0, none⟩), .int .i64 n] w fun r w' => r = .returned (.tuple #[.string ⟨#[]⟩, .bool false]) ∧ Step b s e w w' := by
  have T := rd_take b s e n hn w h
  rw [show rdTake s e n = (s, e, ⟨#[]⟩, false) by unfold rdTake; rw [if_neg he]] at T
  exact T

theorem or4 (a b c d : UInt8) : bits .or .u32 (bits .or .u32 (bits .or .u32 ((a.toNat : Int) % 4294967296 * 16777216 % 4294967296) ((b.toNat : Int) % 4294967296 * 65536 % 4294967296)) ((c.toNat : Int) % 4294967296 * 256 % 4294967296)) ((d.toNat : Int) % 4294967296) = (a.toNat : Int) * 16777216 + (b.toNat : Int) * 65536 + (c.toNat : Int) * 256 + d.toNat := by
  have ha := a.toNat_lt
  have hb := b.toNat_lt
  have hc := c.toNat_lt
  have hd := d.toNat_lt
  generalize a.toNat = A at *
  generalize b.toNat = B at *
  generalize c.toNat = C at *
  generalize d.toNat = D at *
  go_bits2

/-- The number of the first four bytes. -/
def val4 (s : ByteArray) : Int := ((s.data.getD 0 0).toNat : Int) * 16777216 + ((s.data.getD 1 0).toNat : Int) * 65536 + ((s.data.getD 2 0).toNat : Int) * 256 + (s.data.getD 3 0).toNat
/-- What 'Num' makes of a reader: what is left, the error, the number. -/
def rdNum (s : ByteArray) (e m : Int) : ByteArray × Int × Int :=
  if e = 0 then (if s.size < 4 then (⟨#[]⟩, 11, 0) else if 2147483647 < val4 s ∨ m < val4 s then (⟨#[]⟩, 2, 0) else (s.extract 4 s.size, 0, val4 s)) else (s, e, 0)
set_option maxHeartbeats 400000 in
theorem rd_num_short (b : Nat) (s : ByteArray) (m : Int) (hs : s.size < 4) (w : World) (h : Rd b s 0 w) : Calls Try.prog 29 #[.pointer (some ⟨b, 0, none⟩), .int .i64 m] w fun r w' => r = .returned (.int .i64 0) ∧ Step b ⟨#[]⟩ 11 w w' := by
  have H : Hid (Rd b s 0 w) := h
  clear h
  go_enter Try.func29, Try.ntmps29
  go_wp2_with (go_at_call 44; refine (rd_take_short _ _ _ (by decide) (by omega) _ H.out).mono ?_; rintro e w1 ⟨rfl, h1⟩)
  go_ret
  exact ⟨rfl, h1⟩
set_option maxHeartbeats 400000 in
theorem rd_num_err (b : Nat) (s : ByteArray) (e m : Int) (he : e ≠ 0) (w : World) (h : Rd b s e w) : Calls Try.prog 29 #[.pointer (some ⟨b, 0, none⟩), .int .i64 m] w fun r w' => r = .returned (.int .i64 0) ∧ Step b s e w w' := by
  have H : Hid (Rd b s e w) := h
  clear h
  go_enter Try.func29, Try.ntmps29
  go_wp2_with (go_at_call 44; refine (rd_take_err _ _ _ _ (by decide) he _ H.out).mono ?_; rintro e w1 ⟨rfl, h1⟩)
  go_ret
  exact ⟨rfl, h1⟩
theorem val4_get (s : ByteArray) (hs : 4 ≤ s.size) (p0 : 0 < (s.extract 0 4).size) (p1 : 1 < (s.extract 0 4).size) (p2 : 2 < (s.extract 0 4).size) (p3 : 3 < (s.extract 0 4).size) :
    ((s.extract 0 4)[0].toNat : Int) * (16777216 : Int) + ((s.extract 0 4)[1].toNat : Int) * (65536 : Int) + ((s.extract 0 4)[2].toNat : Int) * (256 : Int) + ((s.extract 0 4)[3].toNat : Int) = val4 s := by
  have hd : s.data.size = s.size := rfl
  simp [val4, ByteArray.getElem_eq_getElem_data, Array.getD_eq_getD_getElem?, Array.getElem?_eq_getElem (show 0 < s.data.size by omega), Array.getElem?_eq_getElem (show 1 < s.data.size by omega), Array.getElem?_eq_getElem (show 2 < s.data.size by omega), Array.getElem?_eq_getElem (show 3 < s.data.size by omega)]
theorem val4_range (s : ByteArray) : 0 ≤ val4 s ∧ val4 s < 4294967296 := by
  have h0 := (s.data.getD 0 0).toNat_lt
  have h1 := (s.data.getD 1 0).toNat_lt
  have h2 := (s.data.getD 2 0).toNat_lt
  have h3 := (s.data.getD 3 0).toNat_lt
  unfold val4; omega
/-- The four bytes make the number v. -/
def Four (s : ByteArray) (v : Int) : Prop := ∀ (p0 : 0 < (s.extract 0 4).size) (p1 : 1 < (s.extract 0 4).size) (p2 : 2 < (s.extract 0 4).size) (p3 : 3 < (s.extract 0 4).size), ((s.extract 0 4)[0].toNat : Int) * (16777216 : Int) + ((s.extract 0 4)[1].toNat : Int) * (65536 : Int) + ((s.extract 0 4)[2].toNat : Int) * (256 : Int) + ((s.extract 0 4)[3].toNat : Int) = v
set_option maxHeartbeats 400000 in
theorem num_long_core (b : Nat) (s : ByteArray) (m v : Int) (hs : 4 ≤ s.size) (hv : 0 ≤ v ∧ v < 4294967296) (F : Four s v) (hl : 2147483647 < v ∨ m < v) (w : World) (h : Rd b s 0 w) : Calls Try.prog 29 #[.pointer (some ⟨b, 0, none⟩), .int .i64 m] w fun r w' => r = .returned (.int .i64 0) ∧ Step b ⟨#[]⟩ 2 w w' := by
  have H : Hid (Rd b s 0 w) := h
  clear h
  by_cases hq : 2147483647 < v
  · clear hl
    go_enter Try.func29, Try.ntmps29
    go_wp2_with (go_at_call 44; refine (rd_take_ok _ _ _ (by decide) (by omega) _ H.out).mono ?_; rintro e w1 ⟨rfl, h1⟩)
    go_quiet (fail)
    simp only [or4]
    rw [F]
    go_wp2_with (go_at_call 45; refine (rd_fail _ _ _ _ _ (h1.drewN _).here).mono ?_; rintro e w2 ⟨rfl, h2⟩)
    go_ret
    exact ⟨rfl, (h1.drewN _).trans h2⟩
  · have hm : m < v := by omega
    clear hl
    go_enter Try.func29, Try.ntmps29
    go_wp2_with (go_at_call 44; refine (rd_take_ok _ _ _ (by decide) (by omega) _ H.out).mono ?_; rintro e w1 ⟨rfl, h1⟩)
    go_quiet (fail)
    simp only [or4]
    rw [F]
    go_wp2_with (go_at_call 45; refine (rd_fail _ _ _ _ _ (h1.drewN _).here).mono ?_; rintro e w2 ⟨rfl, h2⟩)
    go_ret
    exact ⟨rfl, (h1.drewN _).trans h2⟩
set_option maxHeartbeats 400000 in
theorem num_ok_core (b : Nat) (s : ByteArray) (m v : Int) (hs : 4 ≤ s.size) (hv : 0 ≤ v ∧ v < 4294967296) (F : Four s v) (hq : ¬ 2147483647 < v) (hm : ¬ m < v) (w : World) (h : Rd b s 0 w) : Calls Try.prog 29 #[.pointer (some ⟨b, 0, none⟩), .int .i64 m] w fun r w' => r = .returned (.int .i64 v) ∧ Step b (s.extract 4 s.size) 0 w w' := by
  have H : Hid (Rd b s 0 w) := h
  clear h
  go_enter Try.func29, Try.ntmps29
  go_wp2_with (go_at_call 44; refine (rd_take_ok _ _ _ (by decide) (by omega) _ H.out).mono ?_; rintro e w1 ⟨rfl, h1⟩)
  go_quiet (fail)
  simp only [or4]
  rw [F]
  go_wp2
  go_ret
  exact ⟨rfl, h1.drewN _⟩
theorem rd_num_long (b : Nat) (s : ByteArray) (m : Int) (hs : 4 ≤ s.size) (hl : 2147483647 < val4 s ∨ m < val4 s) (w : World) (h : Rd b s 0 w) : Calls Try.prog 29 #[.pointer (some ⟨b, 0, none⟩), .int .i64 m] w fun r w' => r = .returned (.int .i64 0) ∧ Step b ⟨#[]⟩ 2 w w' :=
  num_long_core b s m (val4 s) hs (val4_range s) (val4_get s hs) hl w h
theorem rd_num_ok (b : Nat) (s : ByteArray) (m : Int) (hs : 4 ≤ s.size) (hl : ¬ (2147483647 < val4 s ∨ m < val4 s)) (w : World) (h : Rd b s 0 w) : Calls Try.prog 29 #[.pointer (some ⟨b, 0, none⟩), .int .i64 m] w fun r w' => r = .returned (.int .i64 (val4 s)) ∧ Step b (s.extract 4 s.size) 0 w w' :=
  num_ok_core b s m (val4 s) hs (val4_range s) (val4_get s hs) (fun h => hl (.inl h)) (fun h => hl (.inr h)) w h
theorem rd_num (b : Nat) (s : ByteArray) (e m : Int) (w : World) (h : Rd b s e w) : Calls Try.prog 29 #[.pointer (some ⟨b, 0, none⟩), .int .i64 m] w fun r w' => r = .returned (.int .i64 (rdNum s e m).2.2) ∧ Step b (rdNum s e m).1 (rdNum s e m).2.1 w w' := by
  by_cases he : e = 0
  · subst he
    by_cases hs : s.size < 4
    · rw [show rdNum s 0 m = (⟨#[]⟩, 11, 0) by unfold rdNum; rw [if_pos rfl, if_pos hs]]
      exact rd_num_short b s m hs w h
    · by_cases hl : 2147483647 < val4 s ∨ m < val4 s
      · rw [show rdNum s 0 m = (⟨#[]⟩, 2, 0) by unfold rdNum; rw [if_pos rfl, if_neg hs, if_pos hl]]
        exact rd_num_long b s m (by omega) hl w h
      · rw [show rdNum s 0 m = (s.extract 4 s.size, 0, val4 s) by unfold rdNum; rw [if_pos rfl, if_neg hs, if_neg hl]]
        exact rd_num_ok b s m (by omega) hl w h
  · rw [show rdNum s e m = (s, e, 0) by unfold rdNum; rw [if_neg he]]
    exact rd_num_err b s e m he w h
end Go.Proofs.Ytghapohempogkaa
