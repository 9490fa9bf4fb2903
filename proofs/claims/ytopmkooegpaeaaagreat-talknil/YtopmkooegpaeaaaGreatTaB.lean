/- steeplelaw14.awake and the walk of TalkNil over the seat's translation. -/
import Derived.Test.YtopmkooegpaeaaaGreatTaA
import Derived.Test.YtopmkooegpaeaaaGreatOctA
namespace Go.Proofs.YtopmkooegpaeaaaGreat
open Go.RowKit

theorem telems_nil (l n : Int) : Same 15 #[.pointer none, .int .i64 l, .int .i64 n] (.slice none 0 0) := by
  intro W
  go_enter Tryz.func15, Tryz.ntmps15
  go_wp2_with (go_at_call 34; refine (wide_any l _).mono ?_; rintro e w1 ⟨rfl, hw⟩; obtain rfl := hw.symm; clear hw)
  go_ret
  exact ⟨rfl, rfl⟩
theorem telem_nil (l : Int) : Ret 19 #[.pointer none, .int .i64 l] (.agg #[.int .u64 0, .int .u64 0]) := by
  intro W
  have H := telems_nil l 1
  go_enter Tryz.func19, Tryz.ntmps19
  go_wp2_with (go_at_call 15; refine (H.go _).mono ?_; rintro e w1 ⟨rfl, hw⟩; obtain rfl := hw.symm; clear hw)
  refine bodyPost_ret (v := .agg #[.int .u64 0, .int .u64 0]) (by simp [results, Tryz.results19, go_sem]) rfl ⟨rfl, ?_⟩
  go_grown
/-- Two transcripts and their tables. -/
structure Tw2 (W w : World) (qa qb g : Nat) (s t : ByteArray) : Prop where
  a : Tk w qa g s
  b : Tk w qb g t
  t : Tab w g
  d : Below W.heap.size W w
  n1 : g < qa
  n2 : qa < qb
  n3 : W.heap.size ≤ qa
theorem Tw2.below {W w w' : World} {qa qb g : Nat} {s t : ByteArray} (h : Tw2 W w qa qb g s t) (hb : Below w.heap.size w w') : Tw2 W w' qa qb g s t := ⟨h.a.below hb, h.b.below hb, h.t.below hb, h.d.trans (hb.mono h.d.size), h.n1, h.n2, h.n3⟩
theorem Tw2.setA {W w : World} {qa qb g : Nat} {s t : ByteArray} (h : Tw2 W w qa qb g s t) (u : ByteArray) : Tw2 W (w.setCell ⟨qa, 1, none⟩ (.string u)) qa qb g u t := ⟨h.a.set u, h.b.other (by have := h.n2; omega) _, tab_set h.t (by have := h.n1; omega) _, h.d.setCell h.n3 _, h.n1, h.n2, h.n3⟩
theorem Tw2.setB {W w : World} {qa qb g : Nat} {s t : ByteArray} (h : Tw2 W w qa qb g s t) (u : ByteArray) : Tw2 W (w.setCell ⟨qb, 1, none⟩ (.string u)) qa qb g s u := ⟨h.a.other (by have := h.n2; omega) _, h.b.set u, tab_set h.t (by have := h.n1; have := h.n2; omega) _, h.d.setCell (Nat.le_trans h.n3 (Nat.le_of_lt h.n2)) _, h.n1, h.n2, h.n3⟩
set_option maxHeartbeats 4000000 in
set_option maxRecDepth 100000 in
theorem awake14 : Ret 7 #[] (.bool true) := by
  intro W
  have hz1 : (nws (ByteArray.mk #[97])).size = 32 := smv_size _
  have hz2 : (sys (nws (ByteArray.mk #[97])) (ByteArray.mk #[120]) (ByteArray.mk #[121])).size = 32 := smv_size _
  have HN : Hid (∀ g w, Tab w g → Calls Tryz.prog 8 #[.pointer (some ⟨g, 0, none⟩), .string (ByteArray.mk #[97])] w fun e w' => ∃ q, e = .returned (.pointer (some ⟨q, 0, none⟩)) ∧ w.heap.size ≤ q ∧ Tk w' q g (nws (ByteArray.mk #[97])) ∧ Tab w' g ∧ Below w.heap.size w w') := fun g w t => tnew g _ (by decide) w t
  have HS : Hid (∀ q g w, Tk w q g (nws (ByteArray.mk #[97])) → Tab w g → Calls Tryz.prog 18 #[.pointer (some ⟨q, 0, none⟩), .string (ByteArray.mk #[120]), .string (ByteArray.mk #[121])] w fun e w' => e = .returned (.int .i64 0) ∧ ∃ w1, Below w.heap.size w w1 ∧ w' = w1.setCell ⟨q, 1, none⟩ (.string (sys (nws (ByteArray.mk #[97])) (ByteArray.mk #[120]) (ByteArray.mk #[121])))) := fun q g w k t => tsay q g _ _ _ (by omega) (by decide) (by decide) w k t
  generalize sys (nws (ByteArray.mk #[97])) (ByteArray.mk #[120]) (ByteArray.mk #[121]) = z2 at *
  generalize nws (ByteArray.mk #[97]) = z1 at *
  have hz : (z2.size : Int) = 32 := by omega
  clear hz1 hz2
  go_enter Tryz.func7, Tryz.ntmps7
  go_wp2_with (first | (go_at_call 9; refine (make_any _).mono ?_; rintro e w1 ⟨g, rfl, hg, ht, hb1⟩; have A1 : Hid (Tab w1 g ∧ Below W.heap.size W w1) := ⟨ht, hb1⟩; clear ht hb1) | (go_at_call 8; refine (HN.out _ _ A1.out.1).mono ?_; rintro e w2 ⟨qa, rfl, hqa, hka, hta, hb2⟩; have A2 : Hid (Tk w2 qa g z1 ∧ Tab w2 g ∧ Below W.heap.size W w2 ∧ g < qa ∧ W.heap.size ≤ qa) := ⟨hka, hta, A1.out.2.trans (hb2.mono A1.out.2.size), Nat.lt_of_lt_of_le (Tabs.lt A1.out.1) hqa, Nat.le_trans A1.out.2.size hqa⟩; clear hqa hka hta hb2 A1) | (go_at_call 8; refine (HN.out _ _ A2.out.2.1).mono ?_; rintro e w3 ⟨qb, rfl, hqb, hkb, htb, hb3⟩; have A3 : Hid (Tw2 W w3 qa qb g z1 z1) := ⟨A2.out.1.below hb3, hkb, htb, A2.out.2.2.1.trans (hb3.mono A2.out.2.2.1.size), A2.out.2.2.2.1, Nat.lt_of_lt_of_le A2.out.1.lt hqb, A2.out.2.2.2.2⟩; clear hqb hkb htb hb3 A2) | (go_at_call_of 18 (Value.pointer (some ⟨qa, 0, none⟩)); refine (HS.out _ _ _ A3.out.a A3.out.t).mono ?_; rintro e w4 ⟨rfl, w4', hb4, rfl⟩; have A4 : Hid (Tw2 W (w4'.setCell ⟨qa, 1, none⟩ (.string z2)) qa qb g z2 z1) := (A3.out.below hb4).setA z2; clear hb4 A3) | (go_at_call_of 18 (Value.pointer (some ⟨qb, 0, none⟩)); refine (HS.out _ _ _ A4.out.b A4.out.t).mono ?_; rintro e w5 ⟨rfl, w5', hb5, rfl⟩; have A5 : Hid (Tw2 W (w5'.setCell ⟨qb, 1, none⟩ (.string z2)) qa qb g z2 z2) := (A4.out.below hb5).setB z2; clear hb5 A4) | (go_at_call_of 12 (Value.pointer (some ⟨qa, 0, none⟩)); refine (tstate _ _ _ _ A5.out.a).mono ?_; rintro e w6 ⟨rfl, hw⟩; obtain rfl := hw.symm; clear hw) | (go_at_call_of 12 (Value.pointer (some ⟨qb, 0, none⟩)); refine (tstate _ _ _ _ A5.out.b).mono ?_; rintro e w6 ⟨rfl, hw⟩; obtain rfl := hw.symm; clear hw))
  go_ret
  exact ⟨rfl, A5.out.d⟩
set_option maxHeartbeats 4000000 in
set_option maxRecDepth 100000 in
theorem tn_any (k l n : Int) (s t : ByteArray) : Ret 6 #[.agg #[.int .i64 k, .int .i64 l, .int .i64 n, .string s, .string t]] (.bool true) := by
  intro W
  have H1 := telems_nil l n
  have H2 := telem_nil l
  have H3 := tplaces_nil l n
  have H4 := tsay_nil s t
  have H5 := tnew_nil s
  have c1 : (W.alloc (Obj.cells #[.int .i64 k, .int .i64 l, .int .i64 n, .string s, .string t] 39)).cell? ⟨W.heap.size, 1, none⟩ = some (.int .i64 l) := by simp [go_sem]
  have c2 : (W.alloc (Obj.cells #[.int .i64 k, .int .i64 l, .int .i64 n, .string s, .string t] 39)).cell? ⟨W.heap.size, 2, none⟩ = some (.int .i64 n) := by simp [go_sem]
  have c3 : (W.alloc (Obj.cells #[.int .i64 k, .int .i64 l, .int .i64 n, .string s, .string t] 39)).cell? ⟨W.heap.size, 3, none⟩ = some (.string s) := by simp [go_sem]
  have c4 : (W.alloc (Obj.cells #[.int .i64 k, .int .i64 l, .int .i64 n, .string s, .string t] 39)).cell? ⟨W.heap.size, 4, none⟩ = some (.string t) := by simp [go_sem]
  have D0 : Hid (Below W.heap.size W (W.alloc (Obj.cells #[.int .i64 k, .int .i64 l, .int .i64 n, .string s, .string t] 39))) := by show Below _ _ _; go_grown
  go_enter Tryz.func6, Tryz.ntmps6
  go_wp2_with (first | (go_at_call 7; refine (awake14.go _).mono ?_; rintro e w1 ⟨rfl, hb1⟩; have D1 : Hid (Below W.heap.size W w1) := D0.out.trans (hb1.mono D0.out.size); have e1 := keepc hb1 c1; have e2 := keepc hb1 c2; have e3 := keepc hb1 c3; have e4 := keepc hb1 c4; clear hb1 c1 c2 c3 c4) | (go_at_call 12; refine (tstate_nil.go _).mono ?_; rintro e w9 ⟨rfl, hw⟩; obtain rfl := hw.symm; clear hw) | (go_at_call 18; refine (H4.go _).mono ?_; rintro e w9 ⟨rfl, hw⟩; obtain rfl := hw.symm; clear hw) | (go_at_call 15; refine (H1.go _).mono ?_; rintro e w9 ⟨rfl, hw⟩; obtain rfl := hw.symm; clear hw) | (go_at_call 19; refine (H2.go _).mono ?_; rintro e w2 ⟨rfl, hb2⟩; have D2 : Hid (Below W.heap.size W w2) := D1.out.trans (hb2.mono D1.out.size); have f1 := keepc hb2 e1; have f2 := keepc hb2 e2; have f3 := keepc hb2 e3; clear hb2 e1 e2 e3 e4) | (go_at_call 17; refine (H3.go _).mono ?_; rintro e w9 ⟨rfl, hw⟩; obtain rfl := hw.symm; clear hw) | (go_at_call 8; refine (H5.go _).mono ?_; rintro e w9 ⟨rfl, hw⟩; obtain rfl := hw.symm; clear hw))
  go_ret
  exact ⟨rfl, D2.out⟩
end Go.Proofs.YtopmkooegpaeaaaGreat
