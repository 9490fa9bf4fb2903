/- The document's Stream, and the walk of SpongeStreams, over the seat's translation. -/
import Derived.Test.YtbfhiemkpmjmoaaGreatStA
namespace Go.Proofs.YtbfhiemkpmjmoaaGreat
open Go.RowKit

set_option maxHeartbeats 2000000 in
set_option maxRecDepth 100000 in
theorem rstream_ok (gB cB gT cT n : Nat) (gs cs : Nat → Nat) (s : ByteArray) (hn : n ≤ 10000) (hs : s.size ≤ 1000) (W : World) (hR : RTab W gB gT gs cs) :
    Calls Tryz.prog 17 #[.agg #[.slice (some ⟨gB, 0, none⟩) 256 cB, .slice (some ⟨gT, 0, none⟩) 8 cT], .string s, .int .i64 (n : Int)] W fun e w' => e = .returned (.string (stv s n)) ∧ Below W.heap.size W w' := by
  have HN : Hid (∀ (k : Nat) w, Calls Tryz.prog 33 #[.int .i64 (k : Int)] w fun e w' => e = .returned (.string (numS (k : Int))) ∧ Below w.heap.size w w') := fun k w => rnum_any _ w
  have H3 : Hid (∀ (k : Nat) w, k ≤ 2147483647 → RTab w gB gT gs cs → Calls Tryz.prog 13 #[.agg #[.slice (some ⟨gB, 0, none⟩) 256 cB, .slice (some ⟨gT, 0, none⟩) 8 cT], .string (s ++ numS (k : Int))] w fun e w' => e = .returned (.string (smv (s ++ numS (k : Int)))) ∧ Below w.heap.size w w') := fun k w hk t => rsum_ok gB cB gT cT gs cs _ (by rw [ByteArray.size_append, num_size k hk]; omega) w t
  have HM : Hid (dgs n * 32 ≥ n ∧ (∀ k, k < dgs n → 32 * k < n)) := ⟨by unfold dgs; omega, fun k hk => by unfold dgs at hk; omega⟩
  have hd : dgs n ≤ 400 := by unfold dgs; omega
  have HV : Hid (stv s n = (cat s (dgs n)).extract 0 n) := (rfl : stv s n = (cat s (dgs n)).extract 0 n)
  have HK0 : Hid (RTab W gB gT gs cs) := hR
  clear hR
  generalize hdd : dgs n = d at *
  clear hdd
  generalize stv s n = R at *
  go_enter Tryz.func17, Tryz.ntmps17
  go_wp2_with fail
  have K : Pk W (W.alloc (Obj.cells #[.slice (some ⟨gB, 0, none⟩) 256 cB, .slice (some ⟨gT, 0, none⟩) 8 cT] 30)) gB cB gT cT gs cs W.heap.size := ⟨HK0.out.below ((Below.refl _ _).alloc (Nat.le_refl _) _), by simp [go_sem], by simp [go_sem], (Below.refl _ _).alloc (Nat.le_refl _) _⟩
  clear HK0
  generalize W.alloc (Obj.cells #[.slice (some ⟨gB, 0, none⟩) 256 cB, .slice (some ⟨gT, 0, none⟩) 8 cT] 30) = w0 at *
  have HK2 : Hid (Pk W w0 gB cB gT cT gs cs W.heap.size) := K
  clear K
  generalize hb : W.heap.size = b at *
  go_loopw [7, 8] (fun v u wr => ∃ (k : Nat) (C : ByteArray), k ≤ d ∧ v = .string C ∧ u = .int .i64 (k : Int) ∧ Hid (C = cat s k) ∧ Hid (Pk W wr gB cB gT cT gs cs b)) (fun _ u _ => d - (intOf u).toNat)
  case atStart => exact ⟨0, ByteArray.mk #[], Nat.zero_le _, rfl, rfl, (rfl : ByteArray.mk #[] = cat s 0), HK2⟩
  case round =>
    obtain ⟨k, C, hk, rfl, rfl, HC, HK⟩ := hrel
    clear HK2
    have hM := HM.out
    have hcz : C.size = 32 * k := by rw [HC.out]; exact cat_size s k
    obtain ⟨kk, hkk⟩ : ∃ kk, kk = 32 * k := ⟨_, rfl⟩
    have kq : (32 : Int) * (k : Int) = (kk : Int) := by omega
    have kl : kk ≤ 20000 := by omega
    by_cases hlt : k < d
    · have k1 : (kk : Int) < (n : Int) := by have := hM.2 k hlt; omega
      have hns := num_size k (by omega)
      have hnz : (s ++ numS (k : Int)).size ≤ 1004 := by rw [ByteArray.size_append, hns]; omega
      have hcl : C.size ≤ 20000 := by omega
      have hdz := smv_size (s ++ numS (k : Int))
      have HX : Hid (C ++ smv (s ++ numS (k : Int)) = cat s (k + 1)) := by show _ = _; rw [HC.out]; exact cat_succ s k
      have HSm : Hid (∀ w, RTab w gB gT gs cs → Calls Tryz.prog 13 #[.agg #[.slice (some ⟨gB, 0, none⟩) 256 cB, .slice (some ⟨gT, 0, none⟩) 8 cT], .string (s ++ numS (k : Int))] w fun e w' => e = .returned (.string (smv (s ++ numS (k : Int)))) ∧ Below w.heap.size w w') := fun w t => H3.out k w (by omega) t
      have HNk : Hid (∀ w, Calls Tryz.prog 33 #[.int .i64 (k : Int)] w fun e w' => e = .returned (.string (numS (k : Int))) ∧ Below w.heap.size w w') := fun w => HN.out k w
      have F0 := HK.out.facts
      have K := HK.out
      clear HK hM hkk hcz
      generalize smv (s ++ numS (k : Int)) = dg at *
      generalize numS (k : Int) = nm at *
      go_wp2
      go_region_with (first | (go_at_call 33; refine (HNk.out _).mono ?_; rintro e w' ⟨rfl, hb'⟩; have K' := Pk.below (w' := w') (by first | exact K | exact K.drew) hb'; clear F0 K hb'; have K := K'; clear K'; have F0 := K.facts) | (go_at_call 13; refine (HSm.out _ (by first | exact K.t | exact K.drew.t)).mono ?_; rintro e w' ⟨rfl, hb'⟩; have K' := Pk.below (w' := w') (by first | exact K | exact K.drew) hb'; clear F0 K hb'; have K := K'; clear K'; have F0 := K.facts))
      all_goals
        go_wp2
        exact ⟨⟨k + 1, C ++ dg, hlt, rfl, by simp, HX, K⟩, by simp [intOf]; omega⟩
    · obtain rfl : k = d := by omega
      have k1 : ¬ (kk : Int) < (n : Int) := by omega
      have c1 : (n : Int) ≤ (C.size : Int) := by omega
      have HX : Hid (C.extract 0 n = R) := by show _ = _; rw [HV.out, HC.out]
      clear hM hkk hcz
      go_wp2
      go_ret
      exact ⟨by rw [← HX.out]; rfl, by rw [← hb]; exact HK.out.d⟩
theorem stream_nil (s : ByteArray) (n : Int) (hs : s.size ≤ 1000) : Ret 16 #[.pointer none, .string s, .int .i64 n] (.string (ByteArray.mk #[])) := by
  intro W
  have H0 : Hid (∀ w, Calls Tryz.prog 35 #[.int .i64 0] w fun e w' => ∃ x : ByteArray, x.size = 4 ∧ e = .returned (.string x) ∧ Below w.heap.size w w') := fun w => (num_any 0 w).mono fun e w' ⟨h1, h2⟩ => ⟨_, num_size 0 (by omega), h1, h2⟩
  go_enter Tryz.func16, Tryz.ntmps16
  go_wp2_with (go_at_call 35; refine (H0.out _).mono ?_; rintro e w1 ⟨x4, hx4, rfl, hb1⟩)
  go_ret
  exact ⟨rfl, hb1⟩
theorem stream_bad (g : Nat) (s : ByteArray) (n : Int) (hs : s.size ≤ 1000) (hn : n < 0 ∨ 1048576 < n) : Ret 16 #[.pointer (some ⟨g, 0, none⟩), .string s, .int .i64 n] (.string (ByteArray.mk #[])) := by
  intro W
  have H0 : Hid (∀ w, Calls Tryz.prog 35 #[.int .i64 0] w fun e w' => ∃ x : ByteArray, x.size = 4 ∧ e = .returned (.string x) ∧ Below w.heap.size w w') := fun w => (num_any 0 w).mono fun e w' ⟨h1, h2⟩ => ⟨_, num_size 0 (by omega), h1, h2⟩
  by_cases h : n < 0
  · clear hn
    go_enter Tryz.func16, Tryz.ntmps16
    go_wp2_with (go_at_call 35; refine (H0.out _).mono ?_; rintro e w1 ⟨x4, hx4, rfl, hb1⟩)
    go_ret
    exact ⟨rfl, hb1⟩
  · have h2 : 1048576 < n := by omega
    clear hn
    go_enter Tryz.func16, Tryz.ntmps16
    go_wp2_with (go_at_call 35; refine (H0.out _).mono ?_; rintro e w1 ⟨x4, hx4, rfl, hb1⟩)
    go_ret
    exact ⟨rfl, hb1⟩
theorem nil_empty : (ByteArray.mk #[]).toList.isEmpty = true := by decide +kernel
set_option maxHeartbeats 1000000 in
theorem sw_long (s : ByteArray) (n l : Int) (hs : 100 < s.size) : Ret 4 #[.string s, .int .i64 n, .int .i64 l] (.bool true) := by
  intro W
  have h1 : (100 : Int) < (s.size : Int) := by omega
  go_enter Tryz.func4, Tryz.ntmps4
  go_wp2_with (go_at_call 6; refine (awake11.go _).mono ?_; rintro e w1 ⟨rfl, hb1⟩)
  go_ret
  exact ⟨rfl, hb1⟩
set_option maxHeartbeats 1000000 in
theorem sw_far (s : ByteArray) (n l : Int) (hs : s.size ≤ 100) (h2 : 150 < n) (h3 : n ≤ 1048576) : Ret 4 #[.string s, .int .i64 n, .int .i64 l] (.bool true) := by
  intro W
  have h1 : ¬ (100 : Int) < (s.size : Int) := by omega
  go_enter Tryz.func4, Tryz.ntmps4
  go_wp2_with (go_at_call 6; refine (awake11.go _).mono ?_; rintro e w1 ⟨rfl, hb1⟩)
  go_ret
  exact ⟨rfl, hb1⟩
set_option maxHeartbeats 1600000 in
theorem sw_bad (s : ByteArray) (n l : Int) (hs : s.size ≤ 100) (hn : n < 0 ∨ 1048576 < n) : Ret 4 #[.string s, .int .i64 n, .int .i64 l] (.bool true) := by
  intro W
  have h1 : ¬ (100 : Int) < (s.size : Int) := by omega
  have H1 : Hid (∀ g, Ret 16 #[.pointer (some ⟨g, 0, none⟩), .string s, .int .i64 n] (.string (ByteArray.mk #[]))) := fun g => stream_bad g s n (by omega) hn
  have H2 : Hid (Ret 16 #[.pointer none, .string s, .int .i64 3] (.string (ByteArray.mk #[]))) := stream_nil s 3 (by omega)
  have hne := nil_empty
  by_cases h : n < 0
  · have h2 : ¬ 150 < n := by omega
    clear hn
    go_enter Tryz.func4, Tryz.ntmps4
    go_wp2_with (first | (go_at_call 6; refine (awake11.go _).mono ?_; rintro e w1 ⟨rfl, hb1⟩) | (go_at_call 7; refine (make_any _).mono ?_; rintro e w2 ⟨g, rfl, hg, ht, hb2⟩; have D2 := hb1.trans (hb2.mono hb1.size); clear hb1 hb2) | (go_at_call_of 16 (some (⟨g, 0, none⟩ : Addr)); refine ((H1.out g).go _).mono ?_; rintro e w3 ⟨rfl, hb3⟩; have D3 := D2.trans (hb3.mono D2.size); clear D2 hb3) | (go_at_call_of 16 (none : Option Addr); refine (H2.out.go _).mono ?_; rintro e w4 ⟨rfl, hb4⟩; have D4 := D3.trans (hb4.mono D3.size); clear D3 hb4))
    go_ret
    exact ⟨rfl, D4⟩
  · have h2 : 1048576 < n := by omega
    have h3 : ¬ n ≤ 1048576 := by omega
    have h4 : 150 < n := by omega
    clear hn
    go_enter Tryz.func4, Tryz.ntmps4
    go_wp2_with (first | (go_at_call 6; refine (awake11.go _).mono ?_; rintro e w1 ⟨rfl, hb1⟩) | (go_at_call 7; refine (make_any _).mono ?_; rintro e w2 ⟨g, rfl, hg, ht, hb2⟩; have D2 := hb1.trans (hb2.mono hb1.size); clear hb1 hb2) | (go_at_call_of 16 (some (⟨g, 0, none⟩ : Addr)); refine ((H1.out g).go _).mono ?_; rintro e w3 ⟨rfl, hb3⟩; have D3 := D2.trans (hb3.mono D2.size); clear D2 hb3) | (go_at_call_of 16 (none : Option Addr); refine (H2.out.go _).mono ?_; rintro e w4 ⟨rfl, hb4⟩; have D4 := D3.trans (hb4.mono D3.size); clear D3 hb4))
    go_ret
    exact ⟨rfl, D4⟩
set_option maxHeartbeats 3200000 in
set_option maxRecDepth 100000 in
theorem sw_core (s : ByteArray) (n m q : Nat) (l c : Int) (hs : s.size ≤ 100) (hn : n ≤ 150) (hm : m = n + 1) (t1 : l.tmod (m : Int) = c) (c1 : -200 ≤ c) (c2 : c ≤ 200) (t2 : (c + (n : Int) + 1).tmod (m : Int) = (q : Int)) (hq : q ≤ n) : Ret 4 #[.string s, .int .i64 (n : Int), .int .i64 l] (.bool true) := by
  intro W
  have h1 : ¬ (100 : Int) < (s.size : Int) := by omega
  have H1 : Hid (∀ g w, Tab w g → Calls Tryz.prog 16 #[.pointer (some ⟨g, 0, none⟩), .string s, .int .i64 (n : Int)] w fun e w' => e = .returned (.string (stv s n)) ∧ Below w.heap.size w w') := fun g w t => stream_ok g n s (by omega) (by omega) w t
  have H2 : Hid (∀ g w, Tab w g → Calls Tryz.prog 16 #[.pointer (some ⟨g, 0, none⟩), .string s, .int .i64 (q : Int)] w fun e w' => e = .returned (.string (stv s q)) ∧ Below w.heap.size w w') := fun g w t => stream_ok g q s (by omega) (by omega) w t
  have H3 : Hid (∀ gB cB gT cT gs cs w, RTab w gB gT gs cs → Calls Tryz.prog 17 #[.agg #[.slice (some ⟨gB, 0, none⟩) 256 cB, .slice (some ⟨gT, 0, none⟩) 8 cT], .string s, .int .i64 (n : Int)] w fun e w' => e = .returned (.string (stv s n)) ∧ Below w.heap.size w w') := fun gB cB gT cT gs cs w r => rstream_ok gB cB gT cT n gs cs s (by omega) (by omega) w r
  have hx : (stv s n).extract 0 q = stv s q := stv_less s n q hq
  have hz : (stv s n).size = n := stv_size s n
  have e1 : (q : Int) ≤ (n : Int) := by omega
  have e2 : (0 : Int) ≤ (q : Int) := by omega
  have n1 : (n : Int) + 1 = (m : Int) := by omega
  have m0 : ¬ (m : Int) = 0 := by omega
  have m1 : ¬ m = 0 := by omega
  have b1 : ¬ (150 : Int) < (n : Int) := by omega
  have b2 : ¬ (n : Int) < 0 := by omega
  have b3 : ¬ (1048576 : Int) < (n : Int) := by omega
  clear hm
  generalize stv s q = y at *
  generalize stv s n = x at *
  go_enter Tryz.func4, Tryz.ntmps4
  go_wp2_with (first | (go_at_call 6; refine (awake11.go _).mono ?_; rintro e w1 ⟨rfl, hb1⟩) | (go_at_call 7; refine (make_any _).mono ?_; rintro e w2 ⟨g, rfl, hg, ht, hb2⟩; have HT : Hid (Hold W w2 g) := ⟨ht, hb1.trans (hb2.mono hb1.size)⟩; clear ht hb2 hb1) | (go_at_call_of 16 (#[.pointer (some ⟨g, 0, none⟩), .string s, .int .i64 (n : Int)] : Array Value); refine (H1.out _ _ HT.out.t).mono ?_; rintro e w3 ⟨rfl, hb3⟩; have HT3 : Hid (Hold W w3 g) := HT.out.below hb3; clear hb3 HT))
  have K := HT3
  go_region_held3 (fun _ => True) (trivial) (first | (go_at_call 8; refine (rmake_any _).mono ?_; rintro e w' ⟨gB, cB, gT, cT, gs, cs, rfl, hr, hb'⟩; have K' : Hid (Hold W w' g) := (by first | exact K.out.below hb' | exact Hold.below (w := w3.drew) ⟨K.out.t, K.out.d.drew⟩ hb'); have RT : Hid (RTab w' gB gT gs cs) := hr; clear K hb' hr; have K := K'; clear K') | (go_at_call 17; refine (H3.out _ _ _ _ _ _ _ RT.out).mono ?_; rintro e w' ⟨rfl, hb'⟩; have K' : Hid (Hold W w' g) := K.out.below hb'; clear K hb'; have K := K'; clear K') | (go_at_call 16; refine (H2.out _ _ K.out.t).mono ?_; rintro e w' ⟨rfl, hb'⟩; have K' : Hid (Hold W w' g) := K.out.below hb'; clear K hb'; have K := K'; clear K'))
  go_wp2
  go_ret
  exact ⟨rfl, K.out.d⟩
theorem sw_any (s : ByteArray) (n l : Int) : Ret 4 #[.string s, .int .i64 n, .int .i64 l] (.bool true) := by
  by_cases hs : 100 < s.size
  · exact sw_long s n l hs
  by_cases hn : n < 0 ∨ 1048576 < n
  · exact sw_bad s n l (by omega) hn
  by_cases hf : 150 < n
  · exact sw_far s n l (by omega) hf (by omega)
  obtain ⟨k, rfl⟩ : ∃ k : Nat, n = (k : Int) := ⟨n.toNat, by omega⟩
  have hp : (0 : Int) < ((k + 1 : Nat) : Int) := by omega
  have b1 := Int.lt_tmod_of_pos l hp
  have b2 := Int.tmod_lt_of_pos l hp
  have hnn : 0 ≤ l.tmod ((k + 1 : Nat) : Int) + (k : Int) + 1 := by omega
  have b3 := Int.tmod_lt_of_pos (l.tmod ((k + 1 : Nat) : Int) + (k : Int) + 1) hp
  have b4 := Int.tmod_nonneg ((k + 1 : Nat) : Int) hnn
  exact sw_core s k (k + 1) ((l.tmod ((k + 1 : Nat) : Int) + (k : Int) + 1).tmod ((k + 1 : Nat) : Int)).toNat l (l.tmod ((k + 1 : Nat) : Int)) (by omega) (by omega) rfl rfl (by omega) (by omega) (by omega) (by omega)
end Go.Proofs.YtbfhiemkpmjmoaaGreat
