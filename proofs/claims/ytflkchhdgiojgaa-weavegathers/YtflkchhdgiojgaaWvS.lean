/- Contracts of the errors of weave.Gather and weave.Scatter, of steepleref09.bits, of steepleref06.All and of the errors of steepleref09.Gather and steepleref09.Scatter over the seat's translation. -/
import Derived.Test.YtflkchhdgiojgaaWvR
import Derived.Test.YtflkchhdgiojgaaRfE
namespace Go.Proofs.Ytflkchhdgiojgaa
open Go.RowKit

set_option maxHeartbeats 400000 in
theorem scatter_arg (f t : Int) (h : ¬ (0 ≤ f ∧ f ≤ t ∧ t ≤ 7)) (v : Value) : Ret 20 #[.int .i64 f, .int .i64 t, v] (.tuple #[.slice none 0 0, .int .i64 1]) := by
  intro W
  have HU := isUp_no f t h
  clear h
  go_enter Try.func20, Try.ntmps20
  go_wp2_with fail
  refine (HU.go _).mono ?_
  rintro e w1 ⟨rfl, hb1⟩
  go_wp2
  refine bodyPost_ret (v := .tuple #[.slice none 0 0, .int .i64 1]) (by simp [results, Try.results20, go_sem]) rfl ⟨rfl, ?_⟩
  exact hb1
set_option maxHeartbeats 400000 in
theorem scatter_field (f t : Int) (h0 : 0 ≤ f) (h1 : f ≤ t) (h2 : t ≤ 7) (a : Option Addr) (cap : Nat) (es : List (Nat × Nat)) (hn : es.length ≤ 100000) (hes : ltE es) (ho : (es.all fun e => ofB t (e.1 : Int) (e.2 : Int)) = false) (W : World) (hr : ERow W a es) :
    Calls Try.prog 20 #[.int .i64 f, .int .i64 t, .slice a es.length cap] W fun e w' => e = .returned (.tuple #[.slice none 0 0, .int .i64 5]) ∧ Below W.heap.size W w' := by
  have HU : Hid (Ret 35 #[.int .i64 f, .int .i64 t] (.bool true)) := isUp_ok _ _ h0 h1 h2
  have HA : Hid (∀ w, Below W.heap.size W w → Calls Try.prog 30 #[.int .i64 t, .slice a es.length cap] w fun e w' => e = .returned (.bool false) ∧ Below w.heap.size w w') := fun w hb => by
    have := wall_any t a cap es hes w (hr.below hb) (by omega)
    rw [ho] at this
    exact this
  clear hr ho hes
  go_enter Try.func20, Try.ntmps20
  go_wp2_with (first | (go_at_call 35; refine (HU.out.go _).mono ?_; rintro e w1 ⟨rfl, hb1⟩) | (go_at_call 30; refine (HA.out _ hb1).mono ?_; rintro e w2 ⟨rfl, hb2⟩))
  refine bodyPost_ret (v := .tuple #[.slice none 0 0, .int .i64 5]) (by simp [results, Try.results20, go_sem]) rfl ⟨rfl, ?_⟩
  exact hb1.trans (hb2.mono hb1.size)
set_option maxHeartbeats 400000 in
theorem gather_field (f t d each : Nat) (hd : f + d = t) (ht : t < 8) (he : each = 2 ^ d) (a : Option Addr) (cap : Nat) (es : List (Nat × Nat)) (hl : es.length ≤ 100000) (hn : es.length % each = 0) (hes : ltE es) (ho : (es.all fun e => ofB (f : Int) (e.1 : Int) (e.2 : Int)) = false) (W : World) (hr : ERow W a es) :
    Calls Try.prog 18 #[.int .i64 (f : Int), .int .i64 (t : Int), .slice a es.length cap] W fun e w' => e = .returned (.tuple #[.slice none 0 0, .int .i64 5]) ∧ Below W.heap.size W w' := by
  have HU : Hid (Ret 35 #[.int .i64 (f : Int), .int .i64 (t : Int)] (.bool true)) := isUp_ok _ _ (by omega) (by omega) (by omega)
  have HA : Hid (∀ w, Below W.heap.size W w → Calls Try.prog 30 #[.int .i64 (f : Int), .slice a es.length cap] w fun e w' => e = .returned (.bool false) ∧ Below w.heap.size w w') := fun w hb => by
    have := wall_any (f : Int) a cap es hes w (hr.below hb) (by omega)
    rw [ho] at this
    exact this
  have hep : 0 < each := by rw [he]; exact Nat.two_pow_pos d
  have h1 : IntKind.i64.wrap ((t : Int) - f) = (d : Int) := by rw [IntKind.wrap_i64]; omega
  have h2 : IntKind.i64.wrap (2 ^ d) = (each : Int) := by
    have h1 : 2 ^ d < 2 ^ 8 := Nat.pow_lt_pow_right (by decide) (by omega)
    rw [IntKind.wrap_i64, show (2 : Int) ^ d = ((2 ^ d : Nat) : Int) by simp, he]
    generalize 2 ^ d = p at *
    omega
  have h3 : (es.length : Int).tmod (each : Int) = 0 := by rw [Int.tmod_eq_emod_of_nonneg (by omega)]; exact_mod_cast hn
  have h5 : ¬ (each : Int) = 0 := by omega
  have h6 : (0 : Int) ≤ (d : Int) := by omega
  have h7 : (d : Int) < 64 := by omega
  clear hr ho hes he hd hn
  go_enter Try.func18, Try.ntmps18
  go_wp2_with (first | (go_at_call 35; refine (HU.out.go _).mono ?_; rintro e w1 ⟨rfl, hb1⟩) | (go_at_call 30; refine (HA.out _ hb1).mono ?_; rintro e w2 ⟨rfl, hb2⟩))
  refine bodyPost_ret (v := .tuple #[.slice none 0 0, .int .i64 5]) (by simp [results, Try.results18, go_sem]) rfl ⟨rfl, ?_⟩
  exact hb1.trans (hb2.mono hb1.size)
set_option maxHeartbeats 2000000 in
/-- The document's side: are all elements of a level? -/
theorem rall_any (l : Int) (a : Option Addr) (cap : Nat) (es : List (Nat × Nat)) (hes : ltE es) (W : World) (hr : ERow W a es) (h10 : es.length ≤ 100000) :
    Calls Try.prog 33 #[.int .i64 l, .slice a es.length cap] W fun e w' => e = .returned (.bool (es.all fun e => ofB l (e.1 : Int) (e.2 : Int))) ∧ Below W.heap.size W w' := by
  have HR : Hid (ERow W a es) := hr
  have HO : Hid (∀ j : Nat, Ret 46 #[.int .i64 l, .agg #[.int .u64 ((es.getD j (0, 0)).1 : Int), .int .u64 ((es.getD j (0, 0)).2 : Int)]] (.bool (ofB l ((es.getD j (0, 0)).1 : Int) ((es.getD j (0, 0)).2 : Int)))) := fun j => rof_any l _ _ (hes.at j).1 (hes.at j).2
  clear hr hes
  go_enter Try.func33, Try.ntmps33
  go_wp2_with fail
  go_loopw [5] (fun u wr => ∃ j : Nat, j ≤ es.length ∧ u = .int .i64 j ∧ Hid ((es.take j).all (fun e => ofB l (e.1 : Int) (e.2 : Int)) = true) ∧ Below W.heap.size W wr) (fun u _ => es.length - (intOf u).toNat)
  case atStart => exact ⟨0, Nat.zero_le _, rfl, (by rfl), Below.refl _ _⟩
  case round =>
    obtain ⟨j, hj, rfl, HT, hD⟩ := hrel
    by_cases hlt : j < es.length
    · obtain ⟨b, off, rfl, hb, c1, c0⟩ := HR.out.cells j hlt
      have d1 : wr.cell? ⟨b, off + j * 2, none⟩ = some (.int .u64 ((es.getD j (0, 0)).1 : Nat)) := by rw [hD.cell (p := ⟨b, off + j * 2, none⟩) hb]; exact c1
      have d0 : wr.cell? ⟨b, off + j * 2 + 1, none⟩ = some (.int .u64 ((es.getD j (0, 0)).2 : Nat)) := by rw [hD.cell (p := ⟨b, off + j * 2 + 1, none⟩) hb]; exact c0
      have H1 := HO.out j
      have HD : Hid (Below W.heap.size W wr) := hD
      have HS : Hid (es.take (j + 1) = es.take j ++ [es.getD j (0, 0)]) := take_sn es j hlt
      have HM : Hid (es.getD j (0, 0) ∈ es) := by show _ ∈ _; rw [show es.getD j (0, 0) = es[j] by simp [hlt]]; exact List.getElem_mem hlt
      clear hD c1 c0 HR HO
      generalize es.getD j (0, 0) = x at *
      rcases hB : ofB l (x.1 : Int) (x.2 : Int) with _ | _
      · rw [hB] at H1
        go_wp2_with fail
        refine (H1.go _).mono ?_
        rintro e w4 ⟨rfl, hb4⟩
        have HD4 : Hid (Below W.heap.size W w4) := HD.out.trans (hb4.mono HD.out.size)
        clear hb4 d1 d0 HD
        go_wp2
        go_ret
        refine ⟨?_, HD4.out⟩
        rw [show (es.all fun e => ofB l (e.1 : Int) (e.2 : Int)) = false from by
          rw [List.all_eq_false]; exact ⟨x, HM.out, by rw [hB]; decide⟩]
        rfl
      · rw [hB] at H1
        go_wp2_with fail
        refine (H1.go _).mono ?_
        rintro e w4 ⟨rfl, hb4⟩
        have HD4 : Hid (Below W.heap.size W w4) := HD.out.trans (hb4.mono HD.out.size)
        clear hb4 d1 d0 HD
        go_wp2
        exact ⟨⟨j + 1, hlt, by simp, (by show _ = _; rw [HS.out, List.all_append, HT.out]; simp [hB]), HD4.out⟩, by simp [intOf]; omega⟩
    · have HD : Hid (Below W.heap.size W wr) := hD
      obtain rfl : j = es.length := by omega
      clear hD
      go_wp2
      go_ret
      refine ⟨?_, HD.out⟩
      have := HT.out
      rw [List.take_of_length_le (Nat.le_refl _)] at this
      rw [this]
      rfl
set_option maxHeartbeats 400000 in
/-- How many bits an element of a level has. -/
theorem rbits_any (k : Nat) (hk : k < 8) : Ret 37 #[.int .i64 (k : Int)] (.int .i64 ((2 ^ k : Nat) : Int)) := by
  intro W
  rcases (show k = 0 ∨ k = 1 ∨ k = 2 ∨ k = 3 ∨ k = 4 ∨ k = 5 ∨ k = 6 ∨ k = 7 by omega) with rfl | rfl | rfl | rfl | rfl | rfl | rfl | rfl <;>
  · go_enter Try.func37, Try.ntmps37
    go_wp2
    go_ret
    refine ⟨rfl, ?_⟩
    first | exact Below.refl _ _ | go_grown

set_option maxHeartbeats 400000 in
theorem rgather_arg (f t : Int) (h : ¬ (0 ≤ f ∧ f ≤ t ∧ t ≤ 7)) (v : Value) : Ret 19 #[.int .i64 f, .int .i64 t, v] (.tuple #[.slice none 0 0, .int .i64 1]) := by
  intro W
  rcases (show f < 0 ∨ (¬ f < 0 ∧ 7 < t) ∨ (¬ f < 0 ∧ ¬ 7 < t ∧ t < f) by omega) with h1 | ⟨h1, h2⟩ | ⟨h1, h2, h3⟩
  all_goals
    clear h
    go_enter Try.func19, Try.ntmps19
    go_wp2
    refine bodyPost_ret (v := .tuple #[.slice none 0 0, .int .i64 1]) (by simp [results, Try.results19, go_sem]) rfl ⟨rfl, ?_⟩
    first | exact Below.refl _ _ | go_grown
set_option maxHeartbeats 400000 in
theorem rscatter_arg (f t : Int) (h : ¬ (0 ≤ f ∧ f ≤ t ∧ t ≤ 7)) (v : Value) : Ret 21 #[.int .i64 f, .int .i64 t, v] (.tuple #[.slice none 0 0, .int .i64 1]) := by
  intro W
  rcases (show f < 0 ∨ (¬ f < 0 ∧ 7 < t) ∨ (¬ f < 0 ∧ ¬ 7 < t ∧ t < f) by omega) with h1 | ⟨h1, h2⟩ | ⟨h1, h2, h3⟩
  all_goals
    clear h
    go_enter Try.func21, Try.ntmps21
    go_wp2
    refine bodyPost_ret (v := .tuple #[.slice none 0 0, .int .i64 1]) (by simp [results, Try.results21, go_sem]) rfl ⟨rfl, ?_⟩
    first | exact Below.refl _ _ | go_grown
set_option maxHeartbeats 1000000 in
theorem rscatter_field (f t : Int) (h0 : 0 ≤ f) (h1 : f ≤ t) (h2 : t ≤ 7) (a : Option Addr) (cap n : Nat) (W : World)
    (HA : Hid (Calls Try.prog 33 #[.int .i64 t, .slice a n cap] W fun e w' => e = .returned (.bool false) ∧ Below W.heap.size W w')) :
    Calls Try.prog 21 #[.int .i64 f, .int .i64 t, .slice a n cap] W fun e w' => e = .returned (.tuple #[.slice none 0 0, .int .i64 5]) ∧ Below W.heap.size W w' := by
  go_enter Try.func21, Try.ntmps21
  go_wp2_with (first | (go_at_call 33; refine (HA.out).mono ?_; rintro e w1 ⟨rfl, hb1⟩))
  refine bodyPost_ret (v := .tuple #[.slice none 0 0, .int .i64 5]) (by simp [results, Try.results21, go_sem]) rfl ⟨rfl, ?_⟩
  exact hb1
set_option maxHeartbeats 1000000 in
theorem rgather_size (f t : Int) (h0 : 0 ≤ f) (h1 : f ≤ t) (h2 : t ≤ 7) (B b many : Nat) (hb : 0 < b) (hm : 0 < many) (hB : B ≤ 128) (hBm : B = many * b) (a : Option Addr) (cap n : Nat) (hn : ¬ n % many = 0) (W : World)
    (HT : Hid (Ret 37 #[.int .i64 t] (.int .i64 (B : Int)))) (HF : Hid (Ret 37 #[.int .i64 f] (.int .i64 (b : Int)))) :
    Calls Try.prog 19 #[.int .i64 f, .int .i64 t, .slice a n cap] W fun e w' => e = .returned (.tuple #[.slice none 0 0, .int .i64 6]) ∧ Below W.heap.size W w' := by
  have k1 : (B : Int).tdiv (b : Int) = (many : Int) := by rw [Int.tdiv_eq_ediv_of_nonneg (by omega), hBm]; rw [Int.natCast_mul]; exact Int.mul_ediv_cancel _ (by omega)
  have k2 : IntKind.i64.wrap (many : Int) = (many : Int) := by
    have : many ≤ B := by rw [hBm]; exact Nat.le_mul_of_pos_right _ hb
    rw [IntKind.wrap_i64]; omega
  obtain ⟨m, hm1⟩ : ∃ m : Nat, n % many = m := ⟨_, rfl⟩
  have k3 : (n : Int).tmod (many : Int) = (m : Int) := by rw [Int.tmod_eq_emod_of_nonneg (by omega), ← hm1]; simp
  have k4 : ¬ (b : Int) = 0 := by omega
  have k5 : ¬ (many : Int) = 0 := by omega
  have k6 : ¬ b = 0 := by omega
  have k7 : ¬ many = 0 := by omega
  have k8 : ¬ m = 0 := by omega
  have k9 : ¬ (m : Int) = 0 := by omega
  clear hBm hn hm1
  have D : Hid (Below W.heap.size W W) := Below.refl _ _
  go_enter Try.func19, Try.ntmps19
  go_wp2_with (first | (go_at_call 37; (first | refine (HT.out.go _).mono ?_ | refine (HF.out.go _).mono ?_); rintro e w1 ⟨rfl, hb1⟩; have D1 : Hid (Below W.heap.size W w1) := D.out.trans (hb1.mono D.out.size); clear D hb1; have D := D1; clear D1))
  refine bodyPost_ret (v := .tuple #[.slice none 0 0, .int .i64 6]) (by simp [results, Try.results19, go_sem]) rfl ⟨rfl, ?_⟩
  exact D.out
set_option maxHeartbeats 1000000 in
theorem rgather_field (f t : Int) (h0 : 0 ≤ f) (h1 : f ≤ t) (h2 : t ≤ 7) (B b many : Nat) (hb : 0 < b) (hm : 0 < many) (hB : B ≤ 128) (hBm : B = many * b) (a : Option Addr) (cap n : Nat) (hn : n % many = 0) (W : World)
    (HT : Hid (Ret 37 #[.int .i64 t] (.int .i64 (B : Int)))) (HF : Hid (Ret 37 #[.int .i64 f] (.int .i64 (b : Int))))
    (HA : Hid (∀ w, Below W.heap.size W w → Calls Try.prog 33 #[.int .i64 f, .slice a n cap] w fun e w' => e = .returned (.bool false) ∧ Below w.heap.size w w')) :
    Calls Try.prog 19 #[.int .i64 f, .int .i64 t, .slice a n cap] W fun e w' => e = .returned (.tuple #[.slice none 0 0, .int .i64 5]) ∧ Below W.heap.size W w' := by
  have k1 : (B : Int).tdiv (b : Int) = (many : Int) := by rw [Int.tdiv_eq_ediv_of_nonneg (by omega), hBm]; rw [Int.natCast_mul]; exact Int.mul_ediv_cancel _ (by omega)
  have k2 : IntKind.i64.wrap (many : Int) = (many : Int) := by
    have : many ≤ B := by rw [hBm]; exact Nat.le_mul_of_pos_right _ hb
    rw [IntKind.wrap_i64]; omega
  have k3 : (n : Int).tmod (many : Int) = 0 := by rw [Int.tmod_eq_emod_of_nonneg (by omega)]; exact_mod_cast hn
  have k4 : ¬ (b : Int) = 0 := by omega
  have k5 : ¬ (many : Int) = 0 := by omega
  have k6 : ¬ b = 0 := by omega
  have k7 : ¬ many = 0 := by omega
  clear hBm hn
  have D : Hid (Below W.heap.size W W) := Below.refl _ _
  go_enter Try.func19, Try.ntmps19
  go_wp2_with (first | (go_at_call 37; (first | refine (HT.out.go _).mono ?_ | refine (HF.out.go _).mono ?_); rintro e w1 ⟨rfl, hb1⟩; have D1 : Hid (Below W.heap.size W w1) := D.out.trans (hb1.mono D.out.size); clear D hb1; have D := D1; clear D1) | (go_at_call 33; refine (HA.out _ D.out).mono ?_; rintro e w1 ⟨rfl, hb1⟩; have D1 : Hid (Below W.heap.size W w1) := D.out.trans (hb1.mono D.out.size); clear D hb1; have D := D1; clear D1))
  refine bodyPost_ret (v := .tuple #[.slice none 0 0, .int .i64 5]) (by simp [results, Try.results19, go_sem]) rfl ⟨rfl, ?_⟩
  exact D.out
end Go.Proofs.Ytflkchhdgiojgaa
